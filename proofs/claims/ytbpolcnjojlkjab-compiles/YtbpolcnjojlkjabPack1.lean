/- Model, RefHead -/
import Derived.Test.YtbpolcnjojlkjabPack0

/- Plain functions: the text's bytes, a step's head. Nothing of the program. -/
namespace Go.Proofs.Ytbpolcnjojlkjab.Split

/-- The byte at a place (256: none). -/
def byt (t : ByteArray) (i : Nat) : Int := if h : i < t.size then (t[i].toNat : Int) else 256
theorem byt_lt {t : ByteArray} {i : Nat} (h : i < t.size) : byt t i = (t[i].toNat : Int) := by simp [byt, h]
theorem byt_ge {t : ByteArray} {i : Nat} (h : ¬ i < t.size) : byt t i = 256 := by simp [byt, h]
theorem byt_bd (t : ByteArray) (i : Nat) : 0 ≤ byt t i ∧ byt t i ≤ 256 := by
  unfold byt
  split
  · have := (t[i]).toNat_lt; omega
  · omega
theorem lt_of_byt {t : ByteArray} {i : Nat} (h : byt t i ≠ 256) : i < t.size := by
  by_cases hx : i < t.size
  · exact hx
  · exact absurd (byt_ge hx) h
theorem byt_255 {t : ByteArray} {i : Nat} (h : i < t.size) : byt t i ≤ 255 := by
  rw [byt_lt h]; have := (t[i]).toNat_lt; omega

def dig (c : Int) : Bool := decide (48 ≤ c ∧ c ≤ 57)
def buc (c : Int) : Bool := decide (97 ≤ c ∧ c ≤ 104)
theorem dig_t {c : Int} : dig c = true ↔ (48 ≤ c ∧ c ≤ 57) := by simp [dig]
theorem dig_f {c : Int} : dig c = false ↔ (c < 48 ∨ 57 < c) := by simp [dig]; omega
theorem buc_t {c : Int} : buc c = true ↔ (97 ≤ c ∧ c ≤ 104) := by simp [buc]
theorem buc_f {c : Int} : buc c = false ↔ (c < 97 ∨ 104 < c) := by simp [buc]; omega

/-- How far digits stand: at most n of them. -/
def digM (t : ByteArray) (i : Nat) : Nat → Nat
  | 0 => i
  | n + 1 => if dig (byt t i) then digM t (i + 1) n else i
theorem digM_le (t : ByteArray) : ∀ n i, i ≤ digM t i n ∧ digM t i n ≤ i + n
  | 0, i => by simp [digM]
  | n + 1, i => by
    have := digM_le t n (i + 1)
    unfold digM
    split <;> omega
theorem digM_size (t : ByteArray) : ∀ n i, i ≤ t.size → digM t i n ≤ t.size
  | 0, i, h => by simpa [digM] using h
  | n + 1, i, h => by
    unfold digM
    split
    · rename_i hd
      exact digM_size t n (i + 1) (lt_of_byt (by rw [dig_t] at hd; omega))
    · exact h

def bucM (t : ByteArray) (i : Nat) : Nat := if buc (byt t i) then i + 1 else i
theorem bucM_t {t : ByteArray} {i : Nat} (h : buc (byt t i) = true) : bucM t i = i + 1 := by simp [bucM, h]
theorem bucM_f {t : ByteArray} {i : Nat} (h : buc (byt t i) = false) : bucM t i = i := by simp [bucM, h]
theorem bucM_le (t : ByteArray) (i : Nat) : i ≤ bucM t i ∧ bucM t i ≤ i + 1 := by unfold bucM; split <;> omega
theorem bucM_size (t : ByteArray) (i : Nat) (h : i ≤ t.size) : bucM t i ≤ t.size := by
  unfold bucM
  split
  · rename_i hd
    exact lt_of_byt (by rw [buc_t] at hd; omega)
  · exact h

/-- Does the bucket at place j rise above the one ahead of it? -/
def riseB (t : ByteArray) (j : Nat) : Bool := buc (byt t j) && decide (byt t (j - 1) < byt t j)
def riseM (t : ByteArray) : Nat → Nat → Nat
  | 0, j => j
  | f + 1, j => if riseB t j then riseM t f (j + 1) else j
theorem riseM_le (t : ByteArray) : ∀ f j, j ≤ riseM t f j
  | 0, j => Nat.le_refl _
  | f + 1, j => by
    have := riseM_le t f (j + 1)
    unfold riseM
    split <;> omega
theorem riseM_size (t : ByteArray) : ∀ f j, j ≤ t.size → riseM t f j ≤ t.size
  | 0, j, h => h
  | f + 1, j, h => by
    unfold riseM
    split
    · rename_i hd
      exact riseM_size t f (j + 1) (lt_of_byt (by simp [riseB, buc_t] at hd; omega))
    · exact h
def risM (t : ByteArray) (i : Nat) : Nat := if buc (byt t i) then riseM t t.size (i + 1) else i
theorem risM_le (t : ByteArray) (i : Nat) : i ≤ risM t i := by
  unfold risM
  split
  · have := riseM_le t t.size (i + 1); omega
  · omega
theorem risM_size (t : ByteArray) (i : Nat) (h : i ≤ t.size) : risM t i ≤ t.size := by
  unfold risM
  split
  · rename_i hd
    exact riseM_size t _ _ (lt_of_byt (by rw [buc_t] at hd; omega))
  · exact h

/-- A step's head: the place behind it, how many blocks it has, whether it stands. -/
def headM (t : ByteArray) (i : Nat) : Nat × Nat × Bool :=
  if byt t i = 80 then (bucM t (i + 1), 0, decide (bucM t (i + 1) = i + 2))
  else if byt t i = 67 ∨ byt t i = 73 then
    if bucM t (i + 1) = i + 2 then (digM t (i + 2) 4, if byt t i = 73 then 2 else 0, decide (digM t (i + 2) 4 = i + 6))
    else (bucM t (i + 1), 0, false)
  else if byt t i = 82 then
    if byt t (i + 1) = 104 then (i + 1, 0, false) else (risM t (i + 1), 0, decide (i + 3 ≤ risM t (i + 1)))
  else if byt t i = 72 then
    if digM t (i + 1) 2 = i + 3 ∧ byt t (i + 1) = 48 ∧ byt t (i + 2) = 48 then (i + 2, 1, false) else (digM t (i + 1) 2, 1, decide (digM t (i + 1) 2 = i + 3))
  else (i, 0, false)
end Go.Proofs.Ytbpolcnjojlkjab.Split

/- splitref's digits, bucket, rising, head, by their contracts. -/
namespace Go.Proofs.Ytbpolcnjojlkjab
open Go.ChangeShapes Go.WideShapes Go.ChangeAt Go.RowKit
open Split (byt dig buc digM bucM riseB riseM risM headM byt_lt byt_ge dig_t dig_f buc_t buc_f)
set_option linter.unusedVariables false
set_option linter.unusedSimpArgs false

theorem isDigit_any (c : Int) (w : World) : Calls Try.prog 68 #[.int .u8 c] w fun e w' => e = .returned (.bool (dig c)) ∧ w' = w := by
  by_cases h0 : 48 ≤ c
  · by_cases h1 : c ≤ 57
    · rw [dig_t.2 ⟨h0, h1⟩]
      go_enter Try.func68, Try.ntmps68
      go_wp2
      go_ret
      exact ⟨rfl, rfl⟩
    · rw [dig_f.2 (by omega)]
      go_enter Try.func68, Try.ntmps68
      go_wp2
      go_ret
      exact ⟨rfl, rfl⟩
  · rw [dig_f.2 (by omega)]
    go_enter Try.func68, Try.ntmps68
    go_wp2
    go_ret
    exact ⟨rfl, rfl⟩

theorem isBucket_any (c : Int) (w : World) : Calls Try.prog 67 #[.int .u8 c] w fun e w' => e = .returned (.bool (buc c)) ∧ w' = w := by
  by_cases h0 : 97 ≤ c
  · by_cases h1 : c ≤ 104
    · rw [buc_t.2 ⟨h0, h1⟩]
      go_enter Try.func67, Try.ntmps67
      go_wp2
      go_ret
      exact ⟨rfl, rfl⟩
    · rw [buc_f.2 (by omega)]
      go_enter Try.func67, Try.ntmps67
      go_wp2
      go_ret
      exact ⟨rfl, rfl⟩
  · rw [buc_f.2 (by omega)]
    go_enter Try.func67, Try.ntmps67
    go_wp2
    go_ret
    exact ⟨rfl, rfl⟩

theorem ret_int {k : IntKind} {a b : Int} (h : a = b) : Ending.returned (.int k a) = .returned (.int k b) := by rw [h]

set_option maxHeartbeats 1000000 in
theorem digits_any (t : ByteArray) (i n : Nat) (w : World) (hs : t.size ≤ 120) (hi : i ≤ 1000) (hn : n ≤ 10) :
    Calls Try.prog 44 #[.string t, .int .i64 i, .int .i64 n] w fun e w' => e = .returned (.int .i64 (digM t i n : Nat)) ∧ w' = w := by
  go_enter Try.func44, Try.ntmps44
  go_wp2
  go_loop [7] (fun j => ∃ k : Nat, k ≤ n ∧ j = .int .i64 (i + k : Nat) ∧ Hid (digM t i n = digM t (i + k) (n - k))) (fun j => i + n - (intOf j).toNat)
  case atStart => exact ⟨0, Nat.zero_le _, rfl, rfl⟩
  case round =>
    obtain ⟨k, hk, rfl, hd⟩ := hrel
    by_cases hlt : k < n
    · by_cases hsz : i + k < t.size
      · obtain ⟨n', hn'⟩ : ∃ n', n - k = n' + 1 := ⟨n - k - 1, by omega⟩
        have hb := byt_lt hsz
        have HN := hide hn'
        have HB := hide hb
        clear hn' hb
        cases hc : dig (byt t (i + k))
        · have HC := hide hc
          rw [unhide HB] at hc
          go_wp2_with (go_at_call 68; refine (isDigit_any _ _).mono ?_; rintro e w' ⟨rfl, rfl⟩)
          go_ret
          refine ⟨ret_int ?_, rfl⟩
          rw [unhide hd, unhide HN]
          simp [digM, unhide HC]
        · have HC := hide hc
          rw [unhide HB] at hc
          go_wp2_with (go_at_call 68; refine (isDigit_any _ _).mono ?_; rintro e w' ⟨rfl, rfl⟩)
          go_round
          case rel =>
            refine ⟨k + 1, by omega, by go_num, ?_⟩
            have h1 := unhide hd
            rw [unhide HN] at h1
            simp only [digM, unhide HC, if_true] at h1
            have e : n - (k + 1) = n' := by have := unhide HN; omega
            rw [e]
            exact h1
          case measure => simp [intOf]; omega
      · go_wp2
        go_ret
        refine ⟨ret_int ?_, rfl⟩
        rw [unhide hd]
        obtain ⟨n', hn'⟩ : ∃ n', n - k = n' + 1 := ⟨n - k - 1, by omega⟩
        rw [hn']
        simp [digM, byt_ge hsz, dig]
    · go_wp2
      go_ret
      refine ⟨ret_int ?_, rfl⟩
      have e : n - k = 0 := by omega
      rw [unhide hd, e]
      rfl

theorem bucket_any (t : ByteArray) (i : Nat) (w : World) (hs : t.size ≤ 120) (hi : i ≤ 1000) :
    Calls Try.prog 43 #[.string t, .int .i64 i] w fun e w' => e = .returned (.int .i64 (bucM t i : Nat)) ∧ w' = w := by
  by_cases hsz : i < t.size
  · have HB := hide (byt_lt hsz)
    cases hc : buc (byt t i)
    · rw [Split.bucM_f hc]
      rw [unhide HB] at hc
      go_enter Try.func43, Try.ntmps43
      go_wp2_with (go_at_call 67; refine (isBucket_any _ _).mono ?_; rintro e w' ⟨rfl, rfl⟩)
      go_ret
      exact ⟨rfl, rfl⟩
    · rw [Split.bucM_t hc]
      rw [unhide HB] at hc
      go_enter Try.func43, Try.ntmps43
      go_wp2_with (go_at_call 67; refine (isBucket_any _ _).mono ?_; rintro e w' ⟨rfl, rfl⟩)
      go_ret
      exact ⟨ret_int (by omega), rfl⟩
  · rw [Split.bucM_f (by rw [byt_ge hsz]; decide)]
    go_enter Try.func43, Try.ntmps43
    go_wp2
    go_ret
    exact ⟨rfl, rfl⟩

theorem drewN_more {w wr : World} {m : Nat} (h : ∃ n, wr = w.drewN n) : ∃ n, wr.drewN m = w.drewN n := by
  obtain ⟨n, rfl⟩ := h
  exact ⟨_, World.drewN_drewN _ _ _⟩

theorem riseM_stop (t : ByteArray) (f j : Nat) (h : riseB t j = false) : riseM t f j = j := by
  cases f with
  | zero => rfl
  | succ f => simp [riseM, h]

set_option maxHeartbeats 2000000 in
theorem rising_any (t : ByteArray) (i : Nat) (w : World) (hs : t.size ≤ 120) (hi : i ≤ 1000) :
    Calls Try.prog 45 #[.string t, .int .i64 i] w fun e w' => e = .returned (.int .i64 (risM t i : Nat)) ∧ ∃ n, w' = w.drewN n := by
  cases hb : buc (byt t i)
  · have e1 : bucM t i = i := Split.bucM_f hb
    have e2 : risM t i = i := by simp [risM, hb]
    rw [e2]
    have H1 := hide e1
    clear e1 e2 hb
    go_enter Try.func45, Try.ntmps45
    go_wp2_with fail
    refine (bucket_any t i _ hs hi).mono ?_
    rintro e w1 ⟨rfl, hw⟩
    have hw := hw.symm
    subst hw
    rw [unhide H1]
    go_wp2_with fail
    refine wp_loop_rounds 1 ?_
    rw [rounds_succ]
    go_wp2_with fail
    go_quiet (fail)
    go_wp2
    go_ret
    exact ⟨rfl, _, rfl⟩
  · have e1 : bucM t i = i + 1 := Split.bucM_t hb
    have e2 : risM t i = riseM t t.size (i + 1) := by simp [risM, hb]
    have hlt : i < t.size := Split.lt_of_byt (by rw [buc_t] at hb; omega)
    rw [e2]
    have H1 := hide e1
    clear e1 e2 hb
    go_enter Try.func45, Try.ntmps45
    go_wp2_with fail
    refine (bucket_any t i _ hs hi).mono ?_
    rintro e w1 ⟨rfl, hw⟩
    have hw := hw.symm
    subst hw
    rw [unhide H1]
    go_wp2_with fail
    go_loopw [5] (fun j wr => ∃ k f : Nat, i < k ∧ k ≤ t.size ∧ j = .int .i64 k ∧ t.size - k ≤ f ∧ Hid (riseM t t.size (i + 1) = riseM t f k) ∧ Hid (∃ n, wr = w.drewN n)) (fun j _ => t.size - (intOf j).toNat)
    case atStart => exact ⟨i + 1, t.size, by omega, by omega, by go_num, by omega, rfl, ⟨0, rfl⟩⟩
    case round =>
      obtain ⟨k, f, hik, hk, rfl, hf, hd, hw⟩ := hrel
      by_cases hsz : k < t.size
      · have hsz1 : k - 1 < t.size := by omega
        have HB := hide (byt_lt hsz)
        have HB1 := hide (byt_lt hsz1)
        have hkk : ((k : Int) - 1) = ((k - 1 : Nat) : Int) := by omega
        cases hc : buc (byt t k)
        · have HR : Hid (riseB t k = false) := by show riseB t k = false; simp [riseB, hc]
          rw [unhide HB] at hc
          go_wp2_with fail
          go_quiet ((go_at_call 67; exact Calls.quiet_of_same (isBucket_any _ _)))
          go_wp2
          go_ret
          exact ⟨ret_int (by rw [unhide hd, riseM_stop _ _ _ (unhide HR)]), drewN_more (unhide hw)⟩
        · by_cases hgt : byt t (k - 1) < byt t k
          · have HR : Hid (riseB t k = true) := by show riseB t k = true; simp [riseB, hc, hgt]
            rw [unhide HB] at hc
            have hgt' : (t[k - 1].toNat : Int) < (t[k].toNat : Int) := by rw [← unhide HB, ← unhide HB1]; exact hgt
            clear hgt
            go_wp2_with fail
            go_quiet ((go_at_call 67; exact Calls.quiet_of_same (isBucket_any _ _)))
            go_wp2
            go_roundw
            case rel =>
              obtain ⟨f', rfl⟩ : ∃ f', f = f' + 1 := ⟨f - 1, by omega⟩
              refine ⟨k + 1, f', by omega, by omega, by go_num, by omega, ?_, drewN_more (unhide hw)⟩
              have h1 := unhide hd
              simp only [riseM, unhide HR, if_true] at h1
              exact h1
            case measure => simp [intOf]; omega
          · have HR : Hid (riseB t k = false) := by show riseB t k = false; simp [riseB, hgt]
            rw [unhide HB] at hc
            have hgt' : ¬ (t[k - 1].toNat : Int) < (t[k].toNat : Int) := by rw [← unhide HB, ← unhide HB1]; exact hgt
            clear hgt
            go_wp2_with fail
            go_quiet ((go_at_call 67; exact Calls.quiet_of_same (isBucket_any _ _)))
            go_wp2
            go_ret
            exact ⟨ret_int (by rw [unhide hd, riseM_stop _ _ _ (unhide HR)]), drewN_more (unhide hw)⟩
      · have HR : Hid (riseB t k = false) := by show riseB t k = false; simp [riseB, byt_ge hsz, buc]
        go_wp2_with fail
        go_quiet (fail)
        go_wp2
        go_ret
        exact ⟨ret_int (by rw [unhide hd, riseM_stop _ _ _ (unhide HR)]), drewN_more (unhide hw)⟩
end Go.Proofs.Ytbpolcnjojlkjab
