/- RefRead: RefHead, RefHead2, RefScan -/
import Derived.Test.YtmdjdpofpkgffabGround
import Derived.Test.YtmdjdpofpkgffabTexts
import Derived.Laws.DeepStrings4
import Derived.Lib.Strings

/- splitref's digits, bucket, rising, head, by their contracts. -/
namespace Go.Proofs.Ytmdjdpofpkgffab
open Go.ChangeShapes Go.WideShapes Go.ChangeAt Go.RowKit
open Split (byt dig buc digM bucM riseB riseM risM headM byt_lt byt_ge dig_t dig_f buc_t buc_f)
set_option linter.unusedVariables false
set_option linter.unusedSimpArgs false

theorem isDigit_any (c : Int) (w : World) : Calls Try.prog 106 #[.int .u8 c] w fun e w' => e = .returned (.bool (dig c)) ∧ w' = w := by
  by_cases h0 : 48 ≤ c
  · by_cases h1 : c ≤ 57
    · rw [dig_t.2 ⟨h0, h1⟩]
      go_enter Try.func106, Try.ntmps106
      go_wp2
      go_ret
      exact ⟨rfl, rfl⟩
    · rw [dig_f.2 (by omega)]
      go_enter Try.func106, Try.ntmps106
      go_wp2
      go_ret
      exact ⟨rfl, rfl⟩
  · rw [dig_f.2 (by omega)]
    go_enter Try.func106, Try.ntmps106
    go_wp2
    go_ret
    exact ⟨rfl, rfl⟩

theorem isBucket_any (c : Int) (w : World) : Calls Try.prog 81 #[.int .u8 c] w fun e w' => e = .returned (.bool (buc c)) ∧ w' = w := by
  by_cases h0 : 97 ≤ c
  · by_cases h1 : c ≤ 104
    · rw [buc_t.2 ⟨h0, h1⟩]
      go_enter Try.func81, Try.ntmps81
      go_wp2
      go_ret
      exact ⟨rfl, rfl⟩
    · rw [buc_f.2 (by omega)]
      go_enter Try.func81, Try.ntmps81
      go_wp2
      go_ret
      exact ⟨rfl, rfl⟩
  · rw [buc_f.2 (by omega)]
    go_enter Try.func81, Try.ntmps81
    go_wp2
    go_ret
    exact ⟨rfl, rfl⟩

theorem ret_int {k : IntKind} {a b : Int} (h : a = b) : Ending.returned (.int k a) = .returned (.int k b) := by rw [h]

set_option maxHeartbeats 1000000 in
theorem digits_any (t : ByteArray) (i n : Nat) (w : World) (hs : t.size ≤ 120) (hi : i ≤ 1000) (hn : n ≤ 10) :
    Calls Try.prog 84 #[.string t, .int .i64 i, .int .i64 n] w fun e w' => e = .returned (.int .i64 (digM t i n : Nat)) ∧ w' = w := by
  go_enter Try.func84, Try.ntmps84
  go_wp2
  go_loop [7] (fun j => ∃ k : Nat, k ≤ n ∧ j = .int .i64 (i + k : Nat) ∧ Hid (digM t i n = digM t (i + k) (n - k))) (fun j => i + n - (intOf j).toNat)
  case atStart => exact ⟨0, Nat.zero_le _, rfl, rfl⟩
  case round =>
    obtain ⟨k, hk, rfl, hd⟩ := hrel
    by_cases hlt : k < n
    · by_cases hsz : i + k < t.size
      · obtain ⟨n', hn'⟩ : ∃ n', n - k = n' + 1 := ⟨n - k - 1, by omega⟩
        have hb := byt_lt hsz
        have HN := hide hn'
        have HB := hide hb
        clear hn' hb
        cases hc : dig (byt t (i + k))
        · have HC := hide hc
          rw [unhide HB] at hc
          go_wp2_with (go_at_call 106; refine (isDigit_any _ _).mono ?_; rintro e w' ⟨rfl, rfl⟩)
          go_ret
          refine ⟨ret_int ?_, rfl⟩
          rw [unhide hd, unhide HN]
          simp [digM, unhide HC]
        · have HC := hide hc
          rw [unhide HB] at hc
          go_wp2_with (go_at_call 106; refine (isDigit_any _ _).mono ?_; rintro e w' ⟨rfl, rfl⟩)
          go_round
          case rel =>
            refine ⟨k + 1, by omega, by go_num, ?_⟩
            have h1 := unhide hd
            rw [unhide HN] at h1
            simp only [digM, unhide HC, if_true] at h1
            have e : n - (k + 1) = n' := by have := unhide HN; omega
            rw [e]
            exact h1
          case measure => simp [intOf]; omega
      · go_wp2
        go_ret
        refine ⟨ret_int ?_, rfl⟩
        rw [unhide hd]
        obtain ⟨n', hn'⟩ : ∃ n', n - k = n' + 1 := ⟨n - k - 1, by omega⟩
        rw [hn']
        simp [digM, byt_ge hsz, dig]
    · go_wp2
      go_ret
      refine ⟨ret_int ?_, rfl⟩
      have e : n - k = 0 := by omega
      rw [unhide hd, e]
      rfl

theorem bucket_any (t : ByteArray) (i : Nat) (w : World) (hs : t.size ≤ 120) (hi : i ≤ 1000) :
    Calls Try.prog 83 #[.string t, .int .i64 i] w fun e w' => e = .returned (.int .i64 (bucM t i : Nat)) ∧ w' = w := by
  by_cases hsz : i < t.size
  · have HB := hide (byt_lt hsz)
    cases hc : buc (byt t i)
    · rw [Split.bucM_f hc]
      rw [unhide HB] at hc
      go_enter Try.func83, Try.ntmps83
      go_wp2_with (go_at_call 81; refine (isBucket_any _ _).mono ?_; rintro e w' ⟨rfl, rfl⟩)
      go_ret
      exact ⟨rfl, rfl⟩
    · rw [Split.bucM_t hc]
      rw [unhide HB] at hc
      go_enter Try.func83, Try.ntmps83
      go_wp2_with (go_at_call 81; refine (isBucket_any _ _).mono ?_; rintro e w' ⟨rfl, rfl⟩)
      go_ret
      exact ⟨ret_int (by omega), rfl⟩
  · rw [Split.bucM_f (by rw [byt_ge hsz]; decide)]
    go_enter Try.func83, Try.ntmps83
    go_wp2
    go_ret
    exact ⟨rfl, rfl⟩

theorem drewN_more {w wr : World} {m : Nat} (h : ∃ n, wr = w.drewN n) : ∃ n, wr.drewN m = w.drewN n := by
  obtain ⟨n, rfl⟩ := h
  exact ⟨_, World.drewN_drewN _ _ _⟩

theorem riseM_stop (t : ByteArray) (f j : Nat) (h : riseB t j = false) : riseM t f j = j := by
  cases f with
  | zero => rfl
  | succ f => simp [riseM, h]

set_option maxHeartbeats 2000000 in
theorem rising_any (t : ByteArray) (i : Nat) (w : World) (hs : t.size ≤ 120) (hi : i ≤ 1000) :
    Calls Try.prog 85 #[.string t, .int .i64 i] w fun e w' => e = .returned (.int .i64 (risM t i : Nat)) ∧ ∃ n, w' = w.drewN n := by
  cases hb : buc (byt t i)
  · have e1 : bucM t i = i := Split.bucM_f hb
    have e2 : risM t i = i := by simp [risM, hb]
    rw [e2]
    have H1 := hide e1
    clear e1 e2 hb
    go_enter Try.func85, Try.ntmps85
    go_wp2_with fail
    refine (bucket_any t i _ hs hi).mono ?_
    rintro e w1 ⟨rfl, hw⟩
    have hw := hw.symm
    subst hw
    rw [unhide H1]
    go_wp2_with fail
    refine wp_loop_rounds 1 ?_
    rw [rounds_succ]
    go_wp2_with fail
    go_quiet (fail)
    go_wp2
    go_ret
    exact ⟨rfl, _, rfl⟩
  · have e1 : bucM t i = i + 1 := Split.bucM_t hb
    have e2 : risM t i = riseM t t.size (i + 1) := by simp [risM, hb]
    have hlt : i < t.size := Split.lt_of_byt (by rw [buc_t] at hb; omega)
    rw [e2]
    have H1 := hide e1
    clear e1 e2 hb
    go_enter Try.func85, Try.ntmps85
    go_wp2_with fail
    refine (bucket_any t i _ hs hi).mono ?_
    rintro e w1 ⟨rfl, hw⟩
    have hw := hw.symm
    subst hw
    rw [unhide H1]
    go_wp2_with fail
    go_loopw [5] (fun j wr => ∃ k f : Nat, i < k ∧ k ≤ t.size ∧ j = .int .i64 k ∧ t.size - k ≤ f ∧ Hid (riseM t t.size (i + 1) = riseM t f k) ∧ Hid (∃ n, wr = w.drewN n)) (fun j _ => t.size - (intOf j).toNat)
    case atStart => exact ⟨i + 1, t.size, by omega, by omega, by go_num, by omega, rfl, ⟨0, rfl⟩⟩
    case round =>
      obtain ⟨k, f, hik, hk, rfl, hf, hd, hw⟩ := hrel
      by_cases hsz : k < t.size
      · have hsz1 : k - 1 < t.size := by omega
        have HB := hide (byt_lt hsz)
        have HB1 := hide (byt_lt hsz1)
        have hkk : ((k : Int) - 1) = ((k - 1 : Nat) : Int) := by omega
        cases hc : buc (byt t k)
        · have HR : Hid (riseB t k = false) := by show riseB t k = false; simp [riseB, hc]
          rw [unhide HB] at hc
          go_wp2_with fail
          go_quiet ((go_at_call 81; exact Calls.quiet_of_same (isBucket_any _ _)))
          go_wp2
          go_ret
          exact ⟨ret_int (by rw [unhide hd, riseM_stop _ _ _ (unhide HR)]), drewN_more (unhide hw)⟩
        · by_cases hgt : byt t (k - 1) < byt t k
          · have HR : Hid (riseB t k = true) := by show riseB t k = true; simp [riseB, hc, hgt]
            rw [unhide HB] at hc
            have hgt' : (t[k - 1].toNat : Int) < (t[k].toNat : Int) := by rw [← unhide HB, ← unhide HB1]; exact hgt
            clear hgt
            go_wp2_with fail
            go_quiet ((go_at_call 81; exact Calls.quiet_of_same (isBucket_any _ _)))
            go_wp2
            go_roundw
            case rel =>
              obtain ⟨f', rfl⟩ : ∃ f', f = f' + 1 := ⟨f - 1, by omega⟩
              refine ⟨k + 1, f', by omega, by omega, by go_num, by omega, ?_, drewN_more (unhide hw)⟩
              have h1 := unhide hd
              simp only [riseM, unhide HR, if_true] at h1
              exact h1
            case measure => simp [intOf]; omega
          · have HR : Hid (riseB t k = false) := by show riseB t k = false; simp [riseB, hgt]
            rw [unhide HB] at hc
            have hgt' : ¬ (t[k - 1].toNat : Int) < (t[k].toNat : Int) := by rw [← unhide HB, ← unhide HB1]; exact hgt
            clear hgt
            go_wp2_with fail
            go_quiet ((go_at_call 81; exact Calls.quiet_of_same (isBucket_any _ _)))
            go_wp2
            go_ret
            exact ⟨ret_int (by rw [unhide hd, riseM_stop _ _ _ (unhide HR)]), drewN_more (unhide hw)⟩
      · have HR : Hid (riseB t k = false) := by show riseB t k = false; simp [riseB, byt_ge hsz, buc]
        go_wp2_with fail
        go_quiet (fail)
        go_wp2
        go_ret
        exact ⟨ret_int (by rw [unhide hd, riseM_stop _ _ _ (unhide HR)]), drewN_more (unhide hw)⟩
end Go.Proofs.Ytmdjdpofpkgffab

/- splitref's head, by its contract. -/
namespace Go.Proofs.Ytmdjdpofpkgffab
open Go.ChangeShapes Go.WideShapes Go.ChangeAt Go.RowKit
open Split (byt dig buc digM bucM riseB riseM risM headM byt_lt byt_ge dig_t dig_f buc_t buc_f)
set_option linter.unusedVariables false
set_option linter.unusedSimpArgs false

theorem ret3_iib {a b c d : Int} {x y : Bool} (h : a = c) (k : b = d) (l : x = y) : Ending.returned (.tuple #[.int .i64 a, .int .i64 b, .bool x]) = .returned (.tuple #[.int .i64 c, .int .i64 d, .bool y]) := by rw [h, k, l]

def HeadPost (t : ByteArray) (i : Nat) (w : World) (e : Ending) (w' : World) : Prop :=
  e = .returned (.tuple #[.int .i64 ((headM t i).1 : Nat), .int .i64 ((headM t i).2.1 : Nat), .bool (headM t i).2.2]) ∧ ∃ n, w' = w.drewN n

set_option maxHeartbeats 1000000 in
theorem head_P (t : ByteArray) (i : Nat) (w : World) (hs : t.size ≤ 120) (hi : i < t.size) (hc : byt t i = 80) :
    Calls Try.prog 64 #[.string t, .int .i64 i] w (HeadPost t i w) := by
  have hm : headM t i = (bucM t (i + 1), 0, decide (bucM t (i + 1) = i + 2)) := by simp [headM, hc]
  have HM := hide hm
  have hbk := Split.bucM_le t (i + 1)
  obtain ⟨j, hj⟩ : ∃ j, j = bucM t (i + 1) := ⟨_, rfl⟩
  rw [← hj] at hbk
  have HJ := hide hj
  rw [byt_lt hi] at hc
  clear hm hj
  go_enter Try.func64, Try.ntmps64
  go_wp2_with fail
  refine (bucket_any t (i + 1) _ hs (by omega)).mono ?_
  rintro e w1 ⟨rfl, rfl⟩
  rw [← unhide HJ]
  go_wp2_with fail
  go_ret3
  unfold HeadPost
  rw [unhide HM, ← unhide HJ]
  refine ⟨ret3_iib rfl rfl ?_, 0, rfl⟩
  rw [Bool.eq_iff_iff]; simp; omega

set_option maxHeartbeats 1000000 in
theorem head_X (t : ByteArray) (i : Nat) (w : World) (hs : t.size ≤ 120) (hi : i < t.size) (h1 : byt t i ≠ 80) (h2 : byt t i ≠ 67) (h3 : byt t i ≠ 73) (h4 : byt t i ≠ 82) (h5 : byt t i ≠ 72) :
    Calls Try.prog 64 #[.string t, .int .i64 i] w (HeadPost t i w) := by
  have hm : headM t i = (i, 0, false) := by simp [headM, h1, h2, h3, h4, h5]
  have HM := hide hm
  rw [byt_lt hi] at h1 h2 h3 h4 h5
  have k1 : ((t[i].toNat : Int) == 80) = false := beq_eq_false_iff_ne.2 h1
  have k2 : ((t[i].toNat : Int) == 67) = false := beq_eq_false_iff_ne.2 h2
  have k3 : ((t[i].toNat : Int) == 73) = false := beq_eq_false_iff_ne.2 h3
  have k4 : ((t[i].toNat : Int) == 82) = false := beq_eq_false_iff_ne.2 h4
  have k5 : ((t[i].toNat : Int) == 72) = false := beq_eq_false_iff_ne.2 h5
  clear hm h1 h2 h3 h4 h5
  go_enter Try.func64, Try.ntmps64
  go_wp2_with fail
  go_ret3
  unfold HeadPost
  rw [unhide HM]
  exact ⟨ret3_iib rfl rfl rfl, 0, rfl⟩

set_option maxHeartbeats 1000000 in
theorem head_CI (t : ByteArray) (i : Nat) (w : World) (hs : t.size ≤ 120) (hi : i < t.size) (c : Int) (hc : byt t i = c) (hcc : c = 67 ∨ c = 73) :
    Calls Try.prog 64 #[.string t, .int .i64 i] w (HeadPost t i w) := by
  have hbk := Split.bucM_le t (i + 1)
  obtain ⟨j, hj⟩ : ∃ j, j = bucM t (i + 1) := ⟨_, rfl⟩
  rw [← hj] at hbk
  have HJ := hide hj
  clear hj
  by_cases hj2 : j = i + 2
  · subst hj2
    obtain ⟨k, hk⟩ : ∃ k, k = digM t (i + 2) 4 := ⟨_, rfl⟩
    have hkl := Split.digM_le t 4 (i + 2)
    rw [← hk] at hkl
    have HK := hide hk
    clear hk
    have hne : (((i + 2 : Nat) : Int) != (i : Int) + 2) = false := by simp
    rcases hcc with rfl | rfl
    · have hm : headM t i = (k, 0, decide (k = i + 6)) := by simp [headM, hc, ← unhide HJ, ← unhide HK]
      have HM := hide hm
      rw [byt_lt hi] at hc
      clear hm
      go_enter Try.func64, Try.ntmps64
      go_wp2_with fail
      refine (bucket_any t (i + 1) _ hs (by omega)).mono ?_
      rintro e w1 ⟨rfl, rfl⟩
      rw [← unhide HJ]
      go_wp2_with fail
      refine (digits_any t (i + 2) 4 _ hs (by omega) (by omega)).mono ?_
      rintro e w2 ⟨rfl, rfl⟩
      rw [← unhide HK]
      go_wp2_with fail
      go_ret3
      unfold HeadPost
      rw [unhide HM]
      refine ⟨ret3_iib rfl rfl ?_, 0, rfl⟩
      rw [Bool.eq_iff_iff]; simp; omega
    · have hm : headM t i = (k, 2, decide (k = i + 6)) := by simp [headM, hc, ← unhide HJ, ← unhide HK]
      have HM := hide hm
      rw [byt_lt hi] at hc
      clear hm
      go_enter Try.func64, Try.ntmps64
      go_wp2_with fail
      refine (bucket_any t (i + 1) _ hs (by omega)).mono ?_
      rintro e w1 ⟨rfl, rfl⟩
      rw [← unhide HJ]
      go_wp2_with fail
      refine (digits_any t (i + 2) 4 _ hs (by omega) (by omega)).mono ?_
      rintro e w2 ⟨rfl, rfl⟩
      rw [← unhide HK]
      go_wp2_with fail
      go_ret3
      unfold HeadPost
      rw [unhide HM]
      refine ⟨ret3_iib rfl rfl ?_, 0, rfl⟩
      rw [Bool.eq_iff_iff]; simp; omega
  · have hj1 : j = i + 1 := by omega
    subst hj1
    have hne : (((i + 1 : Nat) : Int) != (i : Int) + 2) = true := by rw [bne_iff_ne]; omega
    rcases hcc with rfl | rfl
    all_goals
      have hm : headM t i = (i + 1, 0, false) := by simp [headM, hc, ← unhide HJ]
      have HM := hide hm
      rw [byt_lt hi] at hc
      clear hm
      go_enter Try.func64, Try.ntmps64
      go_wp2_with fail
      refine (bucket_any t (i + 1) _ hs (by omega)).mono ?_
      rintro e w1 ⟨rfl, rfl⟩
      rw [← unhide HJ]
      go_wp2_with fail
      go_ret3
      unfold HeadPost
      rw [unhide HM]
      exact ⟨ret3_iib rfl rfl rfl, 0, rfl⟩

set_option maxHeartbeats 1000000 in
theorem head_R (t : ByteArray) (i : Nat) (w : World) (hs : t.size ≤ 120) (hi : i < t.size) (hc : byt t i = 82) :
    Calls Try.prog 64 #[.string t, .int .i64 i] w (HeadPost t i w) := by
  by_cases hh : byt t (i + 1) = 104
  · have hi1 : i + 1 < t.size := Split.lt_of_byt (by rw [hh]; decide)
    have hm : headM t i = (i + 1, 0, false) := by simp [headM, hc, hh]
    have HM := hide hm
    rw [byt_lt hi] at hc
    rw [byt_lt hi1] at hh
    clear hm
    go_enter Try.func64, Try.ntmps64
    go_wp2_with fail
    go_ret3
    unfold HeadPost
    rw [unhide HM]
    exact ⟨ret3_iib (by omega) rfl rfl, 0, rfl⟩
  · obtain ⟨j, hj⟩ : ∃ j, j = risM t (i + 1) := ⟨_, rfl⟩
    have hjs := Split.risM_size t (i + 1) (by omega)
    have hjl := Split.risM_le t (i + 1)
    rw [← hj] at hjs hjl
    have HJ := hide hj
    clear hj
    have hm : headM t i = (j, 0, decide (i + 3 ≤ j)) := by simp [headM, hc, hh, ← unhide HJ]
    have HM := hide hm
    rw [byt_lt hi] at hc
    clear hm
    by_cases hi1 : i + 1 < t.size
    · rw [byt_lt hi1] at hh
      have hne : ((t[i + 1].toNat : Int) == 104) = false := beq_eq_false_iff_ne.2 hh
      clear hh
      go_enter Try.func64, Try.ntmps64
      go_wp2_with fail
      refine (rising_any t (i + 1) _ hs (by omega)).mono ?_
      rintro e w1 ⟨rfl, n, rfl⟩
      rw [← unhide HJ]
      go_wp2_with fail
      go_ret3
      unfold HeadPost
      rw [unhide HM]
      refine ⟨ret3_iib rfl rfl ?_, _, rfl⟩
      rw [Bool.eq_iff_iff]; simp; omega
    · go_enter Try.func64, Try.ntmps64
      go_wp2_with fail
      refine (rising_any t (i + 1) _ hs (by omega)).mono ?_
      rintro e w1 ⟨rfl, n, rfl⟩
      rw [← unhide HJ]
      go_wp2_with fail
      go_ret3
      unfold HeadPost
      rw [unhide HM]
      refine ⟨ret3_iib rfl rfl ?_, _, rfl⟩
      rw [Bool.eq_iff_iff]; simp; omega

theorem slice2 (t : ByteArray) (i : Nat) (h : i + 3 ≤ t.size) (W : World) : (Instr.slice 9 (.string t) (some (.int .i64 ((i : Int) + 1))) (some (.int .i64 ((i : Int) + 3))) none).run Try.prog W = .ok (.string (t.extract (i + 1) (i + 3))) W := by
  rw [run_slice_string_if _ _ _ _ _ _ _ Try.underlying9, if_pos (by omega), if_pos (by omega)]
  rw [show ((i : Int) + 1).toNat = i + 1 by omega, show ((i : Int) + 3).toNat = i + 3 by omega]

theorem byt_data {t : ByteArray} {i : Nat} (h : i < t.size) : t[i] = t.data.toList[i]'(by simpa using h) := rfl

theorem ext_two (t : ByteArray) (i : Nat) (h : i + 3 ≤ t.size) : ((t.extract (i + 1) (i + 3)).toList == [48, 48]) = decide (byt t (i + 1) = 48 ∧ byt t (i + 2) = 48) := by
  have hl : t.data.toList.length = t.size := by simp
  rw [Lib.toList_data, Lib.extract_data, show i + 3 - (i + 1) = 2 by omega]
  rw [List.drop_eq_getElem_cons (by omega), List.drop_eq_getElem_cons (by omega)]
  rw [byt_lt (show i + 1 < t.size by omega), byt_lt (show i + 2 < t.size by omega), byt_data, byt_data]
  simp only [List.take_succ_cons, List.take_zero]
  generalize t.data.toList[i + 1] = x
  generalize t.data.toList[i + 1 + 1] = y
  rw [Bool.eq_iff_iff]
  simp only [beq_iff_eq, List.cons.injEq, and_true, decide_eq_true_eq]
  constructor
  · rintro ⟨rfl, rfl⟩; decide
  · rintro ⟨h1, h2⟩
    refine ⟨UInt8.toNat_inj.1 ?_, UInt8.toNat_inj.1 ?_⟩
    · have : x.toNat = 48 := by omega
      rw [this]; rfl
    · have : y.toNat = 48 := by omega
      rw [this]; rfl

set_option maxRecDepth 100000 in
set_option maxHeartbeats 1000000 in
theorem head_H (t : ByteArray) (i : Nat) (w : World) (hs : t.size ≤ 120) (hi : i < t.size) (hc : byt t i = 72) :
    Calls Try.prog 64 #[.string t, .int .i64 i] w (HeadPost t i w) := by
  obtain ⟨j, hj⟩ : ∃ j, j = digM t (i + 1) 2 := ⟨_, rfl⟩
  have hjs := Split.digM_size t 2 (i + 1) (by omega)
  have hjl := Split.digM_le t 2 (i + 1)
  rw [← hj] at hjs hjl
  have HJ := hide hj
  clear hj
  by_cases hj3 : j = i + 3
  · subst hj3
    have hsl := slice2 t i hjs
    generalize hu : t.extract (i + 1) (i + 3) = u at hsl
    have HU := hide hu
    clear hu
    by_cases h00 : byt t (i + 1) = 48 ∧ byt t (i + 2) = 48
    · have hm : headM t i = (i + 2, 1, false) := by simp [headM, hc, h00, ← unhide HJ]
      have HM := hide hm
      have heq : (u.toList == [48, 48]) = true := by rw [← unhide HU, ext_two t i hjs, h00.1, h00.2]; rfl
      rw [byt_lt hi] at hc
      clear hm h00
      go_enter Try.func64, Try.ntmps64
      go_wp2_with fail
      refine (digits_any t (i + 1) 2 _ hs (by omega) (by omega)).mono ?_
      rintro e w1 ⟨rfl, rfl⟩
      rw [← unhide HJ]
      go_wp2_with fail
      go_ret3
      unfold HeadPost
      rw [unhide HM]
      exact ⟨ret3_iib rfl rfl rfl, 0, rfl⟩
    · have hm : headM t i = (i + 3, 1, true) := by simp [headM, hc, h00, ← unhide HJ]
      have HM := hide hm
      have heq : (u.toList == [48, 48]) = false := by rw [← unhide HU, ext_two t i hjs]; exact decide_eq_false h00
      rw [byt_lt hi] at hc
      clear hm h00
      go_enter Try.func64, Try.ntmps64
      go_wp2_with fail
      refine (digits_any t (i + 1) 2 _ hs (by omega) (by omega)).mono ?_
      rintro e w1 ⟨rfl, rfl⟩
      rw [← unhide HJ]
      go_wp2_with fail
      go_ret3
      unfold HeadPost
      rw [unhide HM]
      exact ⟨ret3_iib rfl rfl (by simp), 0, rfl⟩
  · have hm : headM t i = (j, 1, false) := by simp [headM, hc, ← unhide HJ, hj3]
    have HM := hide hm
    have hne : ((j : Int) == (i : Int) + 3) = false := beq_eq_false_iff_ne.2 (by omega)
    rw [byt_lt hi] at hc
    clear hm
    go_enter Try.func64, Try.ntmps64
    go_wp2_with fail
    refine (digits_any t (i + 1) 2 _ hs (by omega) (by omega)).mono ?_
    rintro e w1 ⟨rfl, rfl⟩
    rw [← unhide HJ]
    go_wp2_with fail
    go_ret3
    unfold HeadPost
    rw [unhide HM]
    exact ⟨ret3_iib rfl rfl rfl, 0, rfl⟩

theorem head_any (t : ByteArray) (i : Nat) (w : World) (hs : t.size ≤ 120) (hi : i < t.size) :
    Calls Try.prog 64 #[.string t, .int .i64 i] w (HeadPost t i w) := by
  by_cases h1 : byt t i = 80
  · exact head_P t i w hs hi h1
  by_cases h2 : byt t i = 67
  · exact head_CI t i w hs hi 67 h2 (.inl rfl)
  by_cases h3 : byt t i = 73
  · exact head_CI t i w hs hi 73 h3 (.inr rfl)
  by_cases h4 : byt t i = 82
  · exact head_R t i w hs hi h4
  by_cases h5 : byt t i = 72
  · exact head_H t i w hs hi h5
  exact head_X t i w hs hi h1 h2 h3 h4 h5
end Go.Proofs.Ytmdjdpofpkgffab

/- splitref's scan and Check, by their contracts. -/
namespace Go.Proofs.Ytmdjdpofpkgffab
open Go.ChangeShapes Go.WideShapes Go.ChangeAt Go.RowKit
open Split (byt dig buc digM bucM riseB riseM risM headM byt_lt byt_ge dig_t dig_f buc_t buc_f scanF blkM bodyM Rd)
set_option linter.unusedVariables false
set_option linter.unusedSimpArgs false

def ScanPost (t : ByteArray) (i dep : Nat) (w : World) (e : Ending) (w' : World) : Prop :=
  e = .returned (.tuple #[.int .i64 ((scanF t i dep (-1)).j : Nat), .int .i64 (scanF t i dep (-1)).deep, .bool (scanF t i dep (-1)).ok]) ∧ ∃ n, w' = w.drewN n

/-- Two readings that come to one answer. -/
def Like (a b : Rd) : Prop := a.j = b.j ∧ a.deep = b.deep ∧ a.ok = b.ok

theorem scan_stop (t : ByteArray) (i dep : Nat) (deep : Int) (hi : i ≤ t.size) (h : ¬ (i < t.size ∧ byt t i ≠ 41)) : scanF t i dep deep = ⟨i, deep, true, []⟩ := by
  rw [Split.scan_eq t i dep deep hi, bodyM, if_neg h]

/-- What is left of a step with so many blocks to come. -/
def restM (t : ByteArray) (dep : Nat) : Nat → Nat → Int → Rd
  | 0, j, deep => scanF t j dep deep
  | m + 1, j, deep => if (blkM t (scanF t) j dep deep).ok = true then restM t dep m (blkM t (scanF t) j dep deep).j (blkM t (scanF t) j dep deep).deep else ⟨(blkM t (scanF t) j dep deep).j, (blkM t (scanF t) j dep deep).deep, false, []⟩

theorem Like.refl (a : Rd) : Like a a := ⟨rfl, rfl, rfl⟩
theorem Like.trans {a b c : Rd} (h : Like a b) (k : Like b c) : Like a c := ⟨h.1.trans k.1, h.2.1.trans k.2.1, h.2.2.trans k.2.2⟩

theorem head_two (t : ByteArray) (i : Nat) : (headM t i).2.1 ≤ 2 := by
  unfold headM
  split
  · simp
  split
  · split
    · dsimp only; split <;> omega
    · simp
  split
  · split <;> simp
  split
  · split <;> simp
  · simp

theorem body_like (t : ByteArray) (k dep : Nat) (d : Int) (j n : Nat) (hk : k < t.size) (h41 : byt t k ≠ 41) (hh : headM t k = (j, n, true)) : Like (bodyM t (scanF t) k dep d) (restM t dep n j d) := by
  have h2 := head_two t k
  rw [hh] at h2
  dsimp only at h2
  unfold bodyM
  rw [if_pos ⟨hk, h41⟩, hh]
  dsimp only
  rw [if_pos rfl]
  match n, h2 with
  | 0, _ => exact ⟨rfl, rfl, rfl⟩
  | 1, _ =>
    simp only [restM]
    rw [if_neg (by omega)]
    split
    · exact ⟨rfl, rfl, rfl⟩
    · exact ⟨rfl, rfl, rfl⟩
  | 2, _ =>
    simp only [restM]
    rw [if_neg (by omega)]
    split
    · rw [if_neg (by omega)]
      split
      · exact ⟨rfl, rfl, rfl⟩
      · exact ⟨rfl, rfl, rfl⟩
    · exact ⟨rfl, rfl, rfl⟩

theorem rest_shut (t : ByteArray) (dep m j : Nat) (d : Int) (h : byt t j ≠ 40) : Like (restM t dep (m + 1) j d) ⟨j, d, false, []⟩ := by
  simp only [restM, blkM, if_neg h]
  exact ⟨rfl, rfl, rfl⟩

theorem rest_open (t : ByteArray) (dep m j : Nat) (d D : Int) (h : byt t j = 40) (r : Rd) (hr : scanF t (j + 1) (dep + 1) (-1) = r) (hD : (if (if d < 0 ∧ 5 ≤ dep then (j : Int) else d) < 0 then r.deep else (if d < 0 ∧ 5 ≤ dep then (j : Int) else d)) = D) :
    (r.ok = true ∧ r.j < t.size → Like (restM t dep (m + 1) j d) (restM t dep m (r.j + 1) D)) ∧ (¬ (r.ok = true ∧ r.j < t.size) → Like (restM t dep (m + 1) j d) ⟨r.j, D, false, []⟩) := by
  simp only [restM, blkM, if_pos h, hr, hD]
  constructor
  · intro hc
    rw [if_pos hc]
    exact Like.refl _
  · intro hc
    rw [if_neg hc]
    exact Like.refl _

theorem deepA {d x : Int} {dep j : Nat} (c1 : d < 0) (c2 : 5 ≤ dep) : (if (if d < 0 ∧ 5 ≤ dep then (j : Int) else d) < 0 then x else (if d < 0 ∧ 5 ≤ dep then (j : Int) else d)) = j := by
  have h : d < 0 ∧ 5 ≤ dep := And.intro c1 c2
  simp only [h, and_self, if_true]
  rw [if_neg (by omega)]
theorem deepB {d x : Int} {dep j : Nat} (c1 : d < 0) (c2 : dep < 5) : (if (if d < 0 ∧ 5 ≤ dep then (j : Int) else d) < 0 then x else (if d < 0 ∧ 5 ≤ dep then (j : Int) else d)) = x := by
  have h : ¬ (d < 0 ∧ 5 ≤ dep) := by omega
  simp only [h, if_false]
  rw [if_pos c1]
theorem deepC {d x : Int} {dep j : Nat} (c1 : 0 ≤ d) : (if (if d < 0 ∧ 5 ≤ dep then (j : Int) else d) < 0 then x else (if d < 0 ∧ 5 ≤ dep then (j : Int) else d)) = d := by
  have h : ¬ (d < 0 ∧ 5 ≤ dep) := by omega
  simp only [h, if_false]
  rw [if_neg (by omega)]

set_option maxRecDepth 100000 in
set_option maxHeartbeats 4000000 in
theorem scan_step (t : ByteArray) (i dep : Nat) (w : World) (hs : t.size ≤ 120) (hi : i ≤ t.size) (hd : dep + (t.size - i) ≤ 1000)
    (ih : ∀ i' dep' w', i < i' → i' ≤ t.size → dep' + (t.size - i') ≤ 1000 → Calls Try.prog 39 #[.string t, .int .i64 (i' : Nat), .int .i64 (dep' : Nat)] w' (ScanPost t i' dep' w')) :
    Calls Try.prog 39 #[.string t, .int .i64 i, .int .i64 dep] w (ScanPost t i dep w) := by
  have IH := hide ih
  clear ih
  go_enter Try.func39, Try.ntmps39
  go_wp2_with fail
  go_loopw [1, 9] (fun ii dd wr => ∃ (k : Nat) (d : Int), i ≤ k ∧ k ≤ t.size ∧ ii = .int .i64 k ∧ dd = .int .i64 d ∧ Hid (Like (scanF t i dep (-1)) (scanF t k dep d)) ∧ Hid (∃ n, wr = w.drewN n)) (fun ii _ _ => t.size - (intOf ii).toNat)
  case atStart => exact ⟨i, -1, Nat.le_refl _, hi, rfl, rfl, ⟨rfl, rfl, rfl⟩, ⟨0, rfl⟩⟩
  case round =>
    obtain ⟨k, d, hik, hk, rfl, rfl, hl, hw⟩ := hrel
    by_cases hsz : k < t.size
    · by_cases h41 : byt t k = 41
      · have HS := hide (scan_stop t k dep d hk (by simp [h41]))
        rw [byt_lt hsz] at h41
        have hne : ((t[k].toNat : Int) != 41) = false := by simp [h41]
        clear h41
        go_wp2_with fail
        go_ret3
        have hl := unhide hl
        rw [unhide HS] at hl
        unfold ScanPost
        obtain ⟨e1, e2, e3⟩ := hl
        rw [e1, e2, e3]
        exact ⟨rfl, unhide hw⟩
      · have hb := Split.scan_eq t k dep d hk
        rw [bodyM, if_pos ⟨hsz, h41⟩] at hb
        have HB := hide hb
        clear hb
        rw [byt_lt hsz] at h41
        have hne : ((t[k].toNat : Int) != 41) = true := by rw [bne_iff_ne]; exact h41
        clear h41
        have hr := Split.head_rng hsz
        have hlt := @Split.head_lt t k hsz
        go_wp2_with fail
        refine (head_any t k _ hs hsz).mono ?_
        rintro e w1 ⟨rfl, hw1⟩
        have hw : Hid (∃ n, w1 = w.drewN n) := by
          obtain ⟨n, rfl⟩ := unhide hw
          obtain ⟨m, rfl⟩ := hw1
          exact ⟨_, World.drewN_drewN _ _ _⟩
        clear hw1
        obtain ⟨j, n, ok, hh⟩ : ∃ j n ok, headM t k = (j, n, ok) := ⟨_, _, _, rfl⟩
        rw [hh] at hr hlt
        have HH := hide hh
        rw [hh]
        clear hh
        dsimp only at hr hlt
        dsimp only
        cases ok
        · clear hlt
          go_wp2_with fail
          go_ret3
          have h1 := unhide HB
          rw [unhide HH] at h1
          simp at h1
          have hl := unhide hl
          rw [h1] at hl
          unfold ScanPost
          obtain ⟨e1, e2, e3⟩ := hl
          rw [e1, e2, e3]
          exact ⟨rfl, unhide hw⟩
        · have hlt := hlt rfl
          have hl : Hid (Like (scanF t i dep (-1)) (restM t dep n j d)) := by
            refine (unhide hl).trans ?_
            rw [Split.scan_eq t k dep d hk]
            exact body_like t k dep d j n hsz (by rw [byt_lt hsz]; rw [bne_iff_ne] at hne; exact hne) (unhide HH)
          have hn2 : n ≤ 2 := by have := head_two t k; rw [unhide HH] at this; exact this
          clear HB HH
          go_wp2_with fail
          go_loopw [9, 10, 13] (fun dd jj qq wr => ∃ (q j' : Nat) (d' : Int), q ≤ n ∧ k < j' ∧ j' ≤ t.size ∧ qq = .int .i64 q ∧ jj = .int .i64 j' ∧ dd = .int .i64 d' ∧ Hid (Like (scanF t i dep (-1)) (restM t dep (n - q) j' d')) ∧ Hid (∃ n, wr = w.drewN n)) (fun _ _ qq _ => n - (intOf qq).toNat)
          case atStart => exact ⟨0, j, d, Nat.zero_le _, by omega, hr.2, rfl, rfl, rfl, hl, hw⟩
          case round =>
            obtain ⟨q, j', d', hq, hkj, hjs, rfl, rfl, rfl, hl, hw⟩ := hrel
            by_cases hqn : q < n
            · obtain ⟨m, hm⟩ : ∃ m, n - q = m + 1 := ⟨n - q - 1, by omega⟩
              have hm' : n - (q + 1) = m := by omega
              rw [hm] at hl
              have HM := hide hm'
              clear hm hm'
              by_cases h40 : byt t j' = 40
              · have hjlt : j' < t.size := Split.lt_of_byt (by rw [h40]; decide)
                have H40 := hide h40
                rw [byt_lt hjlt] at h40
                have hne4 : ((t[j'].toNat : Int) != 40) = false := by simp [h40]
                clear h40
                obtain ⟨r, hr0⟩ : ∃ r, scanF t (j' + 1) (dep + 1) (-1) = r := ⟨_, rfl⟩
                have hrr := Split.scanF_rng t (j' + 1) (dep + 1) (-1) hjlt
                rw [hr0] at hrr
                have HR0 := hide hr0
                clear hr0
                rcases (show (d' < 0 ∧ 5 ≤ dep) ∨ (d' < 0 ∧ dep < 5) ∨ 0 ≤ d' from by omega) with ⟨c1, c2⟩ | ⟨c1, c2⟩ | c1
                · have HO := hide (rest_open t dep m j' d' j' (unhide H40) r (unhide HR0) (deepA c1 c2))
                  go_wp2_with fail
                  refine (unhide IH (j' + 1) (dep + 1) _ (by omega) hjlt (by omega)).mono ?_
                  rintro e w2 ⟨rfl, hw2⟩
                  have hw : Hid (∃ n, w2 = w.drewN n) := by
                    obtain ⟨n, rfl⟩ := unhide hw
                    obtain ⟨m, rfl⟩ := hw2
                    exact ⟨_, World.drewN_drewN _ _ _⟩
                  clear hw2
                  rw [unhide HR0]
                  obtain ⟨rj, rd, rok, rc⟩ := r
                  dsimp only at hrr
                  dsimp only
                  cases rok
                  · go_wp2_with fail
                    go_ret3
                    unfold ScanPost
                    obtain ⟨e1, e2, e3⟩ := (unhide hl).trans ((unhide HO).2 (by simp))
                    rw [e1, e2, e3]
                    exact ⟨rfl, unhide hw⟩
                  · by_cases hrs : rj < t.size
                    · go_wp2_with fail
                      go_roundw
                      case rel =>
                        refine ⟨q + 1, rj + 1, j', by omega, by omega, by omega, by go_num, by go_num, rfl, ?_, hw⟩
                        rw [unhide HM]
                        exact (unhide hl).trans ((unhide HO).1 ⟨rfl, hrs⟩)
                      case measure => simp [intOf]; omega
                    · go_wp2_with fail
                      go_ret3
                      unfold ScanPost
                      obtain ⟨e1, e2, e3⟩ := (unhide hl).trans ((unhide HO).2 (by simp [hrs]))
                      rw [e1, e2, e3]
                      exact ⟨rfl, unhide hw⟩
                · have HO := hide (rest_open t dep m j' d' r.deep (unhide H40) r (unhide HR0) (deepB c1 c2))
                  go_wp2_with fail
                  refine (unhide IH (j' + 1) (dep + 1) _ (by omega) hjlt (by omega)).mono ?_
                  rintro e w2 ⟨rfl, hw2⟩
                  have hw : Hid (∃ n, w2 = w.drewN n) := by
                    obtain ⟨n, rfl⟩ := unhide hw
                    obtain ⟨m, rfl⟩ := hw2
                    exact ⟨_, World.drewN_drewN _ _ _⟩
                  clear hw2
                  rw [unhide HR0]
                  obtain ⟨rj, rd, rok, rc⟩ := r
                  dsimp only at hrr
                  dsimp only
                  cases rok
                  · go_wp2_with fail
                    go_ret3
                    unfold ScanPost
                    obtain ⟨e1, e2, e3⟩ := (unhide hl).trans ((unhide HO).2 (by simp))
                    rw [e1, e2, e3]
                    exact ⟨rfl, unhide hw⟩
                  · by_cases hrs : rj < t.size
                    · go_wp2_with fail
                      go_roundw
                      case rel =>
                        refine ⟨q + 1, rj + 1, rd, by omega, by omega, by omega, by go_num, by go_num, rfl, ?_, hw⟩
                        rw [unhide HM]
                        exact (unhide hl).trans ((unhide HO).1 ⟨rfl, hrs⟩)
                      case measure => simp [intOf]; omega
                    · go_wp2_with fail
                      go_ret3
                      unfold ScanPost
                      obtain ⟨e1, e2, e3⟩ := (unhide hl).trans ((unhide HO).2 (by simp [hrs]))
                      rw [e1, e2, e3]
                      exact ⟨rfl, unhide hw⟩
                · have HO := hide (rest_open t dep m j' d' d' (unhide H40) r (unhide HR0) (deepC c1))
                  go_wp2_with fail
                  refine (unhide IH (j' + 1) (dep + 1) _ (by omega) hjlt (by omega)).mono ?_
                  rintro e w2 ⟨rfl, hw2⟩
                  have hw : Hid (∃ n, w2 = w.drewN n) := by
                    obtain ⟨n, rfl⟩ := unhide hw
                    obtain ⟨m, rfl⟩ := hw2
                    exact ⟨_, World.drewN_drewN _ _ _⟩
                  clear hw2
                  rw [unhide HR0]
                  obtain ⟨rj, rd, rok, rc⟩ := r
                  dsimp only at hrr
                  dsimp only
                  cases rok
                  · go_wp2_with fail
                    go_ret3
                    unfold ScanPost
                    obtain ⟨e1, e2, e3⟩ := (unhide hl).trans ((unhide HO).2 (by simp))
                    rw [e1, e2, e3]
                    exact ⟨rfl, unhide hw⟩
                  · by_cases hrs : rj < t.size
                    · go_wp2_with fail
                      go_roundw
                      case rel =>
                        refine ⟨q + 1, rj + 1, d', by omega, by omega, by omega, by go_num, by go_num, rfl, ?_, hw⟩
                        rw [unhide HM]
                        exact (unhide hl).trans ((unhide HO).1 ⟨rfl, hrs⟩)
                      case measure => simp [intOf]; omega
                    · go_wp2_with fail
                      go_ret3
                      unfold ScanPost
                      obtain ⟨e1, e2, e3⟩ := (unhide hl).trans ((unhide HO).2 (by simp [hrs]))
                      rw [e1, e2, e3]
                      exact ⟨rfl, unhide hw⟩
              · have HS := hide ((unhide hl).trans (rest_shut t dep m j' d' h40))
                by_cases hjlt : j' < t.size
                · rw [byt_lt hjlt] at h40
                  have hne4 : ((t[j'].toNat : Int) != 40) = true := by rw [bne_iff_ne]; exact h40
                  clear h40
                  go_wp2_with fail
                  go_ret3
                  unfold ScanPost
                  obtain ⟨e1, e2, e3⟩ := unhide HS
                  rw [e1, e2, e3]
                  exact ⟨rfl, unhide hw⟩
                · clear h40
                  go_wp2_with fail
                  go_ret3
                  unfold ScanPost
                  obtain ⟨e1, e2, e3⟩ := unhide HS
                  rw [e1, e2, e3]
                  exact ⟨rfl, unhide hw⟩
            · have e : n - q = 0 := by omega
              rw [e] at hl
              go_wp2_with fail
              go_roundw
              case rel => exact ⟨j', d', by omega, hjs, rfl, rfl, hl, hw⟩
              case measure => simp [intOf]; omega
    · have HS := hide (scan_stop t k dep d hk (by simp [hsz]))
      go_wp2_with fail
      go_ret3
      have hl := unhide hl
      rw [unhide HS] at hl
      unfold ScanPost
      obtain ⟨e1, e2, e3⟩ := hl
      rw [e1, e2, e3]
      exact ⟨rfl, unhide hw⟩

theorem scan_any (t : ByteArray) (hs : t.size ≤ 120) : ∀ (m i dep : Nat) (w : World), t.size - i ≤ m → i ≤ t.size → dep + (t.size - i) ≤ 1000 →
    Calls Try.prog 39 #[.string t, .int .i64 i, .int .i64 dep] w (ScanPost t i dep w)
  | 0, i, dep, w, hm, hi, hd => scan_step t i dep w hs hi hd fun i' dep' w' h1 h2 _ => by omega
  | m + 1, i, dep, w, hm, hi, hd => scan_step t i dep w hs hi hd fun i' dep' w' h1 h2 h3 => scan_any t hs m i' dep' w' (by omega) h2 h3

/-- What the document answers of a text: the error, and its place. -/
def checkE (t : ByteArray) : Int := if 120 < t.size then 1 else if (scanF t 0 0 (-1)).ok = true ∧ ¬ (scanF t 0 0 (-1)).j < t.size then (if 0 ≤ (scanF t 0 0 (-1)).deep then 3 else 0) else 2
def checkP (t : ByteArray) : Int := if 120 < t.size then 0 else if (scanF t 0 0 (-1)).ok = true ∧ ¬ (scanF t 0 0 (-1)).j < t.size then (if 0 ≤ (scanF t 0 0 (-1)).deep then (scanF t 0 0 (-1)).deep else 0) else (scanF t 0 0 (-1)).j

set_option maxHeartbeats 1000000 in
theorem rcheck_any (t : ByteArray) (w : World) (hs : t.size ≤ 1000000000000000) : Calls Try.prog 12 #[.string t] w fun e w' => e = .returned (.tuple #[.int .i64 (checkE t), .int .i64 (checkP t)]) ∧ ∃ n, w' = w.drewN n := by
  by_cases hl : 120 < t.size
  · have e1 : checkE t = 1 := by simp [checkE, hl]
    have e2 : checkP t = 0 := by simp [checkP, hl]
    rw [e1, e2]
    clear e1 e2
    go_enter Try.func12, Try.ntmps12
    go_wp2_with fail
    go_ret2
    exact ⟨rfl, 0, rfl⟩
  · obtain ⟨r, hr⟩ : ∃ r, scanF t 0 0 (-1) = r := ⟨_, rfl⟩
    have hrr := Split.scanF_rng t 0 0 (-1) (Nat.zero_le _)
    have HS := hide (scan_any t (by omega) t.size 0 0 w (by omega) (Nat.zero_le _) (by omega))
    unfold checkE checkP
    unfold ScanPost at HS
    rw [hr] at HS hrr
    rw [hr]
    clear hr
    obtain ⟨rj, rd, rok, rc⟩ := r
    dsimp only at hrr HS
    dsimp only
    rw [if_neg hl, if_neg hl]
    cases rok
    · rw [if_neg (by simp), if_neg (by simp)]
      go_enter Try.func12, Try.ntmps12
      go_wp2_with fail
      refine (unhide HS).mono ?_
      rintro e w1 ⟨rfl, n, rfl⟩
      go_wp2_with fail
      go_ret2
      exact ⟨rfl, _, rfl⟩
    · by_cases hj : rj < t.size
      · rw [if_neg (by simp [hj]), if_neg (by simp [hj])]
        go_enter Try.func12, Try.ntmps12
        go_wp2_with fail
        refine (unhide HS).mono ?_
        rintro e w1 ⟨rfl, n, rfl⟩
        go_wp2_with fail
        go_ret2
        exact ⟨rfl, _, rfl⟩
      · have hc : true = true ∧ ¬ rj < t.size := ⟨rfl, hj⟩
        rw [if_pos hc, if_pos hc]
        clear hc
        by_cases hdp : 0 ≤ rd
        · rw [if_pos hdp, if_pos hdp]
          go_enter Try.func12, Try.ntmps12
          go_wp2_with fail
          refine (unhide HS).mono ?_
          rintro e w1 ⟨rfl, n, rfl⟩
          go_wp2_with fail
          go_ret2
          exact ⟨rfl, _, rfl⟩
        · rw [if_neg hdp, if_neg hdp]
          go_enter Try.func12, Try.ntmps12
          go_wp2_with fail
          refine (unhide HS).mono ?_
          rintro e w1 ⟨rfl, n, rfl⟩
          go_wp2_with fail
          go_ret2
          exact ⟨rfl, _, rfl⟩
end Go.Proofs.Ytmdjdpofpkgffab
