/- SemF, RefWalk, RefStep -/
import Derived.Test.YtbpolcnjojlkjabPack25
import Derived.Test.YtbpolcnjojlkjabPack17
import Derived.Test.YtbpolcnjojlkjabPack18

/- Plain: what a policy pays, step by step. -/
namespace Go.Proofs.Ytbpolcnjojlkjab
open Split
set_option linter.unusedVariables false
set_option linter.unusedSimpArgs false

def nxM (t : ByteArray) (i : Nat) : Nat :=
  if (headM t i).2.1 = 0 then (headM t i).1
  else if (headM t i).2.1 = 1 then endJ t ((headM t i).1 + 1) + 1
  else endJ t (endJ t ((headM t i).1 + 1) + 1 + 1) + 1

/-- One step, its blocks by rec. -/
def stpM (t : ByteArray) (rec : Nat → Pu → Pu) (i : Nat) (p : Pu) : Pu :=
  if (headM t i).2.1 = 0 then doM (Split.stM t i) p
  else if (headM t i).2.1 = 1 then backM (rec ((headM t i).1 + 1) (holdM p (Split.stM t i).amount))
  else (if p.owed.getD (Split.stM t i).bucket.toNat 0 ≤ (Split.stM t i).amount then rec (endJ t ((headM t i).1 + 1) + 1 + 1) p else rec ((headM t i).1 + 1) p)

theorem sem_eq (t : ByteArray) (f i : Nat) (p : Pu) : semM t (f + 1) i p = if i < t.size ∧ byt t i ≠ 41 then semM t f (nxM t i) (stpM t (semM t f) i p) else p := by
  simp only [semM, nxM, stpM]
  split
  · split
    · rfl
    · split
      · rfl
      · rfl
  · rfl

/-- Places behind a step that stands. -/
theorem step_places {t : ByteArray} {i : Nat} (hi : i ≤ t.size) (hok : okJ t i = true) (hc : i < t.size ∧ byt t i ≠ 41) :
    i < nxM t i ∧ nxM t i ≤ t.size ∧ okJ t (nxM t i) = true ∧ endJ t i = endJ t (nxM t i) ∧ (headM t i).2.2 = true ∧ i + 2 ≤ (headM t i).1 ∧ (headM t i).1 ≤ t.size ∧
    ((headM t i).2.1 = 0 ∨ ((headM t i).2.1 = 1 ∧ BlkAt t (headM t i).1) ∨ ((headM t i).2.1 = 2 ∧ BlkAt t (headM t i).1 ∧ BlkAt t (endJ t ((headM t i).1 + 1) + 1))) := by
  have hr := head_rng hc.1
  rcases scan_cases hi hok with ⟨h1, _⟩ | ⟨_, ho, hn, hok1, h2, h3⟩ | ⟨_, ho, hn, hB, hok1, h2, h3⟩ | ⟨_, ho, hn, hB, hB2, hok1, h2, h3⟩
  · exact absurd hc h1
  · have hl := head_lt hc.1 ho
    have e : nxM t i = (headM t i).1 := by simp [nxM, hn]
    rw [e]
    exact ⟨by omega, hr.2, hok1, h3, ho, hl, hr.2, .inl hn⟩
  · have hl := head_lt hc.1 ho
    have e : nxM t i = endJ t ((headM t i).1 + 1) + 1 := by simp [nxM, hn]
    have e1 := hB.ege
    have e2 := hB.elt
    rw [e]
    exact ⟨by omega, by omega, hok1, h3, ho, hl, hr.2, .inr (.inl ⟨hn, hB⟩)⟩
  · have hl := head_lt hc.1 ho
    have e : nxM t i = endJ t (endJ t ((headM t i).1 + 1) + 1 + 1) + 1 := by simp [nxM, hn]
    have e1 := hB.ege
    have e2 := hB.elt
    have e3 := hB2.ege
    have e4 := hB2.elt
    rw [e]
    exact ⟨by omega, by omega, hok1, h3, ho, hl, hr.2, .inr (.inr ⟨hn, hB, hB2⟩)⟩

theorem sem_fuel (t : ByteArray) : ∀ (m i : Nat), t.size - i ≤ m → i ≤ t.size → okJ t i = true → ∀ f g p, t.size - i < f → t.size - i < g → semM t f i p = semM t g i p := by
  intro m
  induction m with
  | zero =>
    intro i hm hi hok f g p hf hg
    obtain ⟨f', rfl⟩ : ∃ f', f = f' + 1 := ⟨f - 1, by omega⟩
    obtain ⟨g', rfl⟩ : ∃ g', g = g' + 1 := ⟨g - 1, by omega⟩
    rw [sem_eq, sem_eq, if_neg (by omega), if_neg (by omega)]
  | succ m ih =>
    intro i hm hi hok f g p hf hg
    obtain ⟨f', rfl⟩ : ∃ f', f = f' + 1 := ⟨f - 1, by omega⟩
    obtain ⟨g', rfl⟩ : ∃ g', g = g' + 1 := ⟨g - 1, by omega⟩
    rw [sem_eq, sem_eq]
    by_cases hc : i < t.size ∧ byt t i ≠ 41
    · rw [if_pos hc, if_pos hc]
      obtain ⟨h1, h2, h3, h4, ho, hl, hr, hcase⟩ := step_places hi hok hc
      have e : stpM t (semM t f') i p = stpM t (semM t g') i p := by
        unfold stpM
        rcases hcase with hn | ⟨hn, hB⟩ | ⟨hn, hB, hB2⟩
        · rw [if_pos hn, if_pos hn]
        · have q := hB.jlt
          have n0 : (headM t i).2.1 ≠ 0 := by omega
          rw [if_neg n0, if_neg n0, if_pos hn, if_pos hn]
          rw [ih ((headM t i).1 + 1) (by omega) (by omega) hB.ok f' g' _ (by omega) (by omega)]
        · have q := hB.jlt
          have q1 := hB.ege
          have q2 := hB2.jlt
          have n0 : (headM t i).2.1 ≠ 0 := by omega
          have n1 : (headM t i).2.1 ≠ 1 := by omega
          rw [if_neg n0, if_neg n0, if_neg n1, if_neg n1]
          rw [ih ((headM t i).1 + 1) (by omega) (by omega) hB.ok f' g' _ (by omega) (by omega)]
          rw [ih (endJ t ((headM t i).1 + 1) + 1 + 1) (by omega) (by omega) hB2.ok f' g' _ (by omega) (by omega)]
      rw [e]
      exact ih (nxM t i) (by omega) h2 h3 f' g' _ (by omega) (by omega)
    · rw [if_neg hc, if_neg hc]

def semF (t : ByteArray) (i : Nat) (p : Pu) : Pu := semM t (t.size + 1) i p

theorem semF_stop {t : ByteArray} {i : Nat} {p : Pu} (hc : ¬ (i < t.size ∧ byt t i ≠ 41)) : semF t i p = p := by
  unfold semF
  rw [sem_eq, if_neg hc]
theorem semF_step {t : ByteArray} {i : Nat} {p : Pu} (hi : i ≤ t.size) (hok : okJ t i = true) (hc : i < t.size ∧ byt t i ≠ 41) : semF t i p = semF t (nxM t i) (stpM t (semF t) i p) := by
  obtain ⟨h1, h2, h3, h4, ho, hl, hr, hcase⟩ := step_places hi hok hc
  unfold semF
  rw [sem_fuel t t.size i (by omega) hi hok (t.size + 1) (t.size + 1 + 1) p (by omega) (by omega), sem_eq, if_pos hc]

/-- A step of a policy keeps. -/
theorem sem_keeps {M : Int} {o0 : List Int} {t : ByteArray} : ∀ (f i : Nat) (p : Pu), i ≤ t.size → okJ t i = true → Keeps M o0 p → Keeps M o0 (semM t f i p)
  | 0, i, p, hi, hok, h => h
  | f + 1, i, p, hi, hok, h => by
    rw [sem_eq]
    by_cases hc : i < t.size ∧ byt t i ≠ 41
    · rw [if_pos hc]
      obtain ⟨h1, h2, h3, h4, ho, hl, hr, hcase⟩ := step_places hi hok hc
      have hso := st_ok ho
      refine sem_keeps f _ _ h2 h3 ?_
      unfold stpM
      rcases hcase with hn | ⟨hn, hB⟩ | ⟨hn, hB, hB2⟩
      · rw [if_pos hn]
        exact do_keeps h hso
      · have q := hB.jlt
        have n0 : (headM t i).2.1 ≠ 0 := by omega
        rw [if_neg n0, if_pos hn]
        have hk : (Split.stM t i).kind = 72 := by
          rcases head_kind n0 ho with ⟨_, hh⟩ | ⟨hh, _⟩
          · exact hh
          · omega
        exact good_back (sem_keeps f _ _ (by omega) hB.ok (good_hold h _ hso.a0 (hso.h hk)))
      · have q := hB.jlt
        have q2 := hB2.jlt
        have n0 : (headM t i).2.1 ≠ 0 := by omega
        have n1 : (headM t i).2.1 ≠ 1 := by omega
        rw [if_neg n0, if_neg n1]
        split
        · exact sem_keeps f _ _ (by omega) hB2.ok h
        · exact sem_keeps f _ _ (by omega) hB.ok h
    · rw [if_neg hc]; exact h
theorem stp_keeps {M : Int} {o0 : List Int} {t : ByteArray} {i : Nat} {p : Pu} (hi : i ≤ t.size) (hok : okJ t i = true) (hc : i < t.size ∧ byt t i ≠ 41) (h : Keeps M o0 p) : Keeps M o0 (stpM t (semF t) i p) := by
  obtain ⟨h1, h2, h3, h4, ho, hl, hr, hcase⟩ := step_places hi hok hc
  have hso := st_ok ho
  unfold stpM
  rcases hcase with hn | ⟨hn, hB⟩ | ⟨hn, hB, hB2⟩
  · rw [if_pos hn]
    exact do_keeps h hso
  · have q := hB.jlt
    have n0 : (headM t i).2.1 ≠ 0 := by omega
    rw [if_neg n0, if_pos hn]
    have hk : (Split.stM t i).kind = 72 := by
      rcases head_kind n0 ho with ⟨_, hh⟩ | ⟨hh, _⟩
      · exact hh
      · omega
    exact good_back (sem_keeps _ _ _ (by omega) hB.ok (good_hold h _ hso.a0 (hso.h hk)))
  · have q := hB.jlt
    have q2 := hB2.jlt
    have n0 : (headM t i).2.1 ≠ 0 := by omega
    have n1 : (headM t i).2.1 ≠ 1 := by omega
    rw [if_neg n0, if_neg n1]
    split
    · exact sem_keeps _ _ _ (by omega) hB2.ok h
    · exact sem_keeps _ _ _ (by omega) hB.ok h
end Go.Proofs.Ytbpolcnjojlkjab

/- splitref's walk and step. -/
namespace Go.Proofs.Ytbpolcnjojlkjab
open Go.ChangeShapes Go.WideShapes Go.ChangeAt Go.RowKit
open Split (Pu payM Keeps propM byt byt_lt headM St doM holdM backM numM amongM none8 risM digM bucM)
set_option linter.unusedVariables false
set_option linter.unusedSimpArgs false

def WalkOk (t : ByteArray) (i : Nat) : Prop := ∀ (T L Q : Nat) (p : Pu) (M : Int) (o0 : List Int) (w : World), RSt w T L Q p → Keeps M o0 p →
  Calls Try.prog 25 #[.pointer (some ⟨T, 0, none⟩), .string t, .int .i64 i] w fun e w' => e = .returned (.int .i64 (endJ t i : Nat)) ∧ RSt w' T L Q (semF t i p) ∧ On T L Q w w'
def StepOk (t : ByteArray) (i : Nat) : Prop := ∀ (T L Q : Nat) (p : Pu) (M : Int) (o0 : List Int) (w : World), RSt w T L Q p → Keeps M o0 p →
  Calls Try.prog 35 #[.pointer (some ⟨T, 0, none⟩), .string t, .int .i64 i] w fun e w' => e = .returned (.int .i64 (nxM t i : Nat)) ∧ RSt w' T L Q (stpM t (semF t) i p) ∧ On T L Q w w'

set_option maxHeartbeats 4000000 in
theorem walk_of (t : ByteArray) (i : Nat) (hs : t.size ≤ 120) (hi : i ≤ t.size) (hok : okJ t i = true) (hst : ∀ k, i ≤ k → k < t.size → byt t k ≠ 41 → okJ t k = true → StepOk t k) : WalkOk t i := by
  intro T L Q p M o0 w h hk
  have H := hide h
  have HK := hide hk
  have HST := hide hst
  have HOK := hide hok
  clear h hk hst hok
  go_enter Try.func25, Try.ntmps25
  go_wp2_with fail
  go_loopw [2] (fun ii wr => ∃ (k : Nat) (q : Pu), i ≤ k ∧ k ≤ t.size ∧ ii = .int .i64 k ∧ Hid (okJ t k = true) ∧ Hid (RSt wr T L Q q) ∧ Hid (Keeps M o0 q) ∧ Hid (semF t i p = semF t k q) ∧ Hid (endJ t i = endJ t k) ∧ Hid (On T L Q w wr)) (fun ii _ => t.size - (intOf ii).toNat)
  case atStart => exact ⟨i, p, Nat.le_refl _, hi, rfl, HOK, H, HK, rfl, rfl, On.refl _ _ _ _⟩
  case round =>
    obtain ⟨k, q, hik, hks, rfl, hokk, hq, hkq, hsem, hend, hg⟩ := hrel
    clear H HK HOK
    by_cases hsz : k < t.size
    · by_cases h41 : byt t k = 41
      · have hst := semF_stop (t := t) (i := k) (p := q) (by simp [h41])
        have hfin : Hid (semF t i p = q) := (unhide hsem).trans hst
        have hen : Hid (endJ t i = k) := by
          rcases scan_cases hks (unhide hokk) with ⟨_, _, h3⟩ | ⟨h1, _⟩ | ⟨h1, _⟩ | ⟨h1, _⟩
          · exact (unhide hend).trans h3
          · exact absurd h41 h1.2
          · exact absurd h41 h1.2
          · exact absurd h41 h1.2
        rw [byt_lt hsz] at h41
        have hne : ((t[k].toNat : Int) != 41) = false := by simp [h41]
        clear h41 hst
        go_wp2_with fail
        go_ret
        rw [unhide hfin, unhide hen]
        exact ⟨rfl, unhide hq, unhide hg⟩
      · obtain ⟨p1, p2, p3, p4, _⟩ := step_places hks (unhide hokk) ⟨hsz, h41⟩
        have hsf := semF_step (p := q) hks (unhide hokk) ⟨hsz, h41⟩
        have hkp := stp_keeps hks (unhide hokk) ⟨hsz, h41⟩ (unhide hkq)
        have HSF := hide ((unhide hsem).trans hsf)
        have HKP := hide hkp
        have HE := hide ((unhide hend).trans p4)
        have HO := hide p3
        have HS := hide (unhide HST k hik hsz h41 (unhide hokk))
        rw [byt_lt hsz] at h41
        have hne : ((t[k].toNat : Int) != 41) = true := by rw [bne_iff_ne]; exact h41
        clear h41 hsf hkp p3 p4
        go_wp2_with fail
        refine (unhide HS T L Q q M o0 _ (unhide hq) (unhide hkq)).mono ?_
        rintro e w2 ⟨rfl, h2, g2⟩
        have H2 := hide h2
        have G2 := hide ((unhide hg).trans g2)
        clear h2 g2
        go_wp2_with fail
        go_roundw
        case rel => exact ⟨nxM t k, stpM t (semF t) k q, by omega, p2, rfl, HO, H2, HKP, HSF, HE, G2⟩
        case measure => simp [intOf]; omega
    · have hst := semF_stop (t := t) (i := k) (p := q) (by simp [hsz])
      have hfin : Hid (semF t i p = q) := (unhide hsem).trans hst
      have hen : Hid (endJ t i = k) := by
        rcases scan_cases hks (unhide hokk) with ⟨_, _, h3⟩ | ⟨h1, _⟩ | ⟨h1, _⟩ | ⟨h1, _⟩
        · exact (unhide hend).trans h3
        · exact absurd h1.1 hsz
        · exact absurd h1.1 hsz
        · exact absurd h1.1 hsz
      clear hst
      go_wp2_with fail
      go_ret
      rw [unhide hfin, unhide hen]
      exact ⟨rfl, unhide hq, unhide hg⟩

/-- What a bucket's byte says. -/
theorem buc_of {t : ByteArray} {i : Nat} (h : bucM t (i + 1) = i + 2) : ∃ (b : Nat) (hlt : i + 1 < t.size), b < 8 ∧ (t[i + 1].toNat : Int) = b + 97 ∧ byt t (i + 1) = b + 97 := by
  have hx : Split.buc (byt t (i + 1)) = true := by
    cases hx : Split.buc (byt t (i + 1))
    · rw [Split.bucM_f hx] at h; omega
    · rfl
  rw [Split.buc_t] at hx
  have hlt : i + 1 < t.size := Split.lt_of_byt (by omega)
  refine ⟨(byt t (i + 1) - 97).toNat, hlt, by omega, ?_, by omega⟩
  rw [← byt_lt hlt]; omega

set_option maxHeartbeats 4000000 in
theorem step_P (t : ByteArray) (i : Nat) (hs : t.size ≤ 120) (hi : i < t.size) (h80 : byt t i = 80) (ho : (headM t i).2.2 = true) : StepOk t i := by
  intro T L Q p M o0 w h hk
  have hh : headM t i = (bucM t (i + 1), 0, decide (bucM t (i + 1) = i + 2)) := by simp [headM, h80]
  have hb2 : bucM t (i + 1) = i + 2 := by rw [hh] at ho; simpa using ho
  obtain ⟨b, hlt, hb8, hbt, hbb⟩ := buc_of hb2
  have hnx : nxM t i = i + 2 := by simp [nxM, hh, hb2]
  have hst : stpM t (semF t) i p = payM p b 1000000000 := by
    have e : Split.stM t i = ⟨80, byt t (i + 1) - 97, 0, none8, 0⟩ := by simp [Split.stM, h80]
    have e2 : ((b : Int) + 97 - 97).toNat = b := by omega
    simp only [stpM, hh, e, if_true, doM, hbb, e2]
  rw [hnx, hst]
  have hhd : headM t i = (i + 2, 0, true) := by rw [hh, hb2]; simp
  have HHD := hide hhd
  rw [byt_lt hi] at h80
  have H := hide h
  have HK := hide hk
  clear h hk hh hb2 hnx hst hbb ho hhd
  go_enter Try.func35, Try.ntmps35
  go_wp2_with fail
  refine (head_any t i _ hs hi).mono ?_
  rintro e w1 ⟨rfl, n1, rfl⟩
  rw [unhide HHD]
  go_wp2_with fail
  refine (upto_any T L Q p M o0 b 1000000000 _ (by exact (unhide H).drewN n1) (unhide HK) hb8 (by omega)).mono ?_
  rintro e w2 ⟨rfl, h2, g2⟩
  have H2 := hide h2
  have G2 := hide (((On.refl T L Q w).drewN n1).trans g2)
  clear h2 g2
  go_wp2_with fail
  go_ret
  exact ⟨by first | rfl | exact ret_int (by omega), unhide H2, unhide G2⟩
end Go.Proofs.Ytbpolcnjojlkjab

/- splitref's step, the others. -/
namespace Go.Proofs.Ytbpolcnjojlkjab
open Go.ChangeShapes Go.WideShapes Go.ChangeAt Go.RowKit
open Split (Pu payM Keeps propM byt byt_lt headM St doM holdM backM numM amongM none8 risM digM bucM)
set_option linter.unusedVariables false
set_option linter.unusedSimpArgs false


theorem wrapN (n : Nat) (h : n ≤ 1000) (x : Int) (e : x = n) : IntKind.i64.wrap x = (n : Int) := by rw [IntKind.wrap_i64]; omega
theorem wrapB (n : Nat) (h : n ≤ 255) (x : Int) (e : x = n) : IntKind.u8.wrap x = (n : Int) := by simp [IntKind.wrap, IntKind.bits, IntKind.signed]; omega

theorem capped {t : ByteArray} {i : Nat} (h : byt t i = 67 ∨ byt t i = 73) (hi : i < t.size) (ho : (headM t i).2.2 = true) :
    headM t i = (i + 6, if byt t i = 73 then 2 else 0, true) ∧ bucM t (i + 1) = i + 2 ∧ digM t (i + 2) 4 = i + 2 + 4 ∧ i + 2 + 4 ≤ t.size ∧ Split.stM t i = ⟨byt t i, byt t (i + 1) - 97, numM t (i + 2) 4, none8, 0⟩ ∧ 0 ≤ numM t (i + 2) 4 := by
  have n80 : byt t i ≠ 80 := by omega
  have hst : Split.stM t i = ⟨byt t i, byt t (i + 1) - 97, numM t (i + 2) 4, none8, 0⟩ := by simp only [Split.stM, if_neg n80, if_pos h]
  have h0 := (st_ok ho).a0
  rw [hst] at h0
  have hh : headM t i = if bucM t (i + 1) = i + 2 then (digM t (i + 2) 4, if byt t i = 73 then 2 else 0, decide (digM t (i + 2) 4 = i + 6)) else (bucM t (i + 1), 0, false) := by
    simp only [headM, if_neg n80, if_pos h]
  by_cases hb : bucM t (i + 1) = i + 2
  · rw [if_pos hb] at hh
    have hd : digM t (i + 2) 4 = i + 6 := by rw [hh] at ho; simpa using ho
    have hz := Split.digM_size t 4 (i + 2) (by have := Split.bucM_size t (i + 1) (by omega); omega)
    refine ⟨?_, hb, by omega, by omega, hst, h0⟩
    rw [hh, hd]; simp
  · rw [if_neg hb] at hh
    rw [hh] at ho
    exact absurd ho (by simp)

set_option maxHeartbeats 4000000 in
theorem step_C (t : ByteArray) (i : Nat) (hs : t.size ≤ 120) (hi : i < t.size) (h67 : byt t i = 67) (ho : (headM t i).2.2 = true) : StepOk t i := by
  intro T L Q p M o0 w h hk
  obtain ⟨hhd, hb2, hd4, hsz, hstm, hn0⟩ := capped (.inl h67) hi ho
  obtain ⟨b, hlt, hb8, hbt, hbb⟩ := buc_of hb2
  have n73 : byt t i ≠ 73 := by omega
  rw [if_neg n73] at hhd
  have hnx : nxM t i = i + 6 := by simp [nxM, hhd]
  have hst : stpM t (semF t) i p = payM p b (numM t (i + 2) 4) := by
    have e2 : ((b : Int) + 97 - 97).toNat = b := by omega
    simp only [stpM, hhd, hstm, if_true, doM, hbb, e2, h67]
    simp
  rw [hnx, hst]
  have HHD := hide hhd
  have HN := hide (number_any t (i + 2) 4 · hs hsz (by omega) hd4)
  obtain ⟨v, hv⟩ : ∃ v, numM t (i + 2) 4 = v := ⟨_, rfl⟩
  rw [hv] at HN hn0 ⊢
  rw [byt_lt hi] at h67
  have H := hide h
  have HK := hide hk
  clear h hk hb2 hnx hst hbb ho hhd hstm hv n73 hd4
  have hw1 := wrapN (i + 1) (by omega) ((i : Int) + 1) (by omega)
  have hw2 := wrapN (i + 2) (by omega) ((i : Int) + 2) (by omega)
  have hw3 := wrapB b (by omega) ((b : Int) + 97 - 97) (by omega)
  have hw4 := wrapN b (by omega) (b : Int) rfl
  have hw5 := wrapB b (by omega) (b : Int) rfl
  go_enter Try.func35, Try.ntmps35
  go_wp2_with fail
  refine (head_any t i _ hs hi).mono ?_
  rintro e w1 ⟨rfl, n1, rfl⟩
  rw [unhide HHD]
  go_wp2_with fail
  go_region_with (first
    | (go_at_call 48; refine (unhide HN _).mono ?_; rintro e w2 ⟨rfl, rfl⟩)
    | (go_at_call 33; refine (upto_any T L Q p M o0 b v _ (by exact (unhide H).drewN _) (unhide HK) hb8 hn0).mono ?_; rintro e w2 ⟨rfl, h2, g2⟩; have H2 := hide h2; have G2 := hide (((On.refl T L Q w).drewN _).trans g2); clear h2 g2))
  all_goals (go_wp2_with fail; go_ret; exact ⟨by first | rfl | exact ret_int (by omega), unhide H2, unhide G2⟩)

theorem RSt.any {w : World} {T L Q : Nat} {p : Pu} (h : RSt w T L Q p) (q : Pu) (h1 : q.hand = p.hand) (h2 : q.owed = p.owed) (h3 : q.paid = p.paid) : RSt w T L Q q := by
  obtain ⟨a, b, c, d⟩ := p
  obtain ⟨a', b', c', d'⟩ := q
  dsimp only at h1 h2 h3
  subst h1; subst h2; subst h3
  exact ⟨h.lo, h.lp, h.n1, h.n2, h.n3, h.row, h.rl, h.rq⟩

set_option maxRecDepth 100000 in
set_option maxHeartbeats 4000000 in
theorem step_H (t : ByteArray) (i : Nat) (hs : t.size ≤ 120) (hi : i < t.size) (h72 : byt t i = 72) (hok : okJ t i = true) (hwk : WalkOk t (i + 4)) : StepOk t i := by
  intro T L Q p M o0 w h hk
  obtain ⟨p1, p2, p3, p4, ho, p6, p7, hcase⟩ := step_places (by omega) hok ⟨hi, by omega⟩
  have e80 : byt t i ≠ 80 := by omega
  have e67 : ¬ (byt t i = 67 ∨ byt t i = 73) := by omega
  have e82 : byt t i ≠ 82 := by omega
  have hstm : Split.stM t i = ⟨72, 0, numM t (i + 1) 2, none8, 0⟩ := by simp only [Split.stM, if_neg e80, if_neg e67, if_neg e82]
  have hh : headM t i = if digM t (i + 1) 2 = i + 3 ∧ byt t (i + 1) = 48 ∧ byt t (i + 2) = 48 then (i + 2, 1, false) else (digM t (i + 1) 2, 1, decide (digM t (i + 1) 2 = i + 3)) := by
    simp only [headM, if_neg e80, if_neg e67, if_neg e82, if_pos h72]
  have hd : digM t (i + 1) 2 = i + 3 := by
    rw [hh] at ho
    split at ho
    · exact absurd ho (by simp)
    · simpa using ho
  have hhd : headM t i = (i + 3, 1, true) := by
    rw [hh] at ho ⊢
    split at ho
    · exact absurd ho (by simp)
    · rename_i hx; rw [if_neg hx, hd]; simp
  have hB : BlkAt t (i + 3) := by
    rcases hcase with hn | ⟨hn, hB⟩ | ⟨hn, hB, hB2⟩
    · rw [hhd] at hn; simp at hn
    · rw [hhd] at hB; exact hB
    · rw [hhd] at hB; exact hB
  have hj4 := hB.jlt
  have hel := hB.elt
  have heg := hB.ege
  have hsz : i + 1 + 2 ≤ t.size := by omega
  have hso := st_ok ho
  have hn0 := hso.a0
  have hn1 := hso.h (by rw [hstm])
  rw [hstm] at hn0 hn1
  dsimp only at hn0 hn1
  have hnx : nxM t i = endJ t (i + 4) + 1 := by simp [nxM, hhd]
  have hst : stpM t (semF t) i p = backM (semF t (i + 4) (holdM p (numM t (i + 1) 2))) := by simp [stpM, hhd, hstm]
  rw [hnx, hst]
  have hpb := Split.part_bd p.hand (numM t (i + 1) 2) hk.h0 hn0 hn1
  have hkh := Split.good_hold hk _ hn0 hn1
  have HN := hide (number_any t (i + 1) 2 · hs hsz (by omega) (by omega))
  have hq : Hid ((semF t (i + 4) (holdM p (numM t (i + 1) 2))).held = p.held ++ [p.hand - p.hand * numM t (i + 1) 2 / 100]) := by
    show (semF t (i + 4) (holdM p (numM t (i + 1) 2))).held = _
    unfold semF
    rw [sem_held t _ _ _ (by omega) hB.ok]
    rfl
  have HK2 : Hid (Keeps M o0 (semF t (i + 4) (holdM p (numM t (i + 1) 2)))) := sem_keeps _ _ _ (by omega) hB.ok hkh
  have HKH := hide hkh
  obtain ⟨v, hv⟩ : ∃ v, numM t (i + 1) 2 = v := ⟨_, rfl⟩
  rw [hv] at HN hn0 hn1 hpb hq HKH HK2 ⊢
  obtain ⟨en, hen⟩ : ∃ en, endJ t (i + 4) = en := ⟨_, rfl⟩
  have hel' : en < t.size := by rw [← hen]; exact hel
  have HE := hide hen
  rw [hen]
  have hh0 := hk.h0
  have hpl := hk.paid_le 0
  have hp0 := hk.pa 0
  have hm9 : p.hand ≤ 1000000000 := by omega
  have hml : p.hand * v ≤ 1000000000 * 100 := Int.mul_le_mul hm9 hn1 hn0 (by omega)
  have hml0 : 0 ≤ p.hand * v := Int.mul_nonneg hh0 hn0
  have hrs : Hid (∀ w, RSt w T L Q p → w.cell? ⟨T, 0, none⟩ = some (.int .i64 p.hand) ∧ w.frozen? ⟨T, 0, none⟩ = false ∧ ∀ pt, pt = p.hand * v / 100 → RSt (w.setCell ⟨T, 0, none⟩ (.int .i64 pt)) T L Q (holdM p v)) := by
    intro w h
    refine ⟨h.ch, h.f0 0, ?_⟩
    intro pt hpt
    subst hpt
    exact (h.hand (p.hand * v / 100)).any _ rfl rfl rfl
  obtain ⟨hdn, hhe⟩ : ∃ hdn, p.hand = hdn := ⟨_, rfl⟩
  rw [hhe] at hh0 hm9 hml hml0 hpb hq hrs
  have HHD := hide hhd
  have HW := hide hwk
  rw [byt_lt hi] at h72
  have H := hide h
  clear h hk hkh hh hnx hst ho hhd hstm hv hd hcase hso hwk p1 p2 p3 p4 p6 p7 hB hpl hp0 hen hel heg e80 e67 e82 hhe
  obtain ⟨pt, hpt⟩ : ∃ pt, hdn * v / 100 = pt := ⟨_, rfl⟩
  rw [hpt] at hpb hq hrs
  obtain ⟨q, hqe⟩ : ∃ q, semF t (i + 4) (holdM p v) = q := ⟨_, rfl⟩
  rw [hqe] at HK2 hq ⊢
  have HQE := hide hqe
  clear hqe
  go_enter Try.func35, Try.ntmps35
  go_wp2_with fail
  refine (head_any t i _ hs hi).mono ?_
  rintro e w1 ⟨rfl, n1, hw1⟩
  rw [unhide HHD]
  have hR1 : RSt w1 T L Q p := by rw [hw1]; exact (unhide H).drewN n1
  have G1 : Hid (On T L Q w w1) := by rw [hw1]; exact (On.refl T L Q w).drewN n1
  obtain ⟨c0, f0, hrs1⟩ := unhide hrs w1 hR1
  have H1 : Hid (RSt (w1.setCell ⟨T, 0, none⟩ (.int .i64 pt)) T L Q (holdM p v)) := hrs1 pt rfl
  clear hrs hrs1 hR1 hw1
  have HPT := hide hpt
  have hw1 : IntKind.i64.wrap (hdn * v) = hdn * v := by rw [IntKind.wrap_i64]; omega
  have hw2 := wrapN (i + 1) (by omega) ((i : Int) + 1) (by omega)
  clear hpt
  go_wp2_with fail
  go_quiet ((go_at_call 48; exact Calls.quiet_of_same (unhide HN _)))
  rw [unhide HPT]
  clear hw1 hw2
  go_wp2_with fail
  try go_region
  go_wp2_with fail
  rw [show ((i : Int) + 3 + 1) = ((i + 4 : Nat) : Int) by omega]
  refine (unhide HW T L Q (holdM p v) M o0 _ (by exact (unhide H1).other rfl rfl rfl) (unhide HKH)).mono ?_
  rintro e w2 ⟨rfl, h2, g2⟩
  rw [unhide HE]
  rw [unhide HQE] at h2
  have c2 := h2.ch
  have f2 := h2.f0 0
  have hq0 := (unhide HK2).h0
  have hql := (unhide HK2).paid_le 0
  have hqp := (unhide HK2).pa 0
  have hq9 : q.hand ≤ 1000000000 := by omega
  have hfin : Hid (RSt (w2.setCell ⟨T, 0, none⟩ (.int .i64 (q.hand + (hdn - pt)))) T L Q (backM q)) := by
    have hb : backM q = ⟨q.hand + (hdn - pt), p.held, q.owed, q.paid⟩ := by
      have := unhide hq
      simp [backM, this]
    rw [hb]
    exact (h2.hand (q.hand + (hdn - pt))).any _ rfl rfl rfl
  have G2 := hide (((unhide G1).trans (((On.refl T L Q w1).drewN nq).set (x := ⟨T, 0, none⟩) (.int .i64 pt) (.inl rfl))).trans ⟨g2.os, g2.tape, g2.output, g2.size, g2.block⟩)
  have G3 := hide ((unhide G2).set (x := ⟨T, 0, none⟩) (.int .i64 (q.hand + (hdn - pt))) (.inl rfl))
  obtain ⟨qh, hqh⟩ : ∃ qh, q.hand = qh := ⟨_, rfl⟩
  rw [hqh] at c2 hq0 hq9 hfin G3
  clear hql hqp hqh h2 g2 hq G2 H1 c0 f0 HKH HK2
  go_wp2_with fail
  try go_region
  go_wp2_with fail
  go_ret
  exact ⟨by first | rfl | exact ret_int (by omega), (unhide hfin).other rfl rfl rfl, unhide G3⟩
end Go.Proofs.Ytbpolcnjojlkjab
