/- splitref's act: the instruction R, and all of them. -/
import Derived.Test.YtbpolcnjojlkjabRefAct
import Derived.Test.YtbpolcnjojlkjabBitAnd
namespace Go.Proofs.Ytbpolcnjojlkjab
open Go.ChangeShapes Go.WideShapes Go.ChangeAt Go.RowKit
open Split (St SOk Pu Keeps payM propM holdM backM doM skipM none8)
set_option linter.unusedVariables false
set_option linter.unusedSimpArgs false

set_option maxRecDepth 100000 in
set_option maxHeartbeats 4000000 in
theorem act_R (a b m : Int) (ha : 0 ≤ a) (ha8 : a ≤ 255) (hb0 : 0 ≤ b) (hb255 : b ≤ 255) : ActOk 82 a b m := by
  intro B T L Q sb i va vl vc p M o0 w hi h hk hl _
  have e1 : decS 82 a b m = ⟨82, 0, 0, bitsM a, 0⟩ := rfl
  have e2 : doM ⟨82, 0, 0, bitsM a, 0⟩ p = propM p (bitsM a) := by simp [doM]
  have e3 : skipM ⟨82, 0, 0, bitsM a, 0⟩ p = 0 := by simp [skipM]
  unfold ActPost
  rw [e1, e2, e3]
  have HM := hide h
  have HK := hide hk
  have hwy := fun w' => ways_any 82 a b m i w' (by omega) (by omega) (by omega) (by omega) (by omega)
  rw [show wayA 82 a i = i + 1 from by simp [wayA], show wayB 82 a b i = i + 1 from by simp [wayB]] at hwy
  have HWY := hide hwy
  clear h hk hwy e1 e2 e3
  go_enter Try.func24, Try.ntmps24
  go_wp2_with fail
  refine (unhide HWY _).mono ?_
  rintro e w2 ⟨rfl, hb2⟩
  obtain ⟨hM2, hB2, hrow⟩ := box_ways (unhide HM) hb2
  rw [heap_alloc_new] at hrow
  have hl2 : w.heap.size < w2.heap.size := cell_lt hrow
  have c0 := cell_of_row w2 w.heap.size 0 _ _ _ hrow
  have c1 := cell_of_row w2 w.heap.size 1 _ _ _ hrow
  have c2 := cell_of_row w2 w.heap.size 2 _ _ _ hrow
  have c3 := cell_of_row w2 w.heap.size 3 _ _ _ hrow
  simp at c0 c1 c2 c3
  have M2 := hide hM2
  have B2 := hide hB2
  have HROW := hide hrow
  clear hb2 hM2 hB2 hrow HWY c2 c3
  have hmk := mkB
  go_wp2_with fail
  clear hmk c0 c1
  have hB0 : Hid (Bs (w2.alloc (.cells madeB 4)) w2.heap.size (bfill a 0)) := by
    show Bs _ _ _
    rw [bfill_zero]
    exact ⟨by simp [none8], by rw [← madeB_eq]; exact heap_alloc_new _ _⟩
  have hbl0 : Hid (Below w2.heap.size w2 (w2.alloc (.cells madeB 4))) := (Below.refl _ _).alloc (Nat.le_refl _) _
  have hTw := (unhide M2).st.lt
  go_loopw [13] (fun kk wr => ∃ k : Nat, k ≤ 8 ∧ kk = .int .i64 k ∧ Hid (Bs wr w2.heap.size (bfill a k)) ∧ Hid (Below w2.heap.size w2 wr)) (fun kk _ => 8 - (intOf kk).toNat)
  case atStart => exact ⟨0, by omega, rfl, hB0, hbl0⟩
  case round =>
    obtain ⟨k, hk8, rfl, hb, hg⟩ := hrel
    clear hB0 hbl0
    have hSw : w2.heap.size < wr.heap.size := cell_lt (unhide hb).2
    have hrow := ((unhide hg).block w.heap.size hl2).trans (unhide HROW)
    have c1 := cell_of_row wr w.heap.size 1 _ _ _ hrow
    have hlr : w.heap.size < wr.heap.size := cell_lt hrow
    simp at c1
    clear hrow
    by_cases hlt : k < 8
    · have cz := (unhide hb).cell k hlt
      have fz := (unhide hb).fr k
      have hbit := and_bit a k hlt
      obtain ⟨v, hv⟩ : ∃ v, bits BinOp.and IntKind.i64 a (wrap64 (2 ^ k)) = v := ⟨_, rfl⟩
      rw [hv] at hbit
      have hst : Hid (Bs (wr.setCell ⟨w2.heap.size, k, none⟩ (.bool (bitM a k))) w2.heap.size (bfill a (k + 1))) := by
        show Bs _ _ _
        rw [← bfill_set a k hlt]
        exact (unhide hb).set k _
      have hgt : Hid (Below w2.heap.size w2 (wr.setCell ⟨w2.heap.size, k, none⟩ (.bool (bitM a k)))) := (unhide hg).setCell (p := ⟨w2.heap.size, k, none⟩) (Nat.le_refl _) _
      obtain ⟨bb, hbb⟩ : ∃ bb, (bfill a k).getD k false = bb := ⟨_, rfl⟩
      rw [hbb] at cz
      obtain ⟨bm, hbm⟩ : ∃ bm, bitM a k = bm := ⟨_, rfl⟩
      rw [hbm] at hbit hst hgt
      clear hbb hbm
      go_wp2_with fail
      go_region
      go_wp2_with fail
      go_roundw
      case rel => exact ⟨k + 1, by omega, by go_num, (unhide hst).other rfl, Below.drew (unhide hgt)⟩
      case measure => simp [intOf]; omega
    · have hk8' : k = 8 := by omega
      subst hk8'
      rw [bfill_all] at hb
      go_wp2_with fail
      refine (rate_any T L Q w2.heap.size p (bitsM a) M o0 _ ((unhide M2).below (unhide hg)).st (unhide HK) (unhide hb) (by omega) (by omega) (by omega)).mono ?_
      rintro e w3 ⟨rfl, h3, g3⟩
      have M3 : Hid (Mach w3 B T L Q sb (.slice va vl vc) (propM p (bitsM a))) := ((unhide M2).below (unhide hg)).on g3 h3 (Split.propM_held _ _)
      have B3 := hide (((unhide B2).trans ((unhide hg).mono (unhide M2).bb)).trans (((unhide M2).below (unhide hg)).onB g3))
      clear h3 g3
      go_wp2_with fail
      go_ret2
      exact ⟨_, by first | rfl | simp, unhide M3, unhide B3⟩

/-- Every instruction that holds. -/
theorem act_all {k a b m left : Int} (h : decB k a b left = true) (ha : 0 ≤ a) (ha' : a ≤ 255) (hb : 0 ≤ b) (hb' : b ≤ 255) (hm : 0 ≤ m) (hm' : m ≤ 65535) : ActOk k a b m := by
  unfold decB at h
  by_cases h80 : k = 80
  · subst h80
    simp at h
    exact act_P a b m ha h hb hb'
  rw [if_neg h80] at h
  by_cases h67 : k = 67
  · subst h67
    simp at h
    exact act_C a b m ha h hb hb' hm hm'
  rw [if_neg h67] at h
  by_cases h82 : k = 82
  · subst h82
    exact act_R a b m ha ha' hb hb'
  rw [if_neg h82] at h
  by_cases h72 : k = 72
  · subst h72
    simp at h
    exact act_H a b m h.1 h.2 hb hb'
  rw [if_neg h72] at h
  by_cases h69 : k = 69
  · subst h69
    exact act_E a b m ha ha' hb hb'
  rw [if_neg h69] at h
  by_cases h74 : k = 74
  · subst h74
    exact act_J a b m ha ha' hb hb'
  rw [if_neg h74] at h
  by_cases h73 : k = 73
  · subst h73
    simp at h
    exact act_I a b m ha h.1 hb hb' hm hm'
  · rw [if_neg h73] at h
    simp at h
end Go.Proofs.Ytbpolcnjojlkjab
