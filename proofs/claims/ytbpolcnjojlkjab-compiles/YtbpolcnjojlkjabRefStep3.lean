/- splitref's step: R; every walk. -/
import Derived.Test.YtbpolcnjojlkjabRefStep2
namespace Go.Proofs.Ytbpolcnjojlkjab
open Go.ChangeShapes Go.WideShapes Go.ChangeAt Go.RowKit
open Split (Pu payM Keeps propM byt byt_lt headM St doM holdM backM numM amongM none8 risM digM bucM)
set_option linter.unusedVariables false
set_option linter.unusedSimpArgs false

set_option maxHeartbeats 4000000 in
theorem step_R (t : ByteArray) (i : Nat) (hs : t.size ≤ 120) (hi : i < t.size) (h82 : byt t i = 82) (ho : (headM t i).2.2 = true) : StepOk t i := by
  intro T L Q p M o0 w h hk
  have e80 : byt t i ≠ 80 := by omega
  have e67 : ¬ (byt t i = 67 ∨ byt t i = 73) := by omega
  have hh : headM t i = if byt t (i + 1) = 104 then (i + 1, 0, false) else (risM t (i + 1), 0, decide (i + 3 ≤ risM t (i + 1))) := by
    simp only [headM, if_neg e80, if_neg e67, if_pos h82]
  have hhd : headM t i = (risM t (i + 1), 0, true) ∧ i + 3 ≤ risM t (i + 1) := by
    rw [hh] at ho ⊢
    split at ho
    · exact absurd ho (by simp)
    · rename_i hx
      rw [if_neg hx]
      exact ⟨by simpa using ho, by simpa using ho⟩
  obtain ⟨hhd, hj3⟩ := hhd
  have hjs := Split.risM_size t (i + 1) (by omega)
  have hnx : nxM t i = risM t (i + 1) := by simp [nxM, hhd]
  have hst : stpM t (semF t) i p = propM p (amongM t (i + 1) (risM t (i + 1))) := by
    simp [stpM, hhd, Split.stM, h82, doM]
  have hbu := ris_bucs t (i + 1)
  rw [hnx, hst]
  obtain ⟨j, hj⟩ : ∃ j, risM t (i + 1) = j := ⟨_, rfl⟩
  rw [hj] at hhd hj3 hjs hbu ⊢
  have HBU := hide hbu
  have HHD := hide hhd
  rw [byt_lt hi] at h82
  have H := hide h
  have HK := hide hk
  clear h hk hh hnx hst ho hhd hj hbu e80 e67
  have hmk := mkB
  go_enter Try.func35, Try.ntmps35
  go_wp2_with fail
  refine (head_any t i _ hs hi).mono ?_
  rintro e w1 ⟨rfl, n1, hw1⟩
  rw [unhide HHD]
  have HR1 : Hid (RSt w1 T L Q p) := by rw [hw1]; exact (unhide H).drewN n1
  have G1 : Hid (On T L Q w w1) := by rw [hw1]; exact (On.refl T L Q w).drewN n1
  clear hw1
  go_wp2_with fail
  clear hmk
  have hB0 : Hid (Bs (w1.alloc (.cells madeB 4)) w1.heap.size (amongM t (i + 1) (i + 1))) := by
    show Bs _ _ _
    rw [among_zero]
    exact ⟨by simp [none8], by rw [← madeB_eq]; exact heap_alloc_new _ _⟩
  have hTw := (unhide HR1).lt
  have hT0 : w.heap.size ≤ w1.heap.size := (unhide G1).size
  obtain ⟨S, hS⟩ : ∃ S, w1.heap.size = S := ⟨_, rfl⟩
  rw [hS] at hB0 hTw hT0 ⊢
  have HS := hide hS
  clear hS
  go_loopw [11] (fun kk wr => ∃ k : Nat, i + 1 ≤ k ∧ k ≤ j ∧ kk = .int .i64 k ∧ Hid (RSt wr T L Q p) ∧ Hid (Bs wr S (amongM t (i + 1) k)) ∧ Hid (On T L Q w wr)) (fun kk _ => j - (intOf kk).toNat)
  case atStart => exact ⟨i + 1, by omega, by omega, by first | rfl | (simp; done), (unhide HR1).alloc _, hB0, (unhide G1).alloc _⟩
  case round =>
    obtain ⟨k, hk1, hkj, rfl, hq, hb, hg⟩ := hrel
    clear hB0
    have hSw : S < wr.heap.size := cell_lt (unhide hb).2
    by_cases hlt : k < j
    · have hbk := unhide HBU k hk1 hlt
      rw [Split.buc_t] at hbk
      have hks : k < t.size := by omega
      obtain ⟨z, hz⟩ : ∃ z : Nat, byt t k = (z : Int) + 97 := ⟨(byt t k - 97).toNat, by omega⟩
      have hz8 : z < 8 := by omega
      have hsn := among_snoc t (i + 1) k z hk1 hz8 hz
      have HSN := hide hsn
      rw [byt_lt hks] at hz
      have cz := (unhide hb).cell z hz8
      have fz := (unhide hb).fr z
      obtain ⟨bb, hbb⟩ : ∃ bb, (amongM t (i + 1) k).getD z false = bb := ⟨_, rfl⟩
      rw [hbb] at cz
      clear hsn hbk hbb
      have hz8' : (z : Int) < 8 := by omega
      go_wp2_with fail
      try go_region
      go_wp2_with fail
      go_roundw
      case rel => exact ⟨k + 1, by omega, by omega, by go_num, ((unhide hq).off (x := ⟨S, z, none⟩) _ (by simp; omega) (by simp; omega) (by simp; omega)).other rfl rfl rfl, by rw [unhide HSN]; exact ((unhide hb).set z true).other rfl, (unhide hg).set (x := ⟨S, z, none⟩) (.bool true) (.inr (.inr (.inr hT0)))⟩
      case measure => simp [intOf]; omega
    · have hkj' : k = j := by omega
      subst hkj'
      go_wp2_with fail
      refine (rate_any T L Q S p (amongM t (i + 1) k) M o0 _ (unhide hq) (unhide HK) (unhide hb) (by omega) (by omega) (by omega)).mono ?_
      rintro e w2 ⟨rfl, h2, g2⟩
      have H2 := hide h2
      have G2 := hide ((unhide hg).trans g2)
      clear h2 g2
      go_wp2_with fail
      go_ret
      exact ⟨rfl, unhide H2, unhide G2⟩

theorem walk_all (t : ByteArray) (hs : t.size ≤ 120) : ∀ (m i : Nat), t.size - i ≤ m → i ≤ t.size → okJ t i = true → WalkOk t i
  | 0, i, hm, hi, hok => walk_of t i hs hi hok (fun k h1 h2 _ _ => by omega)
  | m + 1, i, hm, hi, hok => by
    refine walk_of t i hs hi hok (fun k h1 h2 h41 hokk => ?_)
    have ho := (step_places (by omega) hokk ⟨h2, h41⟩).2.2.2.2.1
    have ih : ∀ k', k < k' → k' ≤ t.size → okJ t k' = true → WalkOk t k' := fun k' a b c => walk_all t hs m k' (by omega) b c
    by_cases h80 : byt t k = 80
    · exact step_P t k hs h2 h80 ho
    by_cases h67 : byt t k = 67
    · exact step_C t k hs h2 h67 ho
    by_cases h73 : byt t k = 73
    · exact step_I t k hs h2 h73 hokk ih
    by_cases h82 : byt t k = 82
    · exact step_R t k hs h2 h82 ho
    by_cases h72 : byt t k = 72
    · have hpl := step_places (by omega) hokk ⟨h2, h41⟩
      have e67 : ¬ (byt t k = 67 ∨ byt t k = 73) := by omega
      have hh : headM t k = if digM t (k + 1) 2 = k + 3 ∧ byt t (k + 1) = 48 ∧ byt t (k + 2) = 48 then (k + 2, 1, false) else (digM t (k + 1) 2, 1, decide (digM t (k + 1) 2 = k + 3)) := by
        simp only [headM, if_neg h80, if_neg e67, if_neg h82, if_pos h72]
      have hhd : headM t k = (k + 3, 1, true) := by
        rw [hh] at ho ⊢
        split at ho
        · exact absurd ho (by simp)
        · rename_i hx
          have hd : digM t (k + 1) 2 = k + 3 := by simpa using ho
          rw [if_neg hx, hd]; simp
      have hB : BlkAt t (k + 3) := by
        rcases hpl.2.2.2.2.2.2.2 with hn | ⟨hn, hB⟩ | ⟨hn, hB, hB2⟩
        · rw [hhd] at hn; simp at hn
        · rw [hhd] at hB; exact hB
        · rw [hhd] at hB; exact hB
      have hj := hB.jlt
      exact step_H t k hs h2 h72 hokk (ih (k + 4) (by omega) (by omega) hB.ok)
    · exfalso
      have e67 : ¬ (byt t k = 67 ∨ byt t k = 73) := by omega
      have : headM t k = (k, 0, false) := by simp only [headM, if_neg h80, if_neg e67, if_neg h82, if_neg h72]
      rw [this] at ho
      simp at ho
end Go.Proofs.Ytbpolcnjojlkjab
