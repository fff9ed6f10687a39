/- RefStep2 -/
import Derived.Test.YtbpolcnjojlkjabPack26

/- splitref's step: I. -/
namespace Go.Proofs.Ytbpolcnjojlkjab
open Go.ChangeShapes Go.WideShapes Go.ChangeAt Go.RowKit
open Split (Pu payM Keeps propM byt byt_lt headM St doM holdM backM numM amongM none8 risM digM bucM)
set_option linter.unusedVariables false
set_option linter.unusedSimpArgs false

set_option maxRecDepth 100000 in
set_option maxHeartbeats 4000000 in
theorem step_I (t : ByteArray) (i : Nat) (hs : t.size ≤ 120) (hi : i < t.size) (h73 : byt t i = 73) (hok : okJ t i = true) (hwk : ∀ k, i < k → k ≤ t.size → okJ t k = true → WalkOk t k) : StepOk t i := by
  intro T L Q p M o0 w h hk
  obtain ⟨p1, p2, p3, p4, ho, p6, p7, hcase⟩ := step_places (by omega) hok ⟨hi, by omega⟩
  obtain ⟨hhd, hb2, hd4, hsz, hstm, hn0⟩ := capped (.inr h73) hi ho
  obtain ⟨b, hlt, hb8, hbt, hbb⟩ := buc_of hb2
  rw [if_pos h73] at hhd
  have hBB : BlkAt t (i + 6) ∧ BlkAt t (endJ t (i + 7) + 1) := by
    rcases hcase with hn | ⟨hn, hB⟩ | ⟨hn, hB, hB2⟩
    · rw [hhd] at hn; simp at hn
    · rw [hhd] at hn; simp at hn
    · rw [hhd] at hB hB2; exact ⟨hB, hB2⟩
  obtain ⟨hB, hB2⟩ := hBB
  have q1 := hB.jlt
  have q2 : endJ t (i + 7) < t.size := hB.elt
  have q3 : i + 7 ≤ endJ t (i + 7) := hB.ege
  have r1 := hB2.jlt
  have r2 := hB2.elt
  have r3 := hB2.ege
  have hnx : nxM t i = endJ t (endJ t (i + 7) + 1 + 1) + 1 := by simp [nxM, hhd]
  have hst : stpM t (semF t) i p = if p.owed.getD b 0 ≤ numM t (i + 2) 4 then semF t (endJ t (i + 7) + 1 + 1) p else semF t (i + 7) p := by
    have e2 : ((b : Int) + 97 - 97).toNat = b := by omega
    simp [stpM, hhd, hstm, hbb, e2]
  have HW1 := hide (hwk (i + 7) (by omega) (by omega) hB.ok)
  have HW2 := hide (hwk (endJ t (i + 7) + 1 + 1) (by omega) (by omega) hB2.ok)
  have HP1 := hide (past_any t (i + 6) · hs (by omega))
  have HP2 := hide (past_any t (endJ t (i + 7) + 1) · hs (by omega))
  have HN := hide (number_any t (i + 2) 4 · hs hsz (by omega) hd4)
  have hE1 : (Split.scanF t (i + 6 + 1) 0 (-1)).j = endJ t (i + 7) := rfl
  have hE2 : (Split.scanF t (endJ t (i + 7) + 1 + 1) 0 (-1)).j = endJ t (endJ t (i + 7) + 1 + 1) := rfl
  rw [hE1] at HP1
  rw [hE2] at HP2
  rw [hnx, hst]
  obtain ⟨v, hv⟩ : ∃ v, numM t (i + 2) 4 = v := ⟨_, rfl⟩
  rw [hv] at HN ⊢
  obtain ⟨a, ha⟩ : ∃ a, endJ t (i + 7) + 1 = a := ⟨_, rfl⟩
  rw [ha] at HP1 HP2 HW2 r1 r2 r3 ⊢
  obtain ⟨en, hen⟩ : ∃ en, endJ t (a + 1) + 1 = en := ⟨_, rfl⟩
  have hen9 : en ≤ t.size := by omega
  rw [hen] at HP2 ⊢
  obtain ⟨fin, hfin⟩ : ∃ fin, (if p.owed.getD b 0 ≤ v then semF t (a + 1) p else semF t (i + 7) p) = fin := ⟨_, rfl⟩
  rw [hfin]
  have HFIN := hide hfin
  clear hfin
  have HHD := hide hhd
  rw [byt_lt hi] at h73
  have H := hide h
  have HK := hide hk
  clear h hk hb2 hnx hst hbb ho hhd hstm hv hd4 hcase p1 p2 p3 p4 p6 p7 hB hB2 hE1 hE2 hen hwk q2 q3 r2 r3 ha hn0
  go_enter Try.func35, Try.ntmps35
  go_wp2_with fail
  refine (head_any t i _ hs hi).mono ?_
  rintro e w1 ⟨rfl, n1, hw1⟩
  rw [unhide HHD]
  have HR1 : Hid (RSt w1 T L Q p) := by rw [hw1]; exact (unhide H).drewN n1
  have G1 : Hid (On T L Q w w1) := by rw [hw1]; exact (On.refl T L Q w).drewN n1
  clear hw1
  go_wp2_with fail
  refine (unhide HP1 _).mono ?_
  rintro e w2 ⟨rfl, n2, hw2⟩
  have HR2 : Hid (RSt w2 T L Q p) := by rw [hw2]; exact (unhide HR1).drewN n2
  have G2 : Hid (On T L Q w w2) := by rw [hw2]; exact (unhide G1).drewN n2
  clear hw2 HR1 G1
  go_wp2_with fail
  refine (unhide HP2 _).mono ?_
  rintro e w3 ⟨rfl, n3, hw3⟩
  have HR3 : Hid (RSt w3 T L Q p) := by rw [hw3]; exact (unhide HR2).drewN n3
  have G3 : Hid (On T L Q w w3) := by rw [hw3]; exact (unhide G2).drewN n3
  clear hw3 HR2 G2
  have cl := (unhide HR3).cl
  have co := (unhide HR3).co b hb8
  obtain ⟨x, hx⟩ : ∃ x, p.owed.getD b 0 = x := ⟨_, rfl⟩
  rw [hx] at co
  have HX := hide hx
  clear hx
  have hb8' : (b : Int) < 8 := by omega
  go_wp2_with fail
  have hw1 := wrapN (i + 1) (by omega) ((i : Int) + 1) (by omega)
  have hw2 := wrapN (i + 2) (by omega) ((i : Int) + 2) (by omega)
  have hw4 := wrapN b (by omega) (b : Int) rfl
  have hw5 := wrapB b (by omega) (b : Int) rfl
  go_quiet ((go_at_call 48; exact Calls.quiet_of_same (unhide HN _)))
  have HR4 : Hid (RSt (w3.drewN nq) T L Q p) := (unhide HR3).drewN nq
  have G4 : Hid (On T L Q w (w3.drewN nq)) := (unhide G3).drewN nq
  obtain ⟨W, hW⟩ : ∃ W, w3.drewN nq = W := ⟨_, rfl⟩
  rw [hW] at HR4 G4 ⊢
  clear hW HR3 G3 hw1 hw2 hw4 hw5 cl co
  by_cases hxv : v < x
  · have hsel : Hid (semF t (i + 7) p = fin) := by
      have := unhide HFIN
      rw [unhide HX, if_neg (by omega)] at this
      exact this
    have hne : decide (v < x) = true := by simp [hxv]
    clear HFIN
    go_wp2_with fail
    rw [show ((i : Int) + 6 + 1) = ((i + 7 : Nat) : Int) by omega]
    refine (unhide HW1 T L Q p M o0 _ (unhide HR4) (unhide HK)).mono ?_
    rintro e w5 ⟨rfl, h5, g5⟩
    rw [unhide hsel] at h5
    have H5 := hide h5
    have G5 := hide ((unhide G4).trans g5)
    clear h5 g5
    go_wp2_with fail
    go_ret
    exact ⟨rfl, unhide H5, unhide G5⟩
  · have hsel : Hid (semF t (a + 1) p = fin) := by
      have := unhide HFIN
      rw [unhide HX, if_pos (by omega)] at this
      exact this
    have hne : decide (v < x) = false := by simp; omega
    clear HFIN
    go_wp2_with fail
    rw [show ((a : Int) + 1) = ((a + 1 : Nat) : Int) by omega]
    refine (unhide HW2 T L Q p M o0 _ (unhide HR4) (unhide HK)).mono ?_
    rintro e w5 ⟨rfl, h5, g5⟩
    rw [unhide hsel] at h5
    have H5 := hide h5
    have G5 := hide ((unhide G4).trans g5)
    clear h5 g5
    go_wp2_with fail
    go_ret
    exact ⟨rfl, unhide H5, unhide G5⟩

theorem rise_bucs (t : ByteArray) : ∀ f j k, j ≤ k → k < Split.riseM t f j → Split.buc (byt t k) = true
  | 0, j, k, h1, h2 => by simp [Split.riseM] at h2; omega
  | f + 1, j, k, h1, h2 => by
    unfold Split.riseM at h2
    split at h2
    · rename_i hd
      by_cases e : j = k
      · subst e
        simp [Split.riseB] at hd
        exact hd.1
      · exact rise_bucs t f (j + 1) k (by omega) h2
    · omega
theorem ris_bucs (t : ByteArray) (i k : Nat) (h1 : i ≤ k) (h2 : k < risM t i) : Split.buc (byt t k) = true := by
  unfold risM at h2
  split at h2
  · rename_i hd
    by_cases e : i = k
    · subst e; exact hd
    · exact rise_bucs t _ _ k (by omega) h2
  · omega
theorem infoBool : (Try.prog.info? 4).map (fun i => (i.zero, i.size, i.bytes)) = some (some (.bool false), 1, 1) := by kernel_rfl
def madeB : Array Value := madeCells #[.bool false] 8
theorem mkB (W : World) : (Instr.makeSlice 69 (.int .i64 8) (.int .i64 8)).run Try.prog W = .ok (.slice (some ⟨W.heap.size, 0, none⟩) 8 8) (W.alloc (.cells madeB 4)) :=
  run_make_row' (P := Try.prog) 69 4 (.bool false) 1 Try.underlying69 infoBool rfl .i64 .i64 8 (by omega) (by omega) W
theorem madeB_eq : madeB = (none8.map Value.bool).toArray := by
  apply Array.toList_inj.1
  unfold madeB
  rw [toList_madeCells_one]
  simp [none8]
theorem Bs.fr {w : World} {G : Nat} {f : List Bool} (h : Bs w G f) (i : Nat) : w.frozen? ⟨G, i, none⟩ = false := frozen_of_row w G i _ _ h.2
theorem Bs.set {w : World} {G : Nat} {f : List Bool} (h : Bs w G f) (i : Nat) (b : Bool) : Bs (w.setCell ⟨G, i, none⟩ (.bool b)) G (f.set i b) := by
  refine ⟨by simp [h.1], ?_⟩
  rw [heap_setCell_same w G i _ _ _ h.2]
  simp
end Go.Proofs.Ytbpolcnjojlkjab
