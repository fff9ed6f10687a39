/- split's bucketsOf. -/
import Derived.Test.YtbpolcnjojlkjabReader3
namespace Go.Proofs.Ytbpolcnjojlkjab
open Go.ChangeShapes Go.WideShapes Go.ChangeAt Go.RowKit
set_option linter.unusedVariables false
set_option linter.unusedSimpArgs false

def bitM (a : Int) (j : Nat) : Bool := a / 2 ^ j % 2 == 1
def bfill (a : Int) (k : Nat) : List Bool := (List.range 8).map fun j => if j < k then bitM a j else false
/-- The buckets whose bits are in a number. -/
def bitsM (a : Int) : List Bool := (List.range 8).map fun j => bitM a j

theorem bfill_len (a : Int) (k : Nat) : (bfill a k).length = 8 := by simp [bfill]
theorem bfill_zero (a : Int) : bfill a 0 = Split.none8 := by
  simp [bfill, Split.none8, List.map_const']
theorem bfill_all (a : Int) : bfill a 8 = bitsM a := by
  unfold bfill bitsM
  apply List.map_congr_left
  intro j hj
  rw [if_pos (by simpa using hj)]
theorem bfill_set (a : Int) (k : Nat) (hk : k < 8) : (bfill a k).set k (bitM a k) = bfill a (k + 1) := by
  apply List.ext_getElem?
  intro j
  rw [List.getElem?_set]
  simp only [bfill, List.getElem?_map, List.length_map, List.length_range]
  by_cases h1 : k = j
  · subst h1
    rw [if_pos rfl, if_pos hk, List.getElem?_range hk]
    simp
  · rw [if_neg h1]
    by_cases h : j < 8
    · rw [List.getElem?_range h]
      simp only [Option.map_some]
      by_cases h2 : j < k
      · rw [if_pos h2, if_pos (by omega)]
      · rw [if_neg h2, if_neg (by omega)]
    · rw [List.getElem?_eq_none (by simp; omega)]; rfl

theorem half_next (a : Int) (k : Nat) : a / 2 ^ (k + 1) = a / 2 ^ k / 2 := by
  rw [Int.pow_succ, Int.ediv_ediv_of_nonneg (Int.pow_nonneg (by omega))]
theorem half_bd {a : Int} (h0 : 0 ≤ a) (h1 : a ≤ 255) (k : Nat) : 0 ≤ a / 2 ^ k ∧ a / 2 ^ k ≤ 255 := by
  induction k with
  | zero => simp; omega
  | succ k ih => rw [half_next]; omega

set_option maxHeartbeats 2000000 in
theorem bucketsOf_any (a : Int) (h0 : 0 ≤ a) (h1 : a ≤ 255) (w : World) :
    Calls Try.prog 50 #[.int .i64 a] w fun e w' => e = .returned (.agg ((bitsM a).map Value.bool).toArray) ∧ Below w.heap.size w w' := by
  go_enter Try.func50, Try.ntmps50
  go_wp2_with fail
  go_loopw [0, 4] (fun bb ii wr => ∃ k : Nat, k ≤ 8 ∧ ii = .int .i64 k ∧ bb = .int .i64 (a / 2 ^ k) ∧ Hid (Bl wr (w.heap.size + 1) (bfill a k)) ∧ Hid (Bl wr w.heap.size Split.none8) ∧ Hid (Below w.heap.size w wr)) (fun _ ii _ => 8 - (intOf ii).toNat)
  case atStart =>
    refine ⟨0, by omega, rfl, by simp, ?_, ?_, ?_⟩
    · rw [bfill_zero]
      have := bl_new (w.alloc (.cells #[.bool false, .bool false, .bool false, .bool false, .bool false, .bool false, .bool false, .bool false] 61))
      show Bl _ _ _
      simpa using this
    · exact (bl_new w).grown (World.grownBy_alloc _ _ none) (by simp)
    · exact ((Below.refl _ _).alloc (Nat.le_refl _) _).alloc (by simp) _
  case round =>
    obtain ⟨k, hk, rfl, rfl, hB, hB0, hb⟩ := hrel
    have hq := half_bd h0 h1 k
    have hn := half_next a k
    have hbit : bitM a k = (a / 2 ^ k % 2 == 1) := rfl
    obtain ⟨q, hqe⟩ : ∃ q, a / 2 ^ k = q := ⟨_, rfl⟩
    rw [hqe] at hq hn hbit ⊢
    clear hqe
    have HN := hide hn
    have HBIT := hide hbit
    clear hn hbit
    have hzr : w.heap.size + 1 < wr.heap.size := cell_lt (unhide hB).2
    by_cases hlt : k < 8
    · have cb := (unhide hB).cell k (by omega)
      have fb := (unhide hB).fr k
      go_wp2_with fail
      go_roundw
      case rel =>
        refine ⟨k + 1, by omega, by go_num, ?_, ?_, ?_, ?_⟩
        · rw [unhide HN]
        · show Bl _ _ _
          rw [← bfill_set a k hlt, unhide HBIT]
          exact (unhide hB).set k _
        · exact (unhide hB0).grown (grown_set (grown_refl _ _) k _) (by simp)
        · exact (unhide hb).setCell (p := ⟨w.heap.size + 1, k, none⟩) (by simp) _
      case measure => simp [intOf]; omega
    · have hk8 : k = 8 := by omega
      subst hk8
      rw [bfill_all] at hB
      have hml := (unhide hB).1
      have hBB := unhide hB
      obtain ⟨m, hm⟩ : ∃ m, bitsM a = m := ⟨_, rfl⟩
      rw [hm] at hml hBB
      have HM := hide hm
      clear hB hm
      match m, hml with
      | [m0, m1, m2, m3, m4, m5, m6, m7], _ =>
        have d0 := hBB.cell 0 (by omega)
        have d1 := hBB.cell 1 (by omega)
        have d2 := hBB.cell 2 (by omega)
        have d3 := hBB.cell 3 (by omega)
        have d4 := hBB.cell 4 (by omega)
        have d5 := hBB.cell 5 (by omega)
        have d6 := hBB.cell 6 (by omega)
        have d7 := hBB.cell 7 (by omega)
        simp at d0 d1 d2 d3 d4 d5 d6 d7
        have r0 := (unhide hB0).cell 0 (by omega)
        have g0 := (unhide hB0).fr 0
        have r1 := (unhide hB0).cell 1 (by omega)
        have g1 := (unhide hB0).fr 1
        have r2 := (unhide hB0).cell 2 (by omega)
        have g2 := (unhide hB0).fr 2
        have r3 := (unhide hB0).cell 3 (by omega)
        have g3 := (unhide hB0).fr 3
        have r4 := (unhide hB0).cell 4 (by omega)
        have g4 := (unhide hB0).fr 4
        have r5 := (unhide hB0).cell 5 (by omega)
        have g5 := (unhide hB0).fr 5
        have r6 := (unhide hB0).cell 6 (by omega)
        have g6 := (unhide hB0).fr 6
        have r7 := (unhide hB0).cell 7 (by omega)
        have g7 := (unhide hB0).fr 7
        simp [Split.none8] at r0 r1 r2 r3 r4 r5 r6 r7
        clear hBB
        go_wp2_with fail
        refine bodyPost_ret (v := .agg #[.bool m0, .bool m1, .bool m2, .bool m3, .bool m4, .bool m5, .bool m6, .bool m7]) (by simp [results, Try.results50, go_sem, r0, r1, r2, r3, r4, r5, r6, r7]) rfl ?_
        rw [unhide HM]
        refine ⟨rfl, (unhide hb).trans (below_of_grown (r := some w.heap.size) ?_ (by omega) (fun k hk => by simp at hk; omega))⟩
        iterate 8 refine grown_set ?_ _ _
        exact grown_refl _ _
end Go.Proofs.Ytbpolcnjojlkjab
