/- left, by its contract. -/
import Derived.Test.YtbpolcnjojlkjaaThenLaw
namespace Go.Proofs.Ytbpolcnjojlkjaa
open Go.ChangeShapes Go.WideShapes Go.ChangeAt Go.RowKit
open Split (Pu Keeps)
set_option linter.unusedVariables false
set_option linter.unusedSimpArgs false

/-- k of eight numbers are made less. -/
def lessZ (zs L : List Int) (k : Nat) : List Int := (List.range 8).map fun j => if j < k then zs.getD j 0 - L.getD j 0 else zs.getD j 0

theorem lessZ_len (zs L : List Int) (k : Nat) : (lessZ zs L k).length = 8 := by simp [lessZ]
theorem lessZ_get (zs L : List Int) (k j : Nat) (hj : j < 8) : (lessZ zs L k).getD j 0 = if j < k then zs.getD j 0 - L.getD j 0 else zs.getD j 0 := by
  simp only [lessZ, List.getD_eq_getElem?_getD, List.getElem?_map]
  rw [List.getElem?_range hj]
  rfl
theorem list_ext8 {l l' : List Int} (h : l.length = 8) (h' : l'.length = 8) (he : ∀ i, i < 8 → l.getD i 0 = l'.getD i 0) : l = l' := by
  apply List.ext_getElem (by omega)
  intro i h1 h2
  have := he i (by omega)
  simpa [List.getD_eq_getElem?_getD, List.getElem?_eq_getElem h1, List.getElem?_eq_getElem h2] using this
theorem lessZ_zero {zs L : List Int} (hz : zs.length = 8) : lessZ zs L 0 = zs := by
  refine list_ext8 (lessZ_len _ _ _) hz fun i hi => ?_
  rw [lessZ_get _ _ _ _ hi, if_neg (by omega)]
theorem lessZ_set (zs L : List Int) (k : Nat) (hk : k < 8) : (lessZ zs L k).set k (zs.getD k 0 - L.getD k 0) = lessZ zs L (k + 1) := by
  refine list_ext8 (by rw [List.length_set, lessZ_len]) (lessZ_len _ _ _) fun i hi => ?_
  rw [lessZ_get _ _ _ _ hi, List.getD_eq_getElem?_getD, List.getElem?_set]
  by_cases h : k = i
  · subst h
    rw [if_pos rfl, lessZ_len, if_pos hk, if_pos (by omega)]
    rfl
  · rw [if_neg h, ← List.getD_eq_getElem?_getD, lessZ_get _ _ _ _ hi]
    by_cases h2 : i < k
    · rw [if_pos h2, if_pos (by omega)]
    · rw [if_neg h2, if_neg (by omega)]

theorem own_below {w w' : World} {base tag n k : Nat} {g cap : Nat} {L : List Value} {B : Nat} (h : w.ownsRow base tag k (.slice (some ⟨g, 0, none⟩) n cap) n L) (hb : Below B w w') (hg : g < B) : w'.ownsRow base tag k (.slice (some ⟨g, 0, none⟩) n cap) n L := by
  refine ⟨h.1, ?_⟩
  rcases h.2 with ⟨q, _⟩ | ⟨g', cap', cur, q, q1, q2, q3⟩
  · simp at q
  · simp only [Value.slice.injEq, Option.some.injEq, Addr.mk.injEq, and_true, true_and] at q
    obtain ⟨rfl, rfl⟩ := q
    exact .inr ⟨g, cap, cur, rfl, q1, by rw [hb.block g hg]; exact q2, q3⟩

set_option maxHeartbeats 4000000 in
theorem left_any (a : Option Addr) (cap : Nat) (zs : List Int) (w : World) (h : Ints w a 8 zs) (a' : Option Addr) (c : Nat) (L : List Int) (R : Int) (hL : Ints w a' 8 L) (h0 : ∀ i, 0 ≤ L.getD i 0) (h1 : ∀ i, L.getD i 0 ≤ zs.getD i 0) (h2 : ∀ i, zs.getD i 0 ≤ 1000000000) :
    Calls Try.prog 31 #[.slice a 8 cap, .agg #[.slice a' 8 c, .int .i64 R, .bool true]] w fun e w' => ∃ g : Nat, e = .returned (.slice (some ⟨g, 0, none⟩) 8 8) ∧ w.heap.size ≤ g ∧ Ints w' (some ⟨g, 0, none⟩) 8 (lessZ zs L 8) ∧ Below w.heap.size w w' := by
  obtain ⟨b1, o1, rfl, hc1⟩ := hL.2 (by omega)
  have hb1 : b1 < w.heap.size := cell_blk (hc1 0 (by omega))
  have hz8 := h.1
  have HI := hide h
  have HC1 := hide hc1
  have H0 := hide h0
  have H1 := hide h1
  have H2 := hide h2
  clear hL hc1 h0 h1 h2 h
  obtain ⟨W, hW⟩ : ∃ W, w.alloc (.cells #[.slice (some ⟨b1, o1, none⟩) 8 c, .int .i64 R, .bool true] 38) = W := ⟨_, rfl⟩
  have HBW : Hid (Below w.heap.size w W) := by
    show Below w.heap.size w W
    rw [← hW]; exact (Below.refl _ _).alloc (Nat.le_refl _) _
  have hrow : W.heap[w.heap.size]? = some (.cells #[.slice (some ⟨b1, o1, none⟩) 8 c, .int .i64 R, .bool true] 38 (0, 0)) := by rw [← hW]; exact heap_alloc_new _ _
  have HROW := hide hrow
  clear hrow
  have HW := hide hW
  clear hW
  go_enter Try.func31, Try.ntmps31
  go_wp2_with fail
  rw [unhide HW]
  refine (copied_own a 8 cap zs _ ((unhide HI).below (unhide HBW)) (by omega)).mono ?_
  rintro e w1 ⟨rfl, hown, hbw1, hlt1⟩
  have hlW : w.heap.size < W.heap.size := cell_lt (unhide HROW)
  obtain ⟨g, hg⟩ : ∃ g, W.heap.size = g := ⟨_, rfl⟩
  rw [hg] at hown hbw1 hlW ⊢
  have HOWN := hide hown
  have HB1 := hide ((unhide HBW).trans (hbw1.mono (Nat.le_of_lt hlW)))
  have HROW1 : Hid (w1.heap[w.heap.size]? = some (.cells #[.slice (some ⟨b1, o1, none⟩) 8 c, .int .i64 R, .bool true] 38 (0, 0))) := (hbw1.block _ hlW).trans (unhide HROW)
  clear hown hbw1 hlt1 hg HROW HW HBW
  go_wp2_with fail
  go_loopw [6] (fun ii wr => ∃ k : Nat, k ≤ 8 ∧ ii = .int .i64 k ∧ Hid (wr.ownsRow g 3 1 (.slice (some ⟨g, 0, none⟩) 8 8) 8 ((lessZ zs L k).map (Value.int .i64))) ∧ Hid (Below w.heap.size w wr) ∧ Hid (wr.heap[w.heap.size]? = some (.cells #[.slice (some ⟨b1, o1, none⟩) 8 c, .int .i64 R, .bool true] 38 (0, 0)))) (fun ii _ => 8 - (intOf ii).toNat)
  case atStart => exact ⟨0, by omega, rfl, by rw [lessZ_zero hz8]; exact HOWN, HB1, HROW1⟩
  case round =>
    obtain ⟨k, hk, rfl, ho, hb, hr⟩ := hrel
    clear HOWN HB1 HROW1
    have p0 := cell_of_row wr w.heap.size 0 _ _ _ (unhide hr)
    simp at p0
    by_cases hlt : k < 8
    · have cx : wr.cell? ⟨b1, o1 + k, none⟩ = some (.int .i64 (L.getD k 0)) := ((unhide hb).cell (p := ⟨b1, o1 + k, none⟩) hb1).trans (unhide HC1 k hlt)
      have cy : wr.cell? ⟨g, k, none⟩ = some (.int .i64 (zs.getD k 0)) := by
        rw [(unhide ho).cellAt k (by omega), List.getElem?_map, List.getElem?_eq_getElem (by rw [lessZ_len]; exact hlt)]
        have := lessZ_get zs L k k hlt
        rw [if_neg (by omega), List.getD_eq_getElem?_getD, List.getElem?_eq_getElem (by rw [lessZ_len]; exact hlt)] at this
        simp at this ⊢
        exact this
      have hfr := (unhide ho).frozenAt k
      have hx0 := unhide H0 k
      have hxy := unhide H1 k
      have hy2 := unhide H2 k
      have hst := (unhide ho).stored k (.int .i64 (zs.getD k 0 - L.getD k 0))
      have R2 : Hid ((wr.setCell ⟨g, k, none⟩ (.int .i64 (zs.getD k 0 - L.getD k 0))).ownsRow g 3 1 (.slice (some ⟨g, 0, none⟩) 8 8) 8 ((lessZ zs L (k + 1)).map (Value.int .i64))) := by
        have := hst.1
        rw [← List.map_set, lessZ_set _ _ _ hlt] at this
        exact this
      obtain ⟨x, hx⟩ : ∃ x, L.getD k 0 = x := ⟨_, rfl⟩
      obtain ⟨y, hy⟩ : ∃ y, zs.getD k 0 = y := ⟨_, rfl⟩
      rw [hx, hy] at R2
      rw [hx] at cx hx0 hxy
      rw [hy] at cy hxy hy2
      clear hx hy hst
      have R3 : Hid (Below w.heap.size w (wr.setCell ⟨g, k, none⟩ (.int .i64 (y - x)))) := (unhide hb).setCell (p := ⟨g, k, none⟩) (Nat.le_of_lt hlW) _
      have R4 : Hid ((wr.setCell ⟨g, k, none⟩ (.int .i64 (y - x))).heap[w.heap.size]? = some (.cells #[.slice (some ⟨b1, o1, none⟩) 8 c, .int .i64 R, .bool true] 38 (0, 0))) := by
        show _ = _
        rw [Below.heap_setCell _ _ _ _ (by show w.heap.size ≠ g; omega)]
        exact unhide hr
      have hwr : IntKind.i64.wrap (y - x) = y - x := wrap_big (by omega) (by omega)
      go_wp2_with fail
      go_region
      go_wp2_with fail
      go_roundw
      case rel => exact ⟨k + 1, by omega, by go_num, World.ownsRow.drew (unhide R2), Below.drew (unhide R3), R4⟩
      case measure => simp [intOf]; omega
    · have hk8 : k = 8 := by omega
      subst hk8
      go_wp2
      go_ret
      exact ⟨g, rfl, Nat.le_of_lt hlW, ints_of_own (unhide ho), unhide hb⟩
end Go.Proofs.Ytbpolcnjojlkjaa
