/- fair, by its contract. -/
import Derived.Test.YtbpolcnjojlkjaaGroup
namespace Go.Proofs.Ytbpolcnjojlkjaa
open Go.ChangeShapes Go.WideShapes Go.ChangeAt Go.RowKit
open Split (Pu Keeps)
set_option linter.unusedVariables false
set_option linter.unusedSimpArgs false

set_option maxRecDepth 100000 in
set_option maxHeartbeats 8000000 in
theorem fair_true (a' : Option Addr) (c : Nat) (L : List Int) (R : Int) (a : Option Addr) (cap : Nat) (zs : List Int) (m t : Int) (i j : Nat) (w : World) (hL : Ints w a' 8 L) (hZ : Ints w a 8 zs) (hi : i < 8) (hj : j < 8)
    (hm0 : 0 ≤ m) (hm9 : m ≤ 1000000000) (ht0 : 0 < t) (hz : ∀ k, 0 ≤ zs.getD k 0 ∧ zs.getD k 0 ≤ 1000000000) (hl : ∀ k, 0 ≤ L.getD k 0 ∧ L.getD k 0 ≤ 1000000000)
    (hp : L.getD i 0 = m * zs.getD i 0 / t ∨ (L.getD i 0 = m * zs.getD i 0 / t + 1 ∧ 0 < m * zs.getD i 0 % t ∧ (L.getD j 0 = m * zs.getD j 0 / t → (m * zs.getD j 0 % t < m * zs.getD i 0 % t ∨ (m * zs.getD j 0 % t = m * zs.getD i 0 % t ∧ i < j))))) :
    Calls Try.prog 30 #[.agg #[.slice a' 8 c, .int .i64 R, .bool true], .slice a 8 cap, .int .i64 m, .int .i64 t, .int .i64 i, .int .i64 j] w fun e w' => e = .returned (.bool true) ∧ Below w.heap.size w w' := by
  obtain ⟨b1, o1, rfl, hc1⟩ := hL.2 (by omega)
  obtain ⟨b2, o2, rfl, hc2⟩ := hZ.2 (by omega)
  have hb1 : b1 < w.heap.size := cell_blk (hc1 0 (by omega))
  have hb2 : b2 < w.heap.size := cell_blk (hc2 0 (by omega))
  obtain ⟨W, hW⟩ : ∃ W, w.alloc (.cells #[.slice (some ⟨b1, o1, none⟩) 8 c, .int .i64 R, .bool true] 38) = W := ⟨_, rfl⟩
  have hBW : Below w.heap.size w W := by rw [← hW]; exact (Below.refl _ _).alloc (Nat.le_refl _) _
  have hrow : W.heap[w.heap.size]? = some (.cells #[.slice (some ⟨b1, o1, none⟩) 8 c, .int .i64 R, .bool true] 38 (0, 0)) := by rw [← hW]; exact heap_alloc_new _ _
  have p0 := cell_of_row W w.heap.size 0 _ _ _ hrow
  simp at p0
  have hlW : w.heap.size < W.heap.size := cell_lt hrow
  have li := (hBW.cell (p := ⟨b1, o1 + i, none⟩) hb1).trans (hc1 i hi)
  have lj := (hBW.cell (p := ⟨b1, o1 + j, none⟩) hb1).trans (hc1 j hj)
  have zi := (hBW.cell (p := ⟨b2, o2 + i, none⟩) hb2).trans (hc2 i hi)
  have zj := (hBW.cell (p := ⟨b2, o2 + j, none⟩) hb2).trans (hc2 j hj)
  have ziw := hc2 i hi
  have zjw := hc2 j hj
  have hzi := hz i
  have hzj := hz j
  have hli := hl i
  have hlj := hl j
  generalize L.getD i 0 = Li at *
  generalize L.getD j 0 = Lj at *
  generalize zs.getD i 0 = Zi at *
  generalize zs.getD j 0 = Zj at *
  have hx0 : 0 ≤ m * Zi := Int.mul_nonneg hm0 hzi.1
  have hy0 : 0 ≤ m * Zj := Int.mul_nonneg hm0 hzj.1
  have hx9 : m * Zi ≤ 1000000000 * 1000000000 := Int.mul_le_mul hm9 hzi.2 hzi.1 (by omega)
  have hy9 : m * Zj ≤ 1000000000 * 1000000000 := Int.mul_le_mul hm9 hzj.2 hzj.1 (by omega)
  obtain ⟨x, hx⟩ : ∃ x, m * Zi = x := ⟨_, rfl⟩
  obtain ⟨y, hy⟩ : ∃ y, m * Zj = y := ⟨_, rfl⟩
  rw [hx] at hx0 hx9 hp
  rw [hy] at hy0 hy9 hp
  have wx : IntKind.i64.wrap (m * Zi) = x := by rw [hx]; exact wrap_big (by omega) (by omega)
  have wy : IntKind.i64.wrap (m * Zj) = y := by rw [hy]; exact wrap_big (by omega) (by omega)
  have wx' : wrap64 (m * Zi) = x := by rw [hx]; exact IntWalk.wrap64_in x (by omega)
  have wy' : wrap64 (m * Zj) = y := by rw [hy]; exact IntWalk.wrap64_in y (by omega)
  have hxq0 : 0 ≤ x / t := Int.ediv_nonneg hx0 (by omega)
  have hyq0 : 0 ≤ y / t := Int.ediv_nonneg hy0 (by omega)
  have hxq9 : x / t ≤ x := Int.ediv_le_self _ hx0
  have hyq9 : y / t ≤ y := Int.ediv_le_self _ hy0
  have dx : x.tdiv t = x / t := Int.tdiv_eq_ediv_of_nonneg hx0
  have dy : y.tdiv t = y / t := Int.tdiv_eq_ediv_of_nonneg hy0
  have mx : x.tmod t = x % t := Int.tmod_eq_emod_of_nonneg hx0
  have my : y.tmod t = y % t := Int.tmod_eq_emod_of_nonneg hy0
  generalize x / t = xq at *
  generalize y / t = yq at *
  generalize x % t = xr at *
  generalize y % t = yr at *
  have wq : wrap64 xq = xq := IntWalk.wrap64_in xq (by omega)
  have wr : wrap64 yq = yq := IntWalk.wrap64_in yq (by omega)
  have wq' : IntKind.i64.wrap xq = xq := wrap_big (by omega) (by omega)
  have wr' : IntKind.i64.wrap yq = yq := wrap_big (by omega) (by omega)
  have HP := hide hp
  have HW := hide hW
  have HBW := hide hBW
  have tne : t ≠ 0 := by omega
  clear hL hZ hc1 hc2 hz hl hp hW hBW hx hy hrow
  rcases unhide HP with h1 | ⟨h1, h2, h3⟩
  · have ws : IntKind.i64.wrap (Li - xq) = 0 := by rw [h1, Int.sub_self]; rfl
    have wt : IntKind.i64.wrap (Lj - yq) = Lj - yq := wrap_big (by omega) (by omega)
    have ws' : Li - xq = 0 := by omega
    clear h1 HP
    go_enter Try.func30, Try.ntmps30
    go_wp2_with fail
    rw [unhide HW]
    clear ziw zjw
    go_quiet (fail)
    go_wp2_with fail
    go_quiet (fail)
    go_wp2_with fail
    go_ret
    exact ⟨rfl, below_drewN (unhide HBW) _⟩
  · have ws : IntKind.i64.wrap (Li - xq) = 1 := by rw [h1, show xq + 1 - xq = 1 by omega]; rfl
    have ws' : Li - xq = 1 := by omega
    have hxr : (xr == 0) = false := beq_eq_false_iff_ne.2 (by omega)
    by_cases hb0 : Lj = yq
    · have wt : IntKind.i64.wrap (Lj - yq) = 0 := by rw [hb0, Int.sub_self]; rfl
      have wt' : Lj - yq = 0 := by omega
      have h4 := h3 hb0
      clear h1 HP h3 hb0 h2
      by_cases hgt : yr < xr
      · clear h4
        go_enter Try.func30, Try.ntmps30
        go_wp2_with fail
        rw [unhide HW]
        clear ziw zjw
        go_quiet (fail)
        go_wp2_with fail
        go_quiet (fail)
        go_wp2_with fail
        go_quiet (fail)
        go_wp2_with fail
        go_ret
        exact ⟨rfl, below_drewN (below_drewN (unhide HBW) _) _⟩
      · have h5 : yr = xr ∧ i < j := by omega
        obtain ⟨h6, hij⟩ := h5
        subst h6
        have hij' : (i : Int) < j := by omega
        have hrr : (yr == yr) = true := by simp
        clear h4 hgt hij
        go_enter Try.func30, Try.ntmps30
        go_wp2_with fail
        rw [unhide HW]
        clear ziw zjw
        go_quiet (fail)
        go_wp2_with fail
        go_quiet (fail)
        go_wp2_with fail
        go_quiet (fail)
        go_wp2_with fail
        go_ret
        exact ⟨rfl, below_drewN (below_drewN (unhide HBW) _) _⟩
    · obtain ⟨v, hv⟩ : ∃ v, Lj - yq = v := ⟨_, rfl⟩
      have wt : IntKind.i64.wrap (Lj - yq) = v := by rw [hv]; exact wrap_big (by omega) (by omega)
      have hv0 : (v == 0) = false := beq_eq_false_iff_ne.2 (by omega)
      clear h1 HP h3 hb0 h2
      go_enter Try.func30, Try.ntmps30
      go_wp2_with fail
      rw [unhide HW]
      clear ziw zjw
      go_quiet (fail)
      go_wp2_with fail
      go_quiet (fail)
      go_wp2_with fail
      go_ret
      exact ⟨rfl, below_drewN (unhide HBW) _⟩
end Go.Proofs.Ytbpolcnjojlkjaa
