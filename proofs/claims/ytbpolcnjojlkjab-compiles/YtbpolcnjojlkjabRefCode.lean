/- splitref's machine: At, known, ways, join. -/
import Derived.Test.YtbpolcnjojlkjabDecode
import Derived.Test.YtbpolcnjojlkjabRefHead2
import Derived.Test.YtbpolcnjojlkjabHeldM
namespace Go.Proofs.Ytbpolcnjojlkjab
open Go.ChangeShapes Go.WideShapes Go.ChangeAt Go.RowKit
open Split (byt byt_lt byt_bd byt_255 St none8 joinM leadM)
set_option linter.unusedVariables false
set_option linter.unusedSimpArgs false

theorem ext_byt (c : ByteArray) (a j : Nat) (h : a + j < c.size) : j < (c.extract a c.size).size ∧ byt (c.extract a c.size) j = byt c (a + j) := by
  have hz : (c.extract a c.size).size = c.size - a := by
    rw [ByteArray.size_extract]; omega
  refine ⟨by omega, ?_⟩
  rw [byt_lt (by omega), byt_lt h]
  congr 2
  exact ByteArray.getElem_extract ..

set_option maxRecDepth 100000 in
set_option maxHeartbeats 2000000 in
theorem at_any (c : ByteArray) (i : Nat) (w : World) (hc : c.size ≤ 600) (hi : i * 5 + 5 ≤ c.size) :
    Calls Try.prog 20 #[.string c, .int .i64 i] w fun e w' => e = .returned (.agg #[.int .u8 (kOf c i), .int .i64 (aOf c i), .int .i64 (bOf c i), .int .i64 (nOf c i)]) ∧ Below w.heap.size w w' := by
  obtain ⟨j, hj⟩ : ∃ j : Nat, i * 5 = j := ⟨_, rfl⟩
  have e0 : (i : Int) * 5 = j := by omega
  obtain ⟨u, hu, l0, l1, l2, l3, l4, q0, q1, q2, q3, q4⟩ : ∃ u, c.extract j c.size = u ∧ ∃ (l0 : 0 < u.size) (l1 : 1 < u.size) (l2 : 2 < u.size) (l3 : 3 < u.size) (l4 : 4 < u.size), (u[0].toNat : Int) = byt c j ∧ (u[1].toNat : Int) = byt c (j + 1) ∧ (u[2].toNat : Int) = byt c (j + 2) ∧ (u[3].toNat : Int) = byt c (j + 3) ∧ (u[4].toNat : Int) = byt c (j + 4) := by
    obtain ⟨l0, q0⟩ := ext_byt c j 0 (by omega)
    obtain ⟨l1, q1⟩ := ext_byt c j 1 (by omega)
    obtain ⟨l2, q2⟩ := ext_byt c j 2 (by omega)
    obtain ⟨l3, q3⟩ := ext_byt c j 3 (by omega)
    obtain ⟨l4, q4⟩ := ext_byt c j 4 (by omega)
    rw [byt_lt l0] at q0
    rw [byt_lt l1] at q1
    rw [byt_lt l2] at q2
    rw [byt_lt l3] at q3
    rw [byt_lt l4] at q4
    exact ⟨_, rfl, l0, l1, l2, l3, l4, q0, q1, q2, q3, q4⟩
  have b0 := byt_bd c (j + 0)
  have b1 := byt_bd c (j + 1)
  have b2 := byt_bd c (j + 2)
  have b3 := byt_bd c (j + 3)
  have b4 := byt_bd c (j + 4)
  unfold kOf aOf bOf nOf
  rw [hj]
  rw [Nat.add_zero] at b0
  generalize byt c j = k at *
  generalize byt c (j + 1) = a at *
  generalize byt c (j + 2) = b at *
  generalize byt c (j + 3) = x at *
  generalize byt c (j + 4) = y at *
  have hjs : (j : Int) ≤ c.size := by omega
  have hwj : wrap64 (j : Int) = j := IntWalk.wrap64_in _ (by omega)
  have hjt : ((j : Int)).toNat = j := by omega
  clear hj hi
  obtain ⟨W, hW⟩ : ∃ W, w.alloc (.cells #[.int .u8 0, .int .i64 0, .int .i64 0, .int .i64 0] 46) = W := ⟨_, rfl⟩
  have hrow : W.heap[w.heap.size]? = some (.cells #[.int .u8 0, .int .i64 0, .int .i64 0, .int .i64 0] 46 (0, 0)) := by rw [← hW]; exact heap_alloc_new _ _
  have hBW : Below w.heap.size w W := by rw [← hW]; exact (Below.refl _ _).alloc (Nat.le_refl _) _
  have HW := hide hW
  have HBW := hide hBW
  have hlW : w.heap.size < W.heap.size := cell_lt hrow
  have r0 := cell_of_row W w.heap.size 0 _ _ _ hrow
  have r1 := cell_of_row W w.heap.size 1 _ _ _ hrow
  have r2 := cell_of_row W w.heap.size 2 _ _ _ hrow
  have r3 := cell_of_row W w.heap.size 3 _ _ _ hrow
  have f0 := frozen_of_row W w.heap.size 0 _ _ hrow
  have f1 := frozen_of_row W w.heap.size 1 _ _ hrow
  have f2 := frozen_of_row W w.heap.size 2 _ _ hrow
  have f3 := frozen_of_row W w.heap.size 3 _ _ hrow
  simp at r0 r1 r2 r3
  clear hW hBW hrow
  have wa : IntKind.i64.wrap a = a := wrap_small (by omega) (by omega)
  have wb : IntKind.i64.wrap b = b := wrap_small (by omega) (by omega)
  have wx : IntKind.i64.wrap x = x := wrap_small (by omega) (by omega)
  have wy : IntKind.i64.wrap y = y := wrap_small (by omega) (by omega)
  have wz : IntKind.i64.wrap (256 * x) = 256 * x := wrap_small (by omega) (by omega)
  have ws : IntKind.i64.wrap (256 * x + y) = 256 * x + y := wrap_small (by omega) (by omega)
  go_enter Try.func20, Try.ntmps20
  go_wp2_with fail
  rw [unhide HW]
  clear hu
  go_region
  go_wp2_with fail
  refine bodyPost_ret (v := .agg #[.int .u8 k, .int .i64 a, .int .i64 b, .int .i64 (256 * x + y)]) (by simp [results, Try.results20, go_sem, r0, r1, r2, r3, hlW]) rfl ?_
  refine ⟨rfl, (unhide HBW).trans (below_of_grown (r := some w.heap.size) (grown_drewN (r := some w.heap.size) ?_ 1) (by omega) (fun k hk => by simp at hk; omega))⟩
  iterate 4 refine grown_set ?_ _ _
  exact grown_refl _ _

theorem known_any (k a b n left : Int) (w : World) : Calls Try.prog 21 #[.agg #[.int .u8 k, .int .i64 a, .int .i64 b, .int .i64 n], .int .i64 left] w fun e w' => e = .returned (.bool (decB k a b left)) ∧ Below w.heap.size w w' := by
  by_cases h80 : k = 80
  · subst h80
    rw [show decB 80 a b left = decide (a < 8) from by simp [decB]]
    go_enter Try.func21, Try.ntmps21
    go_wp2
    go_ret
    exact ⟨rfl, (Below.refl _ _).alloc (Nat.le_refl _) _⟩
  by_cases h67 : k = 67
  · subst h67
    rw [show decB 67 a b left = decide (a < 8) from by simp [decB]]
    go_enter Try.func21, Try.ntmps21
    go_wp2
    go_ret
    exact ⟨rfl, (Below.refl _ _).alloc (Nat.le_refl _) _⟩
  by_cases h82 : k = 82
  · subst h82
    rw [show decB 82 a b left = true from by simp [decB]]
    go_enter Try.func21, Try.ntmps21
    go_wp2
    go_ret
    exact ⟨rfl, (Below.refl _ _).alloc (Nat.le_refl _) _⟩
  by_cases h69 : k = 69
  · subst h69
    rw [show decB 69 a b left = true from by simp [decB]]
    go_enter Try.func21, Try.ntmps21
    go_wp2
    go_ret
    exact ⟨rfl, (Below.refl _ _).alloc (Nat.le_refl _) _⟩
  by_cases h72 : k = 72
  · subst h72
    by_cases ha1 : 1 ≤ a
    · rw [show decB 72 a b left = decide (a ≤ 99) from by simp [decB]; omega]
      go_enter Try.func21, Try.ntmps21
      go_wp2
      go_ret
      exact ⟨rfl, (Below.refl _ _).alloc (Nat.le_refl _) _⟩
    · rw [show decB 72 a b left = false from by simp [decB]; omega]
      go_enter Try.func21, Try.ntmps21
      go_wp2
      go_ret
      exact ⟨rfl, (Below.refl _ _).alloc (Nat.le_refl _) _⟩
  by_cases h74 : k = 74
  · subst h74
    rw [show decB 74 a b left = decide (a ≤ left) from by simp [decB]]
    go_enter Try.func21, Try.ntmps21
    go_wp2
    go_ret
    exact ⟨rfl, (Below.refl _ _).alloc (Nat.le_refl _) _⟩
  by_cases h73 : k = 73
  · subst h73
    by_cases ha1 : a < 8
    · rw [show decB 73 a b left = decide (b ≤ left) from by simp [decB]; omega]
      go_enter Try.func21, Try.ntmps21
      go_wp2
      go_ret
      exact ⟨rfl, (Below.refl _ _).alloc (Nat.le_refl _) _⟩
    · rw [show decB 73 a b left = false from by simp [decB]; omega]
      go_enter Try.func21, Try.ntmps21
      go_wp2
      go_ret
      exact ⟨rfl, (Below.refl _ _).alloc (Nat.le_refl _) _⟩
  rw [(dec_zero h80 h67 h82 h72 h69 h74 h73 a b n left).2]
  have n1 : (k == 80) = false := beq_eq_false_iff_ne.2 h80
  have n2 : (k == 67) = false := beq_eq_false_iff_ne.2 h67
  have n3 : (k == 82) = false := beq_eq_false_iff_ne.2 h82
  have n4 : (k == 72) = false := beq_eq_false_iff_ne.2 h72
  have n5 : (k == 69) = false := beq_eq_false_iff_ne.2 h69
  have n6 : (k == 74) = false := beq_eq_false_iff_ne.2 h74
  have n7 : (k == 73) = false := beq_eq_false_iff_ne.2 h73
  clear h80 h67 h82 h72 h69 h74 h73
  go_enter Try.func21, Try.ntmps21
  go_wp2
  go_ret
  exact ⟨rfl, (Below.refl _ _).alloc (Nat.le_refl _) _⟩

/-- The two places to which an instruction leads. -/
def wayA (k a : Int) (i : Nat) : Int := if k = 74 then i + 1 + a else i + 1
def wayB (k a b : Int) (i : Nat) : Int := if k = 74 then i + 1 + a else if k = 73 then i + 1 + b else i + 1

theorem ways_any (k a b n : Int) (i : Nat) (w : World) (hi : i ≤ 1000) (ha : 0 ≤ a) (ha' : a ≤ 255) (hb : 0 ≤ b) (hb' : b ≤ 255) : Calls Try.prog 31 #[.agg #[.int .u8 k, .int .i64 a, .int .i64 b, .int .i64 n], .int .i64 i] w fun e w' => e = .returned (.tuple #[.int .i64 (wayA k a i), .int .i64 (wayB k a b i)]) ∧ Below w.heap.size w w' := by
  by_cases h4 : k = 74
  · subst h4
    rw [show wayA 74 a i = i + 1 + a from by simp [wayA], show wayB 74 a b i = i + 1 + a from by simp [wayB]]
    obtain ⟨W, hW⟩ : ∃ W, w.alloc (.cells #[.int .u8 74, .int .i64 a, .int .i64 b, .int .i64 n] 46) = W := ⟨_, rfl⟩
    have hrow : W.heap[w.heap.size]? = some (.cells #[.int .u8 74, .int .i64 a, .int .i64 b, .int .i64 n] 46 (0, 0)) := by rw [← hW]; exact heap_alloc_new _ _
    have HBW : Hid (Below w.heap.size w W) := by
      show Below w.heap.size w W
      rw [← hW]; exact (Below.refl _ _).alloc (Nat.le_refl _) _
    have hlW : w.heap.size < W.heap.size := cell_lt hrow
    have r0 := cell_of_row W w.heap.size 0 _ _ _ hrow
    have r1 := cell_of_row W w.heap.size 1 _ _ _ hrow
    have r2 := cell_of_row W w.heap.size 2 _ _ _ hrow
    simp at r0 r1 r2
    have HW := hide hW
    clear hW hrow
    go_enter Try.func31, Try.ntmps31
    go_wp2_with fail
    rw [unhide HW]
    go_quiet (fail)
    go_wp2_with fail
    go_ret2
    exact ⟨rfl, below_drewN (unhide HBW) _⟩
  by_cases h3 : k = 73
  · subst h3
    rw [show wayA 73 a i = i + 1 from by simp [wayA], show wayB 73 a b i = i + 1 + b from by simp [wayB]]
    obtain ⟨W, hW⟩ : ∃ W, w.alloc (.cells #[.int .u8 73, .int .i64 a, .int .i64 b, .int .i64 n] 46) = W := ⟨_, rfl⟩
    have hrow : W.heap[w.heap.size]? = some (.cells #[.int .u8 73, .int .i64 a, .int .i64 b, .int .i64 n] 46 (0, 0)) := by rw [← hW]; exact heap_alloc_new _ _
    have HBW : Hid (Below w.heap.size w W) := by
      show Below w.heap.size w W
      rw [← hW]; exact (Below.refl _ _).alloc (Nat.le_refl _) _
    have hlW : w.heap.size < W.heap.size := cell_lt hrow
    have r0 := cell_of_row W w.heap.size 0 _ _ _ hrow
    have r1 := cell_of_row W w.heap.size 1 _ _ _ hrow
    have r2 := cell_of_row W w.heap.size 2 _ _ _ hrow
    simp at r0 r1 r2
    have HW := hide hW
    clear hW hrow
    go_enter Try.func31, Try.ntmps31
    go_wp2_with fail
    rw [unhide HW]
    go_quiet (fail)
    go_wp2_with fail
    go_ret2
    exact ⟨rfl, below_drewN (unhide HBW) _⟩
  · rw [show wayA k a i = i + 1 from by simp [wayA, h4], show wayB k a b i = i + 1 from by simp [wayB, h4, h3]]
    have n6 : (k == 74) = false := beq_eq_false_iff_ne.2 h4
    have n7 : (k == 73) = false := beq_eq_false_iff_ne.2 h3
    clear h4 h3
    go_enter Try.func31, Try.ntmps31
    go_wp2
    go_ret2
    exact ⟨rfl, (Below.refl _ _).alloc (Nat.le_refl _) _⟩

theorem join_any (o x : Int) (w : World) : Calls Try.prog 32 #[.int .i64 o, .int .i64 x] w fun e w' => e = .returned (.int .i64 (joinM o x)) ∧ w' = w := by
  by_cases h1 : o = -1
  · subst h1
    rw [show joinM (-1) x = x from by simp [joinM]]
    go_enter Try.func32, Try.ntmps32
    go_wp2
    go_ret
    exact ⟨rfl, rfl⟩
  · have n1 : (o == -1) = false := beq_eq_false_iff_ne.2 h1
    by_cases h2 : o = x
    · subst h2
      rw [show joinM o o = o from by simp [joinM]]
      have n2 : (o == o) = true := by simp
      clear h1
      go_enter Try.func32, Try.ntmps32
      go_wp2
      go_ret
      exact ⟨rfl, rfl⟩
    · rw [show joinM o x = -2 from by simp [joinM, h1, h2]]
      have n2 : (o == x) = false := beq_eq_false_iff_ne.2 h2
      clear h1 h2
      go_enter Try.func32, Try.ntmps32
      go_wp2
      go_ret
      exact ⟨rfl, rfl⟩
end Go.Proofs.Ytbpolcnjojlkjab
