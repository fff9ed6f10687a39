/- RefCodes: RefCode, RefHeld, RefVerify -/
import Derived.Test.YtmdjdpofpkgffabCodes
import Derived.Test.YtmdjdpofpkgffabRefRead
import Derived.Test.YtmdjdpofpkgffabHeights
import Derived.Test.YtmdjdpofpkgffabLoadRun
import Derived.Test.YtmdjdpofpkgffabHeldWalk

/- splitref's machine: At, known, ways, join. -/
namespace Go.Proofs.Ytmdjdpofpkgffab
open Go.ChangeShapes Go.WideShapes Go.ChangeAt Go.RowKit
open Split (byt byt_lt byt_bd byt_255 St none8 joinM leadM)
set_option linter.unusedVariables false
set_option linter.unusedSimpArgs false

theorem ext_byt (c : ByteArray) (a j : Nat) (h : a + j < c.size) : j < (c.extract a c.size).size ∧ byt (c.extract a c.size) j = byt c (a + j) := by
  have hz : (c.extract a c.size).size = c.size - a := by
    rw [ByteArray.size_extract]; omega
  refine ⟨by omega, ?_⟩
  rw [byt_lt (by omega), byt_lt h]
  congr 2
  exact ByteArray.getElem_extract ..

set_option maxRecDepth 100000 in
set_option maxHeartbeats 2000000 in
theorem at_any (c : ByteArray) (i : Nat) (w : World) (hc : c.size ≤ 600) (hi : i * 5 + 5 ≤ c.size) :
    Calls Try.prog 40 #[.string c, .int .i64 i] w fun e w' => e = .returned (.agg #[.int .u8 (kOf c i), .int .i64 (aOf c i), .int .i64 (bOf c i), .int .i64 (nOf c i)]) ∧ Below w.heap.size w w' := by
  obtain ⟨j, hj⟩ : ∃ j : Nat, i * 5 = j := ⟨_, rfl⟩
  have e0 : (i : Int) * 5 = j := by omega
  obtain ⟨u, hu, l0, l1, l2, l3, l4, q0, q1, q2, q3, q4⟩ : ∃ u, c.extract j c.size = u ∧ ∃ (l0 : 0 < u.size) (l1 : 1 < u.size) (l2 : 2 < u.size) (l3 : 3 < u.size) (l4 : 4 < u.size), (u[0].toNat : Int) = byt c j ∧ (u[1].toNat : Int) = byt c (j + 1) ∧ (u[2].toNat : Int) = byt c (j + 2) ∧ (u[3].toNat : Int) = byt c (j + 3) ∧ (u[4].toNat : Int) = byt c (j + 4) := by
    obtain ⟨l0, q0⟩ := ext_byt c j 0 (by omega)
    obtain ⟨l1, q1⟩ := ext_byt c j 1 (by omega)
    obtain ⟨l2, q2⟩ := ext_byt c j 2 (by omega)
    obtain ⟨l3, q3⟩ := ext_byt c j 3 (by omega)
    obtain ⟨l4, q4⟩ := ext_byt c j 4 (by omega)
    rw [byt_lt l0] at q0
    rw [byt_lt l1] at q1
    rw [byt_lt l2] at q2
    rw [byt_lt l3] at q3
    rw [byt_lt l4] at q4
    exact ⟨_, rfl, l0, l1, l2, l3, l4, q0, q1, q2, q3, q4⟩
  have b0 := byt_bd c (j + 0)
  have b1 := byt_bd c (j + 1)
  have b2 := byt_bd c (j + 2)
  have b3 := byt_bd c (j + 3)
  have b4 := byt_bd c (j + 4)
  unfold kOf aOf bOf nOf
  rw [hj]
  rw [Nat.add_zero] at b0
  generalize byt c j = k at *
  generalize byt c (j + 1) = a at *
  generalize byt c (j + 2) = b at *
  generalize byt c (j + 3) = x at *
  generalize byt c (j + 4) = y at *
  have hjs : (j : Int) ≤ c.size := by omega
  have hwj : wrap64 (j : Int) = j := IntWalk.wrap64_in _ (by omega)
  have hjt : ((j : Int)).toNat = j := by omega
  clear hj hi
  obtain ⟨W, hW⟩ : ∃ W, w.alloc (.cells #[.int .u8 0, .int .i64 0, .int .i64 0, .int .i64 0] 70) = W := ⟨_, rfl⟩
  have hrow : W.heap[w.heap.size]? = some (.cells #[.int .u8 0, .int .i64 0, .int .i64 0, .int .i64 0] 70 (0, 0)) := by rw [← hW]; exact heap_alloc_new _ _
  have hBW : Below w.heap.size w W := by rw [← hW]; exact (Below.refl _ _).alloc (Nat.le_refl _) _
  have HW := hide hW
  have HBW := hide hBW
  have hlW : w.heap.size < W.heap.size := cell_lt hrow
  have r0 := cell_of_row W w.heap.size 0 _ _ _ hrow
  have r1 := cell_of_row W w.heap.size 1 _ _ _ hrow
  have r2 := cell_of_row W w.heap.size 2 _ _ _ hrow
  have r3 := cell_of_row W w.heap.size 3 _ _ _ hrow
  have f0 := frozen_of_row W w.heap.size 0 _ _ hrow
  have f1 := frozen_of_row W w.heap.size 1 _ _ hrow
  have f2 := frozen_of_row W w.heap.size 2 _ _ hrow
  have f3 := frozen_of_row W w.heap.size 3 _ _ hrow
  simp at r0 r1 r2 r3
  clear hW hBW hrow
  have wa : IntKind.i64.wrap a = a := wrap_small (by omega) (by omega)
  have wb : IntKind.i64.wrap b = b := wrap_small (by omega) (by omega)
  have wx : IntKind.i64.wrap x = x := wrap_small (by omega) (by omega)
  have wy : IntKind.i64.wrap y = y := wrap_small (by omega) (by omega)
  have wz : IntKind.i64.wrap (256 * x) = 256 * x := wrap_small (by omega) (by omega)
  have ws : IntKind.i64.wrap (256 * x + y) = 256 * x + y := wrap_small (by omega) (by omega)
  go_enter Try.func40, Try.ntmps40
  go_wp2_with fail
  rw [unhide HW]
  clear hu
  go_region
  go_wp2_with fail
  refine bodyPost_ret (v := .agg #[.int .u8 k, .int .i64 a, .int .i64 b, .int .i64 (256 * x + y)]) (by simp [results, Try.results40, go_sem, r0, r1, r2, r3, hlW]) rfl ?_
  refine ⟨rfl, (unhide HBW).trans (below_of_grown (r := some w.heap.size) (grown_drewN (r := some w.heap.size) ?_ 1) (by omega) (fun k hk => by simp at hk; omega))⟩
  iterate 4 refine grown_set ?_ _ _
  exact grown_refl _ _

theorem known_any (k a b n left : Int) (w : World) : Calls Try.prog 41 #[.agg #[.int .u8 k, .int .i64 a, .int .i64 b, .int .i64 n], .int .i64 left] w fun e w' => e = .returned (.bool (decB k a b left)) ∧ Below w.heap.size w w' := by
  by_cases h80 : k = 80
  · subst h80
    rw [show decB 80 a b left = decide (a < 8) from by simp [decB]]
    go_enter Try.func41, Try.ntmps41
    go_wp2
    go_ret
    exact ⟨rfl, (Below.refl _ _).alloc (Nat.le_refl _) _⟩
  by_cases h67 : k = 67
  · subst h67
    rw [show decB 67 a b left = decide (a < 8) from by simp [decB]]
    go_enter Try.func41, Try.ntmps41
    go_wp2
    go_ret
    exact ⟨rfl, (Below.refl _ _).alloc (Nat.le_refl _) _⟩
  by_cases h82 : k = 82
  · subst h82
    rw [show decB 82 a b left = true from by simp [decB]]
    go_enter Try.func41, Try.ntmps41
    go_wp2
    go_ret
    exact ⟨rfl, (Below.refl _ _).alloc (Nat.le_refl _) _⟩
  by_cases h69 : k = 69
  · subst h69
    rw [show decB 69 a b left = true from by simp [decB]]
    go_enter Try.func41, Try.ntmps41
    go_wp2
    go_ret
    exact ⟨rfl, (Below.refl _ _).alloc (Nat.le_refl _) _⟩
  by_cases h72 : k = 72
  · subst h72
    by_cases ha1 : 1 ≤ a
    · rw [show decB 72 a b left = decide (a ≤ 99) from by simp [decB]; omega]
      go_enter Try.func41, Try.ntmps41
      go_wp2
      go_ret
      exact ⟨rfl, (Below.refl _ _).alloc (Nat.le_refl _) _⟩
    · rw [show decB 72 a b left = false from by simp [decB]; omega]
      go_enter Try.func41, Try.ntmps41
      go_wp2
      go_ret
      exact ⟨rfl, (Below.refl _ _).alloc (Nat.le_refl _) _⟩
  by_cases h74 : k = 74
  · subst h74
    rw [show decB 74 a b left = decide (a ≤ left) from by simp [decB]]
    go_enter Try.func41, Try.ntmps41
    go_wp2
    go_ret
    exact ⟨rfl, (Below.refl _ _).alloc (Nat.le_refl _) _⟩
  by_cases h73 : k = 73
  · subst h73
    by_cases ha1 : a < 8
    · rw [show decB 73 a b left = decide (b ≤ left) from by simp [decB]; omega]
      go_enter Try.func41, Try.ntmps41
      go_wp2
      go_ret
      exact ⟨rfl, (Below.refl _ _).alloc (Nat.le_refl _) _⟩
    · rw [show decB 73 a b left = false from by simp [decB]; omega]
      go_enter Try.func41, Try.ntmps41
      go_wp2
      go_ret
      exact ⟨rfl, (Below.refl _ _).alloc (Nat.le_refl _) _⟩
  rw [(dec_zero h80 h67 h82 h72 h69 h74 h73 a b n left).2]
  have n1 : (k == 80) = false := beq_eq_false_iff_ne.2 h80
  have n2 : (k == 67) = false := beq_eq_false_iff_ne.2 h67
  have n3 : (k == 82) = false := beq_eq_false_iff_ne.2 h82
  have n4 : (k == 72) = false := beq_eq_false_iff_ne.2 h72
  have n5 : (k == 69) = false := beq_eq_false_iff_ne.2 h69
  have n6 : (k == 74) = false := beq_eq_false_iff_ne.2 h74
  have n7 : (k == 73) = false := beq_eq_false_iff_ne.2 h73
  clear h80 h67 h82 h72 h69 h74 h73
  go_enter Try.func41, Try.ntmps41
  go_wp2
  go_ret
  exact ⟨rfl, (Below.refl _ _).alloc (Nat.le_refl _) _⟩

/-- The two places to which an instruction leads. -/
def wayA (k a : Int) (i : Nat) : Int := if k = 74 then i + 1 + a else i + 1
def wayB (k a b : Int) (i : Nat) : Int := if k = 74 then i + 1 + a else if k = 73 then i + 1 + b else i + 1

theorem ways_any (k a b n : Int) (i : Nat) (w : World) (hi : i ≤ 1000) (ha : 0 ≤ a) (ha' : a ≤ 255) (hb : 0 ≤ b) (hb' : b ≤ 255) : Calls Try.prog 65 #[.agg #[.int .u8 k, .int .i64 a, .int .i64 b, .int .i64 n], .int .i64 i] w fun e w' => e = .returned (.tuple #[.int .i64 (wayA k a i), .int .i64 (wayB k a b i)]) ∧ Below w.heap.size w w' := by
  by_cases h4 : k = 74
  · subst h4
    rw [show wayA 74 a i = i + 1 + a from by simp [wayA], show wayB 74 a b i = i + 1 + a from by simp [wayB]]
    obtain ⟨W, hW⟩ : ∃ W, w.alloc (.cells #[.int .u8 74, .int .i64 a, .int .i64 b, .int .i64 n] 70) = W := ⟨_, rfl⟩
    have hrow : W.heap[w.heap.size]? = some (.cells #[.int .u8 74, .int .i64 a, .int .i64 b, .int .i64 n] 70 (0, 0)) := by rw [← hW]; exact heap_alloc_new _ _
    have HBW : Hid (Below w.heap.size w W) := by
      show Below w.heap.size w W
      rw [← hW]; exact (Below.refl _ _).alloc (Nat.le_refl _) _
    have hlW : w.heap.size < W.heap.size := cell_lt hrow
    have r0 := cell_of_row W w.heap.size 0 _ _ _ hrow
    have r1 := cell_of_row W w.heap.size 1 _ _ _ hrow
    have r2 := cell_of_row W w.heap.size 2 _ _ _ hrow
    simp at r0 r1 r2
    have HW := hide hW
    clear hW hrow
    go_enter Try.func65, Try.ntmps65
    go_wp2_with fail
    rw [unhide HW]
    go_quiet (fail)
    go_wp2_with fail
    go_ret2
    exact ⟨rfl, below_drewN (unhide HBW) _⟩
  by_cases h3 : k = 73
  · subst h3
    rw [show wayA 73 a i = i + 1 from by simp [wayA], show wayB 73 a b i = i + 1 + b from by simp [wayB]]
    obtain ⟨W, hW⟩ : ∃ W, w.alloc (.cells #[.int .u8 73, .int .i64 a, .int .i64 b, .int .i64 n] 70) = W := ⟨_, rfl⟩
    have hrow : W.heap[w.heap.size]? = some (.cells #[.int .u8 73, .int .i64 a, .int .i64 b, .int .i64 n] 70 (0, 0)) := by rw [← hW]; exact heap_alloc_new _ _
    have HBW : Hid (Below w.heap.size w W) := by
      show Below w.heap.size w W
      rw [← hW]; exact (Below.refl _ _).alloc (Nat.le_refl _) _
    have hlW : w.heap.size < W.heap.size := cell_lt hrow
    have r0 := cell_of_row W w.heap.size 0 _ _ _ hrow
    have r1 := cell_of_row W w.heap.size 1 _ _ _ hrow
    have r2 := cell_of_row W w.heap.size 2 _ _ _ hrow
    simp at r0 r1 r2
    have HW := hide hW
    clear hW hrow
    go_enter Try.func65, Try.ntmps65
    go_wp2_with fail
    rw [unhide HW]
    go_quiet (fail)
    go_wp2_with fail
    go_ret2
    exact ⟨rfl, below_drewN (unhide HBW) _⟩
  · rw [show wayA k a i = i + 1 from by simp [wayA, h4], show wayB k a b i = i + 1 from by simp [wayB, h4, h3]]
    have n6 : (k == 74) = false := beq_eq_false_iff_ne.2 h4
    have n7 : (k == 73) = false := beq_eq_false_iff_ne.2 h3
    clear h4 h3
    go_enter Try.func65, Try.ntmps65
    go_wp2
    go_ret2
    exact ⟨rfl, (Below.refl _ _).alloc (Nat.le_refl _) _⟩

theorem join_any (o x : Int) (w : World) : Calls Try.prog 66 #[.int .i64 o, .int .i64 x] w fun e w' => e = .returned (.int .i64 (joinM o x)) ∧ w' = w := by
  by_cases h1 : o = -1
  · subst h1
    rw [show joinM (-1) x = x from by simp [joinM]]
    go_enter Try.func66, Try.ntmps66
    go_wp2
    go_ret
    exact ⟨rfl, rfl⟩
  · have n1 : (o == -1) = false := beq_eq_false_iff_ne.2 h1
    by_cases h2 : o = x
    · subst h2
      rw [show joinM o o = o from by simp [joinM]]
      have n2 : (o == o) = true := by simp
      clear h1
      go_enter Try.func66, Try.ntmps66
      go_wp2
      go_ret
      exact ⟨rfl, rfl⟩
    · rw [show joinM o x = -2 from by simp [joinM, h1, h2]]
      have n2 : (o == x) = false := beq_eq_false_iff_ne.2 h2
      clear h1 h2
      go_enter Try.func66, Try.ntmps66
      go_wp2
      go_ret
      exact ⟨rfl, rfl⟩
end Go.Proofs.Ytmdjdpofpkgffab

/- splitref's held and Verify, of code that is admitted. -/
namespace Go.Proofs.Ytmdjdpofpkgffab
open Go.ChangeShapes Go.WideShapes Go.ChangeAt Go.RowKit
open Split (byt byt_lt byt_bd byt_255 St none8 joinM leadM growM onA onM heldGo heldM hInit InCode SOk)
set_option linter.unusedVariables false
set_option linter.unusedSimpArgs false

/-- Code of n whole instructions that all hold, and whose heights fit. -/
structure Adm (c : ByteArray) (n : Nat) : Prop where
  size : c.size = n * 5
  n120 : n ≤ 120
  ok : ∀ i, i < n → decOk c i ((n : Int) - 1 - i) = true
  held : heldM (codeM c n) = -1

theorem Adm.cnt {c : ByteArray} {n : Nat} (h : Adm c n) : cntM c = n := by
  have := h.size
  unfold cntM
  omega
theorem Adm.sok {c : ByteArray} {n : Nat} (h : Adm c n) : (∀ s ∈ codeM c n, SOk s) ∧ ∀ (i : Nat) (hi : i < (codeM c n).length), InCode (codeM c n).length i (codeM c n)[i] := by
  have := code_sok (c := c) (by
    intro j hj
    unfold okAt
    rw [h.cnt] at hj ⊢
    exact h.ok j hj)
  rw [h.cnt] at this
  exact this

theorem lead_twice {h : List Int} {p : Nat} {x : Int} (hp : p < h.length) (hx : 0 ≤ x) : leadM (leadM h p x) p x = leadM h p x := by
  have hk := Split.lead_get (h := h) x hp p
  rw [if_pos rfl] at hk
  have hj : joinM (joinM (h.getD p 0) x) x = joinM (h.getD p 0) x := by
    rcases Split.joinM_or (h.getD p 0) x with e | e
    · rw [e]; unfold joinM; rw [if_pos (.inr rfl)]
    · rw [e]; unfold joinM; rw [if_neg (by omega)]
  show (leadM h p x).set p (joinM ((leadM h p x).getD p 0) x) = _
  rw [hk, hj]
  unfold leadM
  rw [List.set_set]

/-- Both ways of an instruction. -/
theorem both_ways {h : List Int} {n i : Nat} {k a b m x : Int} (hl : h.length = n + 1) (hi : i < n) (ha : 0 ≤ a) (hb : 0 ≤ b) (hx : 0 ≤ x) (hin : InCode n i (decS k a b m)) (hA : k = 74 → i + 1 + a.toNat ≤ n) :
    leadM (leadM h (wayA k a i).toNat x) (wayB k a b i).toNat x = onM h i (decS k a b m) x := by
  have e1 : ((i : Int) + 1 + a).toNat = i + 1 + a.toNat := by omega
  have e2 : ((i : Int) + 1 + b).toNat = i + 1 + b.toNat := by omega
  have e3 : ((i : Int) + 1).toNat = i + 1 := by omega
  unfold wayA wayB onM onA decS
  by_cases h80 : k = 80
  · subst h80; simp [e3]; exact lead_twice (by omega) hx
  by_cases h67 : k = 67
  · subst h67; simp [e3]; exact lead_twice (by omega) hx
  by_cases h82 : k = 82
  · subst h82; simp [e3]; exact lead_twice (by omega) hx
  by_cases h72 : k = 72
  · subst h72; simp [e3]; exact lead_twice (by omega) hx
  by_cases h69 : k = 69
  · subst h69; simp [e3]; exact lead_twice (by omega) hx
  by_cases h74 : k = 74
  · subst h74; simp [e1]; exact lead_twice (by have := hA rfl; omega) hx
  by_cases h73 : k = 73
  · subst h73; simp [e2, e3]
  · simp [h80, h67, h82, h72, h69, h74, h73, e3]; exact lead_twice (by omega) hx

theorem grow_dec (k a b m : Int) : growM (decS k a b m).kind = if k = 72 then 1 else if k = 69 then -1 else 0 := by
  unfold decS
  by_cases h72 : k = 72
  · subst h72; simp [growM]
  by_cases h69 : k = 69
  · subst h69; simp [growM]
  rw [if_neg h72, if_neg h69]
  split
  · rfl
  split
  · rfl
  split
  · rfl
  split
  · rfl
  split
  · rfl
  · rfl

/-- One step of the look, where it comes out well. -/
theorem go_well {ss : List St} {f i : Nat} {h : List Int} {s : St} (hs : ss[i]? = some s) (hg : heldGo ss (f + 1) i h = -1) :
    (h.getD i 0 = -1 ∧ heldGo ss f (i + 1) h = -1) ∨ (h.getD i 0 ≠ -1 ∧ h.getD i 0 ≠ -2 ∧ 0 ≤ h.getD i 0 + growM s.kind ∧ h.getD i 0 + growM s.kind ≤ 5 ∧ heldGo ss f (i + 1) (onM h i s (h.getD i 0 + growM s.kind)) = -1) := by
  simp only [heldGo, hs] at hg
  by_cases h1 : h.getD i 0 = -1
  · rw [if_pos h1] at hg
    exact .inl ⟨h1, hg⟩
  · rw [if_neg h1] at hg
    by_cases h2 : h.getD i 0 = -2 ∨ h.getD i 0 + growM s.kind < 0 ∨ 5 < h.getD i 0 + growM s.kind
    · rw [if_pos h2] at hg
      omega
    · rw [if_neg h2] at hg
      exact .inr ⟨h1, fun e => h2 (.inl e), by omega, by omega, hg⟩

theorem own_step {w w' : World} {base tag k n : Nat} {v : Value} {L : List Value} (h : w.ownsRow base tag k v n L) (hb : Below w.heap.size w w') : w'.ownsRow base tag k v n L := by
  refine ⟨h.1, ?_⟩
  rcases h.2 with ⟨q, q'⟩ | ⟨g', cap', cur, q, q1, q2, q3⟩
  · exact .inl ⟨q, q'⟩
  · exact .inr ⟨g', cap', cur, q, q1, by rw [hb.block g' (cell_lt q2)]; exact q2, q3⟩
theorem own_int {w : World} {base G n cap : Nat} {h : List Int} (ho : w.ownsRow base 3 1 (.slice (some ⟨G, 0, none⟩) n cap) n (h.map (Value.int .i64))) (j : Nat) (hj : j < n) : w.cell? ⟨G, j, none⟩ = some (.int .i64 (h.getD j 0)) := by
  have hl : h.length = n := by simpa using ho.1
  rw [ho.cellAt j (by omega), List.getElem?_map, List.getElem?_eq_getElem (by omega)]
  simp [List.getD_eq_getElem?_getD, List.getElem?_eq_getElem (show j < h.length by omega)]
theorem own_lead {w : World} {base G n cap : Nat} {h : List Int} (ho : w.ownsRow base 3 1 (.slice (some ⟨G, 0, none⟩) n cap) n (h.map (Value.int .i64))) (p : Nat) (x v : Int) (hv : joinM (h.getD p 0) x = v) : (w.setCell ⟨G, p, none⟩ (.int .i64 v)).ownsRow base 3 1 (.slice (some ⟨G, 0, none⟩) n cap) n ((leadM h p x).map (Value.int .i64)) := by
  have := (ho.stored p (.int .i64 v)).1
  rw [← List.map_set, ← hv] at this
  rw [← hv]
  exact this

def fillH (n k : Nat) : List Int := (List.range (n + 1)).map fun j => if 1 ≤ j ∧ j < k then -1 else 0
theorem fillH_len (n k : Nat) : (fillH n k).length = n + 1 := by simp [fillH]
theorem fillH_one (n : Nat) : (fillH n 1).map (Value.int .i64) = List.replicate (n + 1) (.int .i64 0) := by
  apply List.ext_getElem?
  intro j
  simp only [fillH, List.map_map, List.getElem?_map, List.getElem?_replicate]
  by_cases h : j < n + 1
  · rw [List.getElem?_range h, if_pos h]
    simp only [Option.map_some, Function.comp]
    rw [if_neg (by omega)]
  · rw [List.getElem?_eq_none (by simp; omega), if_neg h]; rfl
theorem fillH_all (n : Nat) : fillH n (n + 1) = hInit n := by
  apply List.ext_getElem (by simp [fillH, hInit])
  intro j h1 h2
  simp only [fillH, List.getElem_map, List.getElem_range, hInit]
  cases j with
  | zero => simp
  | succ j =>
    rw [fillH_len] at h1
    rw [if_pos (by omega), List.getElem_cons_succ, List.getElem_replicate]
theorem fillH_set (n k : Nat) (h1 : 1 ≤ k) (hk : k ≤ n) : (fillH n k).set k (-1) = fillH n (k + 1) := by
  apply List.ext_getElem (by simp [fillH])
  intro j a b
  rw [List.getElem_set]
  simp only [fillH, List.getElem_map, List.getElem_range]
  by_cases e : k = j
  · subst e; rw [if_pos rfl, if_pos (by omega)]
  · rw [if_neg e]
    by_cases h2 : 1 ≤ j ∧ j < k
    · rw [if_pos h2, if_pos (by omega)]
    · rw [if_neg h2, if_neg (by omega)]

set_option maxRecDepth 100000 in
set_option maxHeartbeats 8000000 in
theorem held_adm (c : ByteArray) (n : Nat) (w : World) (hA : Adm c n) : Calls Try.prog 42 #[.string c] w fun e w' => e = .returned (.int .i64 (-1)) ∧ Below w.heap.size w w' := by
  obtain ⟨i0, hi, hz0, hz1, hz2⟩ := info_parts infoInt
  have hn := hA.n120
  have hs := hA.size
  have hdiv : (c.size : Int).tdiv 5 = n := by
    rw [Int.tdiv_eq_ediv_of_nonneg (by omega)]
    omega
  have HA := hide hA
  have HS := hide hs
  have hc600 : c.size ≤ 600 := by omega
  clear hA hs
  go_enter Try.func42, Try.ntmps42
  go_wp2_with (at_make; refine wpList_make_full _ rfl _ _ 22 rfl w.heap.size 3 i0 (.int .i64 0) 1 Try.underlying22 hi hz0 hz1 .i64 .i64 _ _ (n + 1) rfl rfl rfl rfl (by rw [hz2]; omega) (by unfold maxLen; omega) (Nat.le_refl _) ?_; intro w1 hown hgrow)
  have hw1 : Hid (w1.ownsRow w.heap.size 3 1 (.slice (some ⟨w.heap.size, 0, none⟩) (n + 1) (n + 1)) (n + 1) ((fillH n 1).map (Value.int .i64))) := by
    rw [fillH_one]
    simpa [toList_madeCells_one, Value.cells, Hid] using hown
  have hb1 : Hid (Below w.heap.size w w1) := (Below.refl _ _).grown hgrow (Nat.le_refl _) (by simp)
  clear hown hgrow
  obtain ⟨G, hG⟩ : ∃ G, w.heap.size = G := ⟨_, rfl⟩
  rw [hG] at hw1 hb1 ⊢
  have HG := hide hG
  clear hG
  go_loopw [5] (fun ii wr => ∃ k : Nat, 1 ≤ k ∧ k ≤ n + 1 ∧ ii = .int .i64 k ∧ Hid (wr.ownsRow G 3 1 (.slice (some ⟨G, 0, none⟩) (n + 1) (n + 1)) (n + 1) ((fillH n k).map (Value.int .i64))) ∧ Hid (Below G w wr)) (fun ii _ => n + 1 - (intOf ii).toNat)
  case atStart => exact ⟨1, by omega, by omega, rfl, hw1, hb1⟩
  case round =>
    obtain ⟨k, hk1, hk, rfl, ho, hb⟩ := hrel
    by_cases hlt : k ≤ n
    · have hold : ∃ u, wr.cell? ⟨G, k, none⟩ = some u := by
        rw [(unhide ho).cellAt k (by omega)]
        exact ⟨_, List.getElem?_eq_getElem (by simp [fillH_len]; omega)⟩
      obtain ⟨u, hold⟩ := hold
      have hfr := (unhide ho).frozenAt k
      have R2 : Hid ((wr.setCell ⟨G, k, none⟩ (.int .i64 (-1))).ownsRow G 3 1 (.slice (some ⟨G, 0, none⟩) (n + 1) (n + 1)) (n + 1) ((fillH n (k + 1)).map (Value.int .i64))) := by
        have := ((unhide ho).stored k (.int .i64 (-1))).1
        rw [← List.map_set, fillH_set n k hk1 hlt] at this
        exact this
      have R3 : Hid (Below G w (wr.setCell ⟨G, k, none⟩ (.int .i64 (-1)))) := (unhide hb).setCell (p := ⟨G, k, none⟩) (Nat.le_refl _) _
      go_wp2
      go_roundw
      case rel => exact ⟨k + 1, by omega, by omega, by go_num, R2, R3⟩
      case measure => simp [intOf]; omega
    · have hkn : k = n + 1 := by omega
      subst hkn
      rw [fillH_all] at ho
      clear hw1 hb1 hlt
      go_wp2_with fail
      generalize Value.int IntKind.i64 ((n + 1 : Nat) : Int) = v1
      generalize Value.bool (decide ((n : Int) + 1 ≤ n)) = v2
      have hM := (unhide HA).held
      have hcl : (codeM c n).length = n := codeM_len c n
      obtain ⟨ss, hss⟩ : ∃ ss, codeM c n = ss := ⟨_, rfl⟩
      have hget : ∀ i, i < n → ss[i]? = some (decM c i) := fun i hi => by
        rw [← hss, List.getElem?_eq_getElem (by rw [hcl]; exact hi), codeM_get]
      have hic : ∀ i, i < n → InCode n i (decM c i) := fun i hi => by
        have := (unhide HA).sok.2 i (by rw [hcl]; exact hi)
        rw [codeM_get, codeM_len] at this
        exact this
      unfold heldM at hM
      rw [hcl, hss] at hM
      have HM := hide hM
      have HGET := hide hget
      have HIC := hide hic
      have HO := ho
      have HB := hb
      clear hM hget hic hss hcl ho hb
      go_loopw [6, 7, 8, 9, 10] (fun ii _ _ _ _ wr => ∃ (i : Nat) (h : List Int), i ≤ n ∧ ii = .int .i64 i ∧ h.length = n + 1 ∧ Hid (∀ j, -2 ≤ h.getD j 0 ∧ h.getD j 0 ≤ 5) ∧ Hid (wr.ownsRow G 3 1 (.slice (some ⟨G, 0, none⟩) (n + 1) (n + 1)) (n + 1) (h.map (Value.int .i64))) ∧ Hid (heldGo ss (n - i) i h = -1) ∧ Hid (Below G w wr)) (fun ii _ _ _ _ _ => n - (intOf ii).toNat)
      case atStart => exact ⟨0, hInit n, by omega, rfl, by simp [hInit], init_bd n, HO, HM, HB⟩
      case round =>
        obtain ⟨i, h, hin, rfl, hhl, hbd, ho, hgo, hb⟩ := hrel
        clear HO HB
        have hGlt : G < wr.heap.size := ((unhide ho).lt G rfl).2
        have cx : ∀ j, j < n + 1 → wr.cell? ⟨G, j, none⟩ = some (.int .i64 (h.getD j 0)) := by
          intro j hj
          rw [(unhide ho).cellAt j (by omega), List.getElem?_map, List.getElem?_eq_getElem (by omega)]
          simp [List.getD_eq_getElem?_getD, List.getElem?_eq_getElem (show j < h.length by omega)]
        have CX := hide cx
        clear cx
        by_cases hlti : i < n
        · have ci := unhide CX i (by omega)
          have hb2 := unhide hbd i
          obtain ⟨f, hf⟩ : ∃ f, n - i = f + 1 := ⟨n - i - 1, by omega⟩
          have hf2 : n - (i + 1) = f := by omega
          have HF := hide hf2
          have hw := go_well (unhide HGET i hlti) (by rw [← hf]; exact unhide hgo)
          have HWELL := hide hw
          obtain ⟨x, hx⟩ : ∃ x, h.getD i 0 = x := ⟨_, rfl⟩
          rw [hx] at HWELL ci hb2
          have HX := hide hx
          clear hw hf hf2 hx hgo
          by_cases hx1 : x = -1
          · subst hx1
            have hgo2 : Hid (heldGo ss f (i + 1) h = -1) := by
              rcases unhide HWELL with q | q
              · exact q.2
              · exact absurd rfl q.1
            clear HWELL
            go_wp2_with fail
            go_roundw
            case rel => exact ⟨i + 1, h, by omega, by go_num, hhl, hbd, ho, by rw [unhide HF]; exact hgo2, hb⟩
            case measure => simp [intOf]; omega
          · have hwell2 : x ≠ -2 ∧ 0 ≤ x + growM (decM c i).kind ∧ x + growM (decM c i).kind ≤ 5 ∧ heldGo ss f (i + 1) (onM h i (decM c i) (x + growM (decM c i).kind)) = -1 := by
              rcases unhide HWELL with q | q
              · exact absurd q.1 hx1
              · exact q.2
            obtain ⟨hx2, hy0, hy5, hgo2⟩ := hwell2
            have hx0 : 0 ≤ x := by omega
            have q2 : (x == -2) = false := beq_eq_false_iff_ne.2 hx2
            have hsz : i * 5 + 5 ≤ c.size := by have := unhide HS; omega
            have hat := at_any c i
            have hat := fun w' => hat w' hc600 hsz
            have hok := (unhide HA).ok i hlti
            have hgk := grow_dec (kOf c i) (aOf c i) (bOf c i) (nOf c i)
            have hinc := unhide HIC i hlti
            have a1 := byt_bd c (i * 5 + 1)
            have a2 := byt_255 (t := c) (i := i * 5 + 1) (by omega)
            have b1 := byt_bd c (i * 5 + 2)
            have b2 := byt_255 (t := c) (i := i * 5 + 2) (by omega)
            have hdec : decM c i = decS (kOf c i) (aOf c i) (bOf c i) (nOf c i) := rfl
            rw [hdec] at hy0 hy5 hgo2 hinc
            rw [hgk] at hy0 hy5 hgo2
            have hA74 : kOf c i = 74 → i + 1 + (aOf c i).toNat ≤ n := by
              intro hk
              unfold InCode at hinc
              have := hinc (by rw [hk]; simp [decS])
              rw [hk] at this
              simpa [decS] using this
            have hB73 : kOf c i = 73 → i + 1 + (bOf c i).toNat ≤ n := by
              intro hk
              unfold InCode at hinc
              have := hinc (by rw [hk]; simp [decS])
              rw [hk] at this
              simpa [decS] using this
            change 0 ≤ aOf c i ∧ _ at a1
            change aOf c i ≤ 255 at a2
            change 0 ≤ bOf c i ∧ _ at b1
            change bOf c i ≤ 255 at b2
            generalize kOf c i = k at *
            generalize aOf c i = a at *
            generalize bOf c i = b at *
            generalize nOf c i = m at *
            have hwA : 0 ≤ wayA k a i ∧ wayA k a i ≤ n := by
              unfold wayA
              split
              · rename_i hk; have := hA74 hk; omega
              · omega
            have hwB : 0 ≤ wayB k a b i ∧ wayB k a b i ≤ n := by
              unfold wayB
              split
              · rename_i hk; have := hA74 hk; omega
              split
              · rename_i hk; have := hB73 hk; omega
              · omega
            obtain ⟨y, hy⟩ : ∃ y, x + (if k = 72 then 1 else if k = 69 then -1 else 0) = y := ⟨_, rfl⟩
            rw [hy] at hy0 hy5 hgo2
            have hbw := both_ways (h := h) (n := n) (i := i) (k := k) (a := a) (b := b) (m := m) (x := y) hhl hlti a1.1 b1.1 hy0 hinc hA74
            rw [← hbw] at hgo2
            have hways := fun w' => ways_any k a b m i w' (by omega) a1.1 a2 b1.1 b2
            obtain ⟨pa, hpa⟩ : ∃ p : Nat, (wayA k a i).toNat = p := ⟨_, rfl⟩
            obtain ⟨pb, hpb⟩ : ∃ p : Nat, (wayB k a b i).toNat = p := ⟨_, rfl⟩
            have hpa' : wayA k a i = pa := by omega
            have hpb' : wayB k a b i = pb := by omega
            rw [hpa', hpb'] at hways
            rw [hpa, hpb] at hgo2
            have hpan : pa < n + 1 := by omega
            have hpbn : pb < n + 1 := by omega
            have HAT := hide hat
            have HWAY := hide hways
            have HGO2 := hide hgo2
            have HY := hide hy
            clear hat hways hgo2 hbw hA74 hB73 hinc hgk hdec hok hpa hpb hpa' hpb' hwA hwB HWELL hy
            by_cases h72 : k = 72
            · subst h72
              have hye : y = x + 1 := by have := unhide HY; simp at this; omega
              subst hye
              go_wp2_with fail
              refine (unhide HAT _).mono ?_
              rintro e w2 ⟨rfl, hb2⟩
              have O2 := hide (own_step (unhide ho) hb2)
              have B2 := hide ((unhide hb).trans (hb2.mono (Nat.le_of_lt hGlt)))
              have hG2 : G < w2.heap.size := ((unhide O2).lt G rfl).2
              have ci2 := own_int (unhide O2) i (by omega)
              rw [unhide HX] at ci2
              clear hb2 ci
              go_wp2_with fail
              refine (unhide HWAY _).mono ?_
              rintro e w3 ⟨rfl, hb3⟩
              have hbx : Below w2.heap.size w2 (w2.alloc (.cells #[.int .u8 72, .int .i64 a, .int .i64 b, .int .i64 m] 70)) := (Below.refl _ _).alloc (Nat.le_refl _) _
              have O3 := hide (own_step (own_step (unhide O2) hbx) hb3)
              have B3 := hide ((unhide B2).trans ((below_step hbx hb3).mono (Nat.le_of_lt hG2)))
              have hG3 : G < w3.heap.size := ((unhide O3).lt G rfl).2
              have cpa := own_int (unhide O3) pa hpan
              have cpb := own_int (unhide O3) pb hpbn
              have fpa := (unhide O3).frozenAt pa
              have fpb := (unhide O3).frozenAt pb
              have hlg := Split.lead_get (h := h) (p := pa) (x + 1) (by omega) pb
              obtain ⟨za, hza⟩ : ∃ z, h.getD pa 0 = z := ⟨_, rfl⟩
              obtain ⟨zb, hzb⟩ : ∃ z, h.getD pb 0 = z := ⟨_, rfl⟩
              obtain ⟨va, hva⟩ : ∃ z, joinM za (x + 1) = z := ⟨_, rfl⟩
              rw [hza] at cpa
              rw [hzb] at cpb
              rw [hza, hzb, hva] at hlg
              have HJ1 : Hid (∀ w', Calls Try.prog 66 #[.int .i64 za, .int .i64 (x + 1)] w' fun e w'' => e = .returned (.int .i64 va) ∧ w'' = w') := by
                intro w'
                have := join_any za (x + 1) w'
                rw [hva] at this
                exact this
              have O4 := hide (own_lead (unhide O3) pa (x + 1) va (by rw [hza]; exact hva))
              clear hbx hb3 ci2 hza hzb hva O2 B2
              by_cases hpp : pa = pb
              · subst hpp
                rw [if_pos rfl] at hlg
                obtain ⟨vb, hvb⟩ : ∃ z, joinM va (x + 1) = z := ⟨_, rfl⟩
                have HJ2 : Hid (∀ w', Calls Try.prog 66 #[.int .i64 va, .int .i64 (x + 1)] w' fun e w'' => e = .returned (.int .i64 vb) ∧ w'' = w') := by
                  intro w'
                  have := join_any va (x + 1) w'
                  rw [hvb] at this
                  exact this
                have O5 := hide (own_lead (unhide O4) pa (x + 1) vb (by rw [hlg]; exact hvb))
                clear hlg hvb O4 cpb fpb
                go_wp2_with fail
                refine (unhide HJ1 _).mono ?_
                rintro e w4 ⟨rfl, hw4⟩
                have hw4 := hw4.symm
                subst hw4
                go_wp2_with fail
                refine (unhide HJ2 _).mono ?_
                rintro e w5 ⟨rfl, hw5⟩
                rw [hw5]
                clear hw5
                go_wp2_with fail
                go_roundw
                case rel => exact ⟨i + 1, _, by omega, by go_num, by rw [Split.lead_len, Split.lead_len]; exact hhl, lead_bd (by rw [Split.lead_len]; omega) hy0 hy5 (lead_bd (by omega) hy0 hy5 (unhide hbd)), O5, by rw [unhide HF]; exact HGO2, (((unhide B3).setCell (p := ⟨G, pa, none⟩) (Nat.le_refl _) _).setCell (p := ⟨G, pa, none⟩) (Nat.le_refl _) _)⟩
                case measure => simp [intOf]; omega
              · rw [if_neg hpp] at hlg
                obtain ⟨vb, hvb⟩ : ∃ z, joinM zb (x + 1) = z := ⟨_, rfl⟩
                have HJ2 : Hid (∀ w', Calls Try.prog 66 #[.int .i64 zb, .int .i64 (x + 1)] w' fun e w'' => e = .returned (.int .i64 vb) ∧ w'' = w') := by
                  intro w'
                  have := join_any zb (x + 1) w'
                  rw [hvb] at this
                  exact this
                have O5 := hide (own_lead (unhide O4) pb (x + 1) vb (by rw [hlg]; exact hvb))
                have hpp' : ¬ pb = pa := fun e => hpp e.symm
                clear hlg hvb O4
                go_wp2_with fail
                refine (unhide HJ1 _).mono ?_
                rintro e w4 ⟨rfl, hw4⟩
                have hw4 := hw4.symm
                subst hw4
                go_wp2_with fail
                refine (unhide HJ2 _).mono ?_
                rintro e w5 ⟨rfl, hw5⟩
                rw [hw5]
                clear hw5
                go_wp2_with fail
                go_roundw
                case rel => exact ⟨i + 1, _, by omega, by go_num, by rw [Split.lead_len, Split.lead_len]; exact hhl, lead_bd (by rw [Split.lead_len]; omega) hy0 hy5 (lead_bd (by omega) hy0 hy5 (unhide hbd)), O5, by rw [unhide HF]; exact HGO2, (((unhide B3).setCell (p := ⟨G, pa, none⟩) (Nat.le_refl _) _).setCell (p := ⟨G, pb, none⟩) (Nat.le_refl _) _)⟩
                case measure => simp [intOf]; omega
            by_cases h69 : k = 69
            · subst h69
              have hye : y = x - 1 := by have := unhide HY; simp at this; omega
              subst hye
              go_wp2_with fail
              refine (unhide HAT _).mono ?_
              rintro e w2 ⟨rfl, hb2⟩
              have O2 := hide (own_step (unhide ho) hb2)
              have B2 := hide ((unhide hb).trans (hb2.mono (Nat.le_of_lt hGlt)))
              have hG2 : G < w2.heap.size := ((unhide O2).lt G rfl).2
              have ci2 := own_int (unhide O2) i (by omega)
              rw [unhide HX] at ci2
              clear hb2 ci
              go_wp2_with fail
              refine (unhide HWAY _).mono ?_
              rintro e w3 ⟨rfl, hb3⟩
              have hbx : Below w2.heap.size w2 (w2.alloc (.cells #[.int .u8 69, .int .i64 a, .int .i64 b, .int .i64 m] 70)) := (Below.refl _ _).alloc (Nat.le_refl _) _
              have O3 := hide (own_step (own_step (unhide O2) hbx) hb3)
              have B3 := hide ((unhide B2).trans ((below_step hbx hb3).mono (Nat.le_of_lt hG2)))
              have hG3 : G < w3.heap.size := ((unhide O3).lt G rfl).2
              have cpa := own_int (unhide O3) pa hpan
              have cpb := own_int (unhide O3) pb hpbn
              have fpa := (unhide O3).frozenAt pa
              have fpb := (unhide O3).frozenAt pb
              have hlg := Split.lead_get (h := h) (p := pa) (x - 1) (by omega) pb
              obtain ⟨za, hza⟩ : ∃ z, h.getD pa 0 = z := ⟨_, rfl⟩
              obtain ⟨zb, hzb⟩ : ∃ z, h.getD pb 0 = z := ⟨_, rfl⟩
              obtain ⟨va, hva⟩ : ∃ z, joinM za (x - 1) = z := ⟨_, rfl⟩
              rw [hza] at cpa
              rw [hzb] at cpb
              rw [hza, hzb, hva] at hlg
              have HJ1 : Hid (∀ w', Calls Try.prog 66 #[.int .i64 za, .int .i64 (x - 1)] w' fun e w'' => e = .returned (.int .i64 va) ∧ w'' = w') := by
                intro w'
                have := join_any za (x - 1) w'
                rw [hva] at this
                exact this
              have O4 := hide (own_lead (unhide O3) pa (x - 1) va (by rw [hza]; exact hva))
              clear hbx hb3 ci2 hza hzb hva O2 B2
              by_cases hpp : pa = pb
              · subst hpp
                rw [if_pos rfl] at hlg
                obtain ⟨vb, hvb⟩ : ∃ z, joinM va (x - 1) = z := ⟨_, rfl⟩
                have HJ2 : Hid (∀ w', Calls Try.prog 66 #[.int .i64 va, .int .i64 (x - 1)] w' fun e w'' => e = .returned (.int .i64 vb) ∧ w'' = w') := by
                  intro w'
                  have := join_any va (x - 1) w'
                  rw [hvb] at this
                  exact this
                have O5 := hide (own_lead (unhide O4) pa (x - 1) vb (by rw [hlg]; exact hvb))
                clear hlg hvb O4 cpb fpb
                go_wp2_with fail
                refine (unhide HJ1 _).mono ?_
                rintro e w4 ⟨rfl, hw4⟩
                have hw4 := hw4.symm
                subst hw4
                go_wp2_with fail
                refine (unhide HJ2 _).mono ?_
                rintro e w5 ⟨rfl, hw5⟩
                rw [hw5]
                clear hw5
                go_wp2_with fail
                go_roundw
                case rel => exact ⟨i + 1, _, by omega, by go_num, by rw [Split.lead_len, Split.lead_len]; exact hhl, lead_bd (by rw [Split.lead_len]; omega) hy0 hy5 (lead_bd (by omega) hy0 hy5 (unhide hbd)), O5, by rw [unhide HF]; exact HGO2, (((unhide B3).setCell (p := ⟨G, pa, none⟩) (Nat.le_refl _) _).setCell (p := ⟨G, pa, none⟩) (Nat.le_refl _) _)⟩
                case measure => simp [intOf]; omega
              · rw [if_neg hpp] at hlg
                obtain ⟨vb, hvb⟩ : ∃ z, joinM zb (x - 1) = z := ⟨_, rfl⟩
                have HJ2 : Hid (∀ w', Calls Try.prog 66 #[.int .i64 zb, .int .i64 (x - 1)] w' fun e w'' => e = .returned (.int .i64 vb) ∧ w'' = w') := by
                  intro w'
                  have := join_any zb (x - 1) w'
                  rw [hvb] at this
                  exact this
                have O5 := hide (own_lead (unhide O4) pb (x - 1) vb (by rw [hlg]; exact hvb))
                have hpp' : ¬ pb = pa := fun e => hpp e.symm
                clear hlg hvb O4
                go_wp2_with fail
                refine (unhide HJ1 _).mono ?_
                rintro e w4 ⟨rfl, hw4⟩
                have hw4 := hw4.symm
                subst hw4
                go_wp2_with fail
                refine (unhide HJ2 _).mono ?_
                rintro e w5 ⟨rfl, hw5⟩
                rw [hw5]
                clear hw5
                go_wp2_with fail
                go_roundw
                case rel => exact ⟨i + 1, _, by omega, by go_num, by rw [Split.lead_len, Split.lead_len]; exact hhl, lead_bd (by rw [Split.lead_len]; omega) hy0 hy5 (lead_bd (by omega) hy0 hy5 (unhide hbd)), O5, by rw [unhide HF]; exact HGO2, (((unhide B3).setCell (p := ⟨G, pa, none⟩) (Nat.le_refl _) _).setCell (p := ⟨G, pb, none⟩) (Nat.le_refl _) _)⟩
                case measure => simp [intOf]; omega
            · have hye : y = x := by have := unhide HY; rw [if_neg h72, if_neg h69] at this; omega
              subst hye
              have n72 : (k == 72) = false := beq_eq_false_iff_ne.2 h72
              have n69 : (k == 69) = false := beq_eq_false_iff_ne.2 h69
              clear h72 h69
              go_wp2_with fail
              refine (unhide HAT _).mono ?_
              rintro e w2 ⟨rfl, hb2⟩
              have O2 := hide (own_step (unhide ho) hb2)
              have B2 := hide ((unhide hb).trans (hb2.mono (Nat.le_of_lt hGlt)))
              have hG2 : G < w2.heap.size := ((unhide O2).lt G rfl).2
              have ci2 := own_int (unhide O2) i (by omega)
              rw [unhide HX] at ci2
              clear hb2 ci
              go_wp2_with fail
              refine (unhide HWAY _).mono ?_
              rintro e w3 ⟨rfl, hb3⟩
              have hbx : Below w2.heap.size w2 (w2.alloc (.cells #[.int .u8 k, .int .i64 a, .int .i64 b, .int .i64 m] 70)) := (Below.refl _ _).alloc (Nat.le_refl _) _
              have O3 := hide (own_step (own_step (unhide O2) hbx) hb3)
              have B3 := hide ((unhide B2).trans ((below_step hbx hb3).mono (Nat.le_of_lt hG2)))
              have hG3 : G < w3.heap.size := ((unhide O3).lt G rfl).2
              have cpa := own_int (unhide O3) pa hpan
              have cpb := own_int (unhide O3) pb hpbn
              have fpa := (unhide O3).frozenAt pa
              have fpb := (unhide O3).frozenAt pb
              have hlg := Split.lead_get (h := h) (p := pa) y (by omega) pb
              obtain ⟨za, hza⟩ : ∃ z, h.getD pa 0 = z := ⟨_, rfl⟩
              obtain ⟨zb, hzb⟩ : ∃ z, h.getD pb 0 = z := ⟨_, rfl⟩
              obtain ⟨va, hva⟩ : ∃ z, joinM za y = z := ⟨_, rfl⟩
              rw [hza] at cpa
              rw [hzb] at cpb
              rw [hza, hzb, hva] at hlg
              have HJ1 : Hid (∀ w', Calls Try.prog 66 #[.int .i64 za, .int .i64 y] w' fun e w'' => e = .returned (.int .i64 va) ∧ w'' = w') := by
                intro w'
                have := join_any za y w'
                rw [hva] at this
                exact this
              have O4 := hide (own_lead (unhide O3) pa y va (by rw [hza]; exact hva))
              clear hbx hb3 ci2 hza hzb hva O2 B2
              by_cases hpp : pa = pb
              · subst hpp
                rw [if_pos rfl] at hlg
                obtain ⟨vb, hvb⟩ : ∃ z, joinM va y = z := ⟨_, rfl⟩
                have HJ2 : Hid (∀ w', Calls Try.prog 66 #[.int .i64 va, .int .i64 y] w' fun e w'' => e = .returned (.int .i64 vb) ∧ w'' = w') := by
                  intro w'
                  have := join_any va y w'
                  rw [hvb] at this
                  exact this
                have O5 := hide (own_lead (unhide O4) pa y vb (by rw [hlg]; exact hvb))
                clear hlg hvb O4 cpb fpb
                go_wp2_with fail
                refine (unhide HJ1 _).mono ?_
                rintro e w4 ⟨rfl, hw4⟩
                have hw4 := hw4.symm
                subst hw4
                go_wp2_with fail
                refine (unhide HJ2 _).mono ?_
                rintro e w5 ⟨rfl, hw5⟩
                rw [hw5]
                clear hw5
                go_wp2_with fail
                go_roundw
                case rel => exact ⟨i + 1, _, by omega, by go_num, by rw [Split.lead_len, Split.lead_len]; exact hhl, lead_bd (by rw [Split.lead_len]; omega) hy0 hy5 (lead_bd (by omega) hy0 hy5 (unhide hbd)), O5, by rw [unhide HF]; exact HGO2, (((unhide B3).setCell (p := ⟨G, pa, none⟩) (Nat.le_refl _) _).setCell (p := ⟨G, pa, none⟩) (Nat.le_refl _) _)⟩
                case measure => simp [intOf]; omega
              · rw [if_neg hpp] at hlg
                obtain ⟨vb, hvb⟩ : ∃ z, joinM zb y = z := ⟨_, rfl⟩
                have HJ2 : Hid (∀ w', Calls Try.prog 66 #[.int .i64 zb, .int .i64 y] w' fun e w'' => e = .returned (.int .i64 vb) ∧ w'' = w') := by
                  intro w'
                  have := join_any zb y w'
                  rw [hvb] at this
                  exact this
                have O5 := hide (own_lead (unhide O4) pb y vb (by rw [hlg]; exact hvb))
                have hpp' : ¬ pb = pa := fun e => hpp e.symm
                clear hlg hvb O4
                go_wp2_with fail
                refine (unhide HJ1 _).mono ?_
                rintro e w4 ⟨rfl, hw4⟩
                have hw4 := hw4.symm
                subst hw4
                go_wp2_with fail
                refine (unhide HJ2 _).mono ?_
                rintro e w5 ⟨rfl, hw5⟩
                rw [hw5]
                clear hw5
                go_wp2_with fail
                go_roundw
                case rel => exact ⟨i + 1, _, by omega, by go_num, by rw [Split.lead_len, Split.lead_len]; exact hhl, lead_bd (by rw [Split.lead_len]; omega) hy0 hy5 (lead_bd (by omega) hy0 hy5 (unhide hbd)), O5, by rw [unhide HF]; exact HGO2, (((unhide B3).setCell (p := ⟨G, pa, none⟩) (Nat.le_refl _) _).setCell (p := ⟨G, pb, none⟩) (Nat.le_refl _) _)⟩
                case measure => simp [intOf]; omega
        · have hien : i = n := by omega
          subst hien
          have ci := unhide CX i (by omega)
          have hx0 : h.getD i 0 = 0 := by
            have := unhide hgo
            rw [Nat.sub_self] at this
            unfold heldGo at this
            by_cases hz : h.getD i 0 = 0
            · exact hz
            · rw [if_neg hz] at this; omega
          rw [hx0] at ci
          go_wp2_with fail
          go_ret
          exact ⟨rfl, by rw [unhide HG]; exact unhide hb⟩
end Go.Proofs.Ytmdjdpofpkgffab

/- splitref's Verify, of code that is admitted. -/
namespace Go.Proofs.Ytmdjdpofpkgffab
open Go.ChangeShapes Go.WideShapes Go.ChangeAt Go.RowKit
set_option linter.unusedVariables false
set_option linter.unusedSimpArgs false

set_option maxRecDepth 100000 in
set_option maxHeartbeats 4000000 in
theorem rverify_adm (c : ByteArray) (n : Nat) (w : World) (hA : Adm c n) : Calls Try.prog 14 #[.string c] w fun e w' => e = .returned (.tuple #[.int .i64 0, .int .i64 0]) ∧ Below w.heap.size w w' := by
  have hn := hA.n120
  have hs := hA.size
  have hdiv : (c.size : Int).tdiv 5 = n := by
    rw [Int.tdiv_eq_ediv_of_nonneg (by omega)]
    omega
  have hmul : (c.size : Int) = (n : Int) * 5 := by omega
  have HA := hide hA
  have HS := hide hs
  have hc600 : c.size ≤ 600 := by omega
  have hne : ((c.size : Int) != (n : Int) * 5) = false := by simp; omega
  have HMUL := hide hmul
  clear hA hs hmul
  go_enter Try.func14, Try.ntmps14
  go_wp2_with fail
  go_loopw [5, 6, 7] (fun ii _ _ wr => ∃ i : Nat, i ≤ n ∧ ii = .int .i64 i ∧ Hid (Below w.heap.size w wr)) (fun ii _ _ _ => n - (intOf ii).toNat)
  case atStart => exact ⟨0, by omega, rfl, Below.refl _ _⟩
  case round =>
    obtain ⟨i, hin, rfl, hb⟩ := hrel
    by_cases hlt : i < n
    · have hsz : i * 5 + 5 ≤ c.size := by have := unhide HS; omega
      have hat := fun w' => at_any c i w' hc600 hsz
      have hok := (unhide HA).ok i hlt
      unfold decOk at hok
      rw [decide_eq_true hsz, Bool.true_and] at hok
      have hkn := fun w' => known_any (kOf c i) (aOf c i) (bOf c i) (nOf c i) ((n : Int) - 1 - i) w'
      rw [hok] at hkn
      generalize kOf c i = k at *
      generalize aOf c i = a at *
      generalize bOf c i = b at *
      generalize nOf c i = m at *
      have HAT := hide hat
      have HKN := hide hkn
      clear hat hkn hok
      go_wp2_with fail
      refine (unhide HAT _).mono ?_
      rintro e w2 ⟨rfl, hb2⟩
      have B2 := hide (below_step (unhide hb) hb2)
      clear hb2
      go_wp2_with fail
      refine (unhide HKN _).mono ?_
      rintro e w3 ⟨rfl, hb3⟩
      have B3 := hide (below_step (below_step (unhide B2) ((Below.refl _ _).alloc (Nat.le_refl _) _)) hb3)
      clear hb3 B2
      go_wp2_with fail
      go_roundw
      case rel => exact ⟨i + 1, by omega, by go_num, B3⟩
      case measure => simp [intOf]; omega
    · have hien : i = n := by omega
      subst hien
      go_wp2_with fail
      refine (held_adm c i _ (unhide HA)).mono ?_
      rintro e w2 ⟨rfl, hb2⟩
      have B2 := hide (below_step (unhide hb) hb2)
      clear hb2
      go_wp2_with fail
      go_ret2
      exact ⟨rfl, unhide B2⟩
end Go.Proofs.Ytmdjdpofpkgffab
