/- Part, PartR -/
import Derived.Test.YtbpolcnjojlkjabPack12

/- split's readPart. -/
namespace Go.Proofs.Ytbpolcnjojlkjab
open Go.ChangeShapes Go.WideShapes Go.ChangeAt Go.RowKit
open Split (byt dig buc digM bucM riseB riseM risM headM byt_lt byt_ge dig_t dig_f buc_t buc_f numM St stE stJ none8)
set_option linter.unusedVariables false
set_option linter.unusedSimpArgs false

/-- The step that readPart fills, in a block of its own. -/
def SB (w : World) (S : Nat) (s : St) : Prop := w.heap[S]? = some (.cells (stC s).toArray 63 (0, 0))
theorem SB.fr {w : World} {S : Nat} {s : St} (h : SB w S s) (j : Nat) : w.frozen? ⟨S, j, none⟩ = false := frozen_of_row w S j _ _ h
theorem SB.grown {w w' : World} {S : Nat} {s : St} {r : Option Nat} (h : SB w S s) (hg : w.grownBy w' r) (hr : some S ≠ r) : SB w' S s := (hg.block S (cell_lt h) hr).trans h
theorem SB.bucket {w : World} {S : Nat} {s : St} (h : SB w S s) (x : Int) : SB (w.setCell ⟨S, 1, none⟩ (.int .i64 x)) S { s with bucket := x } := by
  unfold SB; rw [heap_setCell_same w S 1 _ _ _ h]; rfl
theorem SB.amount {w : World} {S : Nat} {s : St} (h : SB w S s) (x : Int) : SB (w.setCell ⟨S, 2, none⟩ (.int .i64 x)) S { s with amount := x } := by
  unfold SB; rw [heap_setCell_same w S 2 _ _ _ h]; rfl
theorem SB.cells {w : World} {S : Nat} {k b n l : Int} {m0 m1 m2 m3 m4 m5 m6 m7 : Bool} (h : SB w S ⟨k, b, n, [m0, m1, m2, m3, m4, m5, m6, m7], l⟩) :
    w.cell? ⟨S, 0, none⟩ = some (.int .u8 k) ∧ w.cell? ⟨S, 1, none⟩ = some (.int .i64 b) ∧ w.cell? ⟨S, 2, none⟩ = some (.int .i64 n) ∧ w.cell? ⟨S, 3, none⟩ = some (.bool m0) ∧ w.cell? ⟨S, 4, none⟩ = some (.bool m1) ∧ w.cell? ⟨S, 5, none⟩ = some (.bool m2) ∧ w.cell? ⟨S, 6, none⟩ = some (.bool m3) ∧ w.cell? ⟨S, 7, none⟩ = some (.bool m4) ∧ w.cell? ⟨S, 8, none⟩ = some (.bool m5) ∧ w.cell? ⟨S, 9, none⟩ = some (.bool m6) ∧ w.cell? ⟨S, 10, none⟩ = some (.bool m7) ∧ w.cell? ⟨S, 11, none⟩ = some (.int .i64 l) := by
  unfold SB at h
  refine ⟨?_, ?_, ?_, ?_, ?_, ?_, ?_, ?_, ?_, ?_, ?_, ?_⟩ <;> (rw [cell_of_row w S _ _ _ _ h]; rfl)

theorem beginsStep_t (c : Int) (w : World) (h : c = 80 ∨ c = 67 ∨ c = 82 ∨ c = 72 ∨ c = 73) : Calls Try.prog 61 #[.int .u8 c] w fun e w' => e = .returned (.bool true) ∧ w' = w := by
  rcases h with rfl | rfl | rfl | rfl | rfl
  all_goals
    go_enter Try.func61, Try.ntmps61
    go_wp2
    go_ret
    exact ⟨rfl, rfl⟩
theorem beginsStep_f (c : Int) (w : World) (h : c ≠ 80 ∧ c ≠ 67 ∧ c ≠ 82 ∧ c ≠ 72 ∧ c ≠ 73) : Calls Try.prog 61 #[.int .u8 c] w fun e w' => e = .returned (.bool false) ∧ w' = w := by
  obtain ⟨h1, h2, h3, h4, h5⟩ := h
  have k1 : (c == 80) = false := beq_eq_false_iff_ne.2 h1
  have k2 : (c == 67) = false := beq_eq_false_iff_ne.2 h2
  have k3 : (c == 82) = false := beq_eq_false_iff_ne.2 h3
  have k4 : (c == 72) = false := beq_eq_false_iff_ne.2 h4
  have k5 : (c == 73) = false := beq_eq_false_iff_ne.2 h5
  clear h1 h2 h3 h4 h5
  go_enter Try.func61, Try.ntmps61
  go_wp2
  go_ret
  exact ⟨rfl, rfl⟩

/-- A block's end: closeBlock does it. -/
theorem part_close (R : Nat) (w : World) (Post : World → Prop) (hc : Calls Try.prog 60 #[.pointer (some ⟨R, 0, none⟩)] w fun e w' => e = .returned (.tuple #[]) ∧ Post w') :
    Calls Try.prog 42 #[.pointer (some ⟨R, 0, none⟩), .int .u8 41] w fun e w' => e = .returned (.tuple #[]) ∧ Post w' := by
  have HC := hide hc
  clear hc
  go_enter Try.func42, Try.ntmps42
  go_wp2_with fail
  refine (unhide HC).mono ?_
  rintro e w1 ⟨rfl, h1⟩
  have H1 := hide h1
  clear h1
  go_wp2_with fail
  refine bodyPost_ret (v := .tuple #[]) (by simp [results, Try.results42, go_sem]) rfl ?_
  exact ⟨rfl, unhide H1⟩

/-- A byte that begins no step. -/
theorem part_bad (R : Nat) (t : ByteArray) (a : Nat) (bad : Bool) (ss : List St) (op : List Nat) (deep c : Int) (w : World) (h : RA w R t a bad ss op deep) (h41 : c ≠ 41) (hc : c ≠ 80 ∧ c ≠ 67 ∧ c ≠ 82 ∧ c ≠ 72 ∧ c ≠ 73) :
    Calls Try.prog 42 #[.pointer (some ⟨R, 0, none⟩), .int .u8 c] w fun e w' => e = .returned (.tuple #[]) ∧ RA w' R t a true ss op deep ∧ Below R w w' := by
  obtain ⟨vs, vo, hRB, hSo, hOo⟩ := h
  have hRlt : R < w.heap.size := cell_lt hRB
  have k1 : (c == 41) = false := beq_eq_false_iff_ne.2 h41
  have c2 := hRB.c2
  have f2 := hRB.fr 2
  have HRB := hide hRB
  have HSo := hide hSo
  have HOo := hide hOo
  have HC := hide hc
  clear hRB hSo hOo h41 hc
  go_enter Try.func42, Try.ntmps42
  go_wp2_with fail
  refine (beginsStep_f c _ (unhide HC)).mono ?_
  rintro e w1 ⟨rfl, hw⟩
  have hw := hw.symm
  subst hw
  go_wp2_with fail
  refine bodyPost_ret (v := .tuple #[]) (by simp [results, Try.results42, go_sem]) rfl ?_
  exact ⟨rfl, ⟨vs, vo, (unhide HRB).s2 true, own_keepR (unhide HSo) (grown_set (grown_refl _ _) 2 _), own_keepR (unhide HOo) (grown_set (grown_refl _ _) 2 _)⟩, (Below.refl _ _).setCell (p := ⟨R, 2, none⟩) (Nat.le_refl _) _⟩

theorem sb_new (W : World) (c : Int) (n : Nat) (h : W.heap.size = n) : SB (W.alloc (.cells #[.int .u8 c, .int .i64 0, .int .i64 0, .bool false, .bool false, .bool false, .bool false, .bool false, .bool false, .bool false, .bool false, .int .i64 0] 63)) n ⟨c, 0, 0, none8, 0⟩ :=
  alloc_at h rfl

set_option maxHeartbeats 4000000 in
theorem part_P (R : Nat) (t : ByteArray) (a : Nat) (bad : Bool) (ss : List St) (op : List Nat) (deep : Int) (w : World) (h : RA w R t a bad ss op deep) (hs : t.size ≤ 120) (ha : a ≤ 600) (hsl : ss.length ≤ 900) (hol : op.length ≤ 900) :
    Calls Try.prog 42 #[.pointer (some ⟨R, 0, none⟩), .int .u8 80] w fun e w' => e = .returned (.tuple #[]) ∧ RA w' R t (takeA t (a + 1) bad 97 104) (takeB t (a + 1) bad 97 104) (ss ++ [⟨80, takeV t (a + 1) bad 97 104 - 97, 0, none8, 0⟩]) op deep ∧ Below R w w' := by
  have hab := takeA_bd t (a + 1) bad 97 104
  generalize q0 : takeV t (a + 1) bad 97 104 - 97 = bk at *
  generalize q1 : takeA t (a + 1) bad 97 104 = A1 at *
  generalize q2 : takeB t (a + 1) bad 97 104 = B1 at *
  have Q := hide (And.intro q0 ( And.intro q1 ( q2)))
  clear q0 q1 q2
  obtain ⟨vs, vo, hRB, hSo, hOo⟩ := h
  have hRlt : R < w.heap.size := cell_lt hRB
  obtain ⟨i0, hi, hz0, hz1, hz2⟩ := info_parts infoStep
  obtain ⟨sa, scap, rfl, hsc, hsa⟩ := own_slice hSo
  have c1 := hRB.c1
  have f1 := hRB.fr 1
  have HRB := hide hRB
  have HSo := hide hSo
  have HOo := hide hOo
  clear hRB hSo hOo hsa
  go_enter Try.func42, Try.ntmps42
  go_wp2_with fail
  refine (beginsStep_t 80 _ (by decide)).mono ?_
  rintro e w0 ⟨rfl, hw⟩
  have hw := hw.symm
  subst hw
  go_wp2_with fail
  have G0 : w.grownBy ((w.setCell ⟨R, 1, none⟩ (.int .i64 ((a : Int) + 1))).alloc (.cells #[.int .u8 80, .int .i64 0, .int .i64 0, .bool false, .bool false, .bool false, .bool false, .bool false, .bool false, .bool false, .bool false, .int .i64 0] 63)) (some R) :=
    grown_trans (grown_set (grown_refl _ _) 1 _) (World.grownBy_alloc _ _ _)
  have RB0 : RB ((w.setCell ⟨R, 1, none⟩ (.int .i64 ((a : Int) + 1))).alloc (.cells #[.int .u8 80, .int .i64 0, .int .i64 0, .bool false, .bool false, .bool false, .bool false, .bool false, .bool false, .bool false, .bool false, .int .i64 0] 63)) R t (a + 1) bad (.slice sa ss.length scap) vo deep :=
    RB.grown ((unhide HRB).s1 (a + 1)) (World.grownBy_alloc _ _ none) (by simp)
  have SB0 := sb_new (w.setCell ⟨R, 1, none⟩ (.int .i64 ((a : Int) + 1))) 80 w.heap.size (by simp [World.setCell])
  refine (readBucket_any R t (a + 1) bad _ vo deep _ RB0 hs (by omega)).mono ?_
  rintro e w1 ⟨rfl, rb1, g1⟩
  rw [(unhide Q).2.1, (unhide Q).2.2] at rb1
  rw [(unhide Q).1]
  have hz1s : w.heap.size < w1.heap.size := cell_lt (SB0.grown g1 (by simp; omega))
  have SB1 := SB0.grown g1 (by simp; omega)
  have fs := SB1.fr 1
  obtain ⟨d0, d1, d2, d3, d4, d5, d6, d7, d8, d9, d10, d11⟩ := SB1.cells
  have c3 := rb1.c3
  have f3 := rb1.fr 3
  have hRw : R < w1.heap.size := cell_lt rb1
  have RBF := hide (RB.grown (w' := w1.setCell ⟨w.heap.size, 1, none⟩ (.int .i64 bk)) rb1 (grown_set (grown_refl _ _) 1 _) (by simp; omega))
  have GF := hide (grown_new (grown_trans G0 g1) (p := ⟨w.heap.size, 1, none⟩) (Nat.le_refl _) (.int .i64 bk))
  clear rb1 g1 G0 RB0 SB0 SB1
  have HSf := hide (own_keepR (unhide HSo) (unhide GF))
  have HOf := hide (own_keepR (unhide HOo) (unhide GF))
  have hRf : R < (w1.setCell ⟨w.heap.size, 1, none⟩ (.int .i64 bk)).heap.size := cell_lt (unhide RBF)
  clear c1 f1
  go_wp2_with fail
  go_region_law (refine step_append_own rfl (.tmp 53) (.tmp 55) 39 rfl (R + 1) 63 i0 _ 12 40 Try.underlying39 hi hz0 hz1 hz2 rfl (by decide) (.slice sa ss.length scap) ss.length (flat ss) (by simp [Act.eval, Act.put]) (by exact World.ownsRow.alloc (World.ownsRow.drew (unhide HSf)) _) ⟨w1.heap.size, 0, none⟩ 1 1 (stC ⟨80, bk, 0, none8, 0⟩) (by simp [Act.eval, Act.put]) rfl (news_cells (by exact alloc_at (by simp [World.setCell, World.drew]) rfl)) (stC_one _) (by unfold maxLen; omega) (by omega) (by simp [World.setCell] at hRf ⊢; omega) ?_; intro v' w9 hown hgrow; have hR9 := RB.via (unhide RBF) hgrow (own_base (unhide HSo) (Nat.lt_succ_self _)) (by exact Go.heap_alloc_old _ _ hRf); have c3' := hR9.c3; have f3' := hR9.fr 3; obtain ⟨a2, cap2, rfl, hle2, _⟩ := own_slice hown)
  all_goals
    have hA := RA_append (unhide RBF) (unhide HSf) (unhide HOf) hown (grown_undrew hgrow)
    have HA := hide hA
    have HBf := hide (below_of_grown (B := R) (unhide GF) (by omega) (fun k hk => by simp at hk; omega))
    clear hA hown hgrow hR9 c3' f3' hi hz0 hz1 hz2
    go_wp2_with fail
    go_end0
    exact ⟨rfl, (unhide HA).1, (unhide HBf).trans (unhide HA).2⟩

set_option maxHeartbeats 4000000 in
theorem part_C (R : Nat) (t : ByteArray) (a : Nat) (bad : Bool) (ss : List St) (op : List Nat) (deep : Int) (w : World) (h : RA w R t a bad ss op deep) (hs : t.size ≤ 120) (ha : a ≤ 600) (hsl : ss.length ≤ 900) (hol : op.length ≤ 900) :
    Calls Try.prog 42 #[.pointer (some ⟨R, 0, none⟩), .int .u8 67] w fun e w' => e = .returned (.tuple #[]) ∧ RA w' R t (nmM t (takeA t (a + 1) bad 97 104) (takeB t (a + 1) bad 97 104) 4).a (nmM t (takeA t (a + 1) bad 97 104) (takeB t (a + 1) bad 97 104) 4).b (ss ++ [⟨67, takeV t (a + 1) bad 97 104 - 97, (nmM t (takeA t (a + 1) bad 97 104) (takeB t (a + 1) bad 97 104) 4).n, none8, 0⟩]) op deep ∧ Below R w w' := by
  have hab := takeA_bd t (a + 1) bad 97 104
  have hnb := nmM_bd t (takeA t (a + 1) bad 97 104) (takeB t (a + 1) bad 97 104) 4
  generalize q0 : takeV t (a + 1) bad 97 104 - 97 = bk at *
  generalize q1 : takeA t (a + 1) bad 97 104 = A1 at *
  generalize q2 : takeB t (a + 1) bad 97 104 = B1 at *
  generalize q3 : (nmM t A1 B1 4).n = nn at *
  generalize q4 : (nmM t A1 B1 4).a = A2 at *
  generalize q5 : (nmM t A1 B1 4).b = B2 at *
  have Q := hide (And.intro q0 ( And.intro q1 ( And.intro q2 ( And.intro q3 ( And.intro q4 ( q5))))))
  clear q0 q1 q2 q3 q4 q5
  have hab2 : A2 ≤ a + 10 := by omega
  clear hnb
  obtain ⟨vs, vo, hRB, hSo, hOo⟩ := h
  have hRlt : R < w.heap.size := cell_lt hRB
  obtain ⟨i0, hi, hz0, hz1, hz2⟩ := info_parts infoStep
  obtain ⟨sa, scap, rfl, hsc, hsa⟩ := own_slice hSo
  have c1 := hRB.c1
  have f1 := hRB.fr 1
  have HRB := hide hRB
  have HSo := hide hSo
  have HOo := hide hOo
  clear hRB hSo hOo hsa
  go_enter Try.func42, Try.ntmps42
  go_wp2_with fail
  refine (beginsStep_t 67 _ (by decide)).mono ?_
  rintro e w0 ⟨rfl, hw⟩
  have hw := hw.symm
  subst hw
  go_wp2_with fail
  have G0 : w.grownBy ((w.setCell ⟨R, 1, none⟩ (.int .i64 ((a : Int) + 1))).alloc (.cells #[.int .u8 67, .int .i64 0, .int .i64 0, .bool false, .bool false, .bool false, .bool false, .bool false, .bool false, .bool false, .bool false, .int .i64 0] 63)) (some R) :=
    grown_trans (grown_set (grown_refl _ _) 1 _) (World.grownBy_alloc _ _ _)
  have RB0 : RB ((w.setCell ⟨R, 1, none⟩ (.int .i64 ((a : Int) + 1))).alloc (.cells #[.int .u8 67, .int .i64 0, .int .i64 0, .bool false, .bool false, .bool false, .bool false, .bool false, .bool false, .bool false, .bool false, .int .i64 0] 63)) R t (a + 1) bad (.slice sa ss.length scap) vo deep :=
    RB.grown ((unhide HRB).s1 (a + 1)) (World.grownBy_alloc _ _ none) (by simp)
  have SB0 := sb_new (w.setCell ⟨R, 1, none⟩ (.int .i64 ((a : Int) + 1))) 67 w.heap.size (by simp [World.setCell])
  refine (readBucket_any R t (a + 1) bad _ vo deep _ RB0 hs (by omega)).mono ?_
  rintro e w1 ⟨rfl, rb1, g1⟩
  rw [(unhide Q).2.1, (unhide Q).2.2.1] at rb1
  rw [(unhide Q).1]
  have hz1s : w.heap.size < w1.heap.size := cell_lt (SB0.grown g1 (by simp; omega))
  have SB1 := SB0.grown g1 (by simp; omega)
  have fs := SB1.fr 1
  have RB1 := hide (RB.grown (w' := w1.setCell ⟨w.heap.size, 1, none⟩ (.int .i64 bk)) rb1 (grown_set (grown_refl _ _) 1 _) (by simp; omega))
  have G1 := hide (grown_new (grown_trans G0 g1) (p := ⟨w.heap.size, 1, none⟩) (Nat.le_refl _) (.int .i64 bk))
  have SB1' := hide (SB1.bucket bk)
  have dd1 := SB1.cells.2.1
  clear rb1 g1 G0 RB0 SB0 SB1
  go_wp2_with fail
  refine (readNumber_any R t A1 B1 _ vo deep _ (unhide RB1) hs (by omega)).mono ?_
  rintro e w2 ⟨rfl, rb2, g2⟩
  rw [(unhide Q).2.2.2.2.1, (unhide Q).2.2.2.2.2] at rb2
  rw [(unhide Q).2.2.2.1]
  have SB2 := (unhide SB1').grown g2 (by simp; omega)
  have hz2s : w.heap.size < w2.heap.size := cell_lt SB2
  obtain ⟨d0, d1, d2, d3, d4, d5, d6, d7, d8, d9, d10, d11⟩ := SB2.cells
  have fs2 := SB2.fr 2
  have c3 := rb2.c3
  have f3 := rb2.fr 3
  have hRw : R < w2.heap.size := cell_lt rb2
  have RBF := hide (RB.grown (w' := w2.setCell ⟨w.heap.size, 2, none⟩ (.int .i64 nn)) rb2 (grown_set (grown_refl _ _) 2 _) (by simp; omega))
  have GF := hide (grown_new (grown_trans (unhide G1) g2) (p := ⟨w.heap.size, 2, none⟩) (Nat.le_refl _) (.int .i64 nn))
  clear rb2 g2 G1 RB1 SB1' SB2 dd1 fs
  have HSf := hide (own_keepR (unhide HSo) (unhide GF))
  have HOf := hide (own_keepR (unhide HOo) (unhide GF))
  have hRf : R < (w2.setCell ⟨w.heap.size, 2, none⟩ (.int .i64 nn)).heap.size := cell_lt (unhide RBF)
  clear c1 f1
  go_wp2_with fail
  go_region_law (refine step_append_own rfl (.tmp 53) (.tmp 55) 39 rfl (R + 1) 63 i0 _ 12 40 Try.underlying39 hi hz0 hz1 hz2 rfl (by decide) (.slice sa ss.length scap) ss.length (flat ss) (by simp [Act.eval, Act.put]) (by exact World.ownsRow.alloc (World.ownsRow.drew (unhide HSf)) _) ⟨w2.heap.size, 0, none⟩ 1 1 (stC ⟨67, bk, nn, none8, 0⟩) (by simp [Act.eval, Act.put]) rfl (news_cells (by exact alloc_at (by simp [World.setCell, World.drew]) rfl)) (stC_one _) (by unfold maxLen; omega) (by omega) (by simp [World.setCell] at hRf ⊢; omega) ?_; intro v' w9 hown hgrow; have hR9 := RB.via (unhide RBF) hgrow (own_base (unhide HSo) (Nat.lt_succ_self _)) (by exact Go.heap_alloc_old _ _ hRf); have c3' := hR9.c3; have f3' := hR9.fr 3; obtain ⟨a2, cap2, rfl, hle2, _⟩ := own_slice hown)
  all_goals
    have hA := RA_append (unhide RBF) (unhide HSf) (unhide HOf) hown (grown_undrew hgrow)
    have HA := hide hA
    have HBf := hide (below_of_grown (B := R) (unhide GF) (by omega) (fun k hk => by simp at hk; omega))
    clear hA hown hgrow hR9 c3' f3' hi hz0 hz1 hz2
    go_wp2_with fail
    go_end0
    exact ⟨rfl, (unhide HA).1, (unhide HBf).trans (unhide HA).2⟩

set_option maxHeartbeats 4000000 in
theorem part_I (R : Nat) (t : ByteArray) (a : Nat) (bad : Bool) (ss : List St) (op : List Nat) (deep : Int) (w : World) (h : RA w R t a bad ss op deep) (hs : t.size ≤ 120) (ha : a ≤ 600) (hsl : ss.length ≤ 900) (hol : op.length ≤ 900) :
    Calls Try.prog 42 #[.pointer (some ⟨R, 0, none⟩), .int .u8 73] w fun e w' => e = .returned (.tuple #[]) ∧ RA w' R t (openA t (nmM t (takeA t (a + 1) bad 97 104) (takeB t (a + 1) bad 97 104) 4).a (nmM t (takeA t (a + 1) bad 97 104) (takeB t (a + 1) bad 97 104) 4).b) (openB t (nmM t (takeA t (a + 1) bad 97 104) (takeB t (a + 1) bad 97 104) 4).a (nmM t (takeA t (a + 1) bad 97 104) (takeB t (a + 1) bad 97 104) 4).b) (ss ++ [⟨73, takeV t (a + 1) bad 97 104 - 97, (nmM t (takeA t (a + 1) bad 97 104) (takeB t (a + 1) bad 97 104) 4).n, none8, 0⟩]) (openO t (nmM t (takeA t (a + 1) bad 97 104) (takeB t (a + 1) bad 97 104) 4).a (nmM t (takeA t (a + 1) bad 97 104) (takeB t (a + 1) bad 97 104) 4).b (ss.length + 1) op) (openD t (nmM t (takeA t (a + 1) bad 97 104) (takeB t (a + 1) bad 97 104) 4).a (nmM t (takeA t (a + 1) bad 97 104) (takeB t (a + 1) bad 97 104) 4).b op.length deep) ∧ Below R w w' := by
  have hab := takeA_bd t (a + 1) bad 97 104
  have hnb := nmM_bd t (takeA t (a + 1) bad 97 104) (takeB t (a + 1) bad 97 104) 4
  generalize q0 : takeV t (a + 1) bad 97 104 - 97 = bk at *
  generalize q1 : takeA t (a + 1) bad 97 104 = A1 at *
  generalize q2 : takeB t (a + 1) bad 97 104 = B1 at *
  generalize q3 : (nmM t A1 B1 4).n = nn at *
  generalize q4 : (nmM t A1 B1 4).a = A2 at *
  generalize q5 : (nmM t A1 B1 4).b = B2 at *
  have Q := hide (And.intro q0 ( And.intro q1 ( And.intro q2 ( And.intro q3 ( And.intro q4 ( q5))))))
  clear q0 q1 q2 q3 q4 q5
  have hab2 : A2 ≤ a + 10 := by omega
  clear hnb
  obtain ⟨vs, vo, hRB, hSo, hOo⟩ := h
  have hRlt : R < w.heap.size := cell_lt hRB
  obtain ⟨i0, hi, hz0, hz1, hz2⟩ := info_parts infoStep
  obtain ⟨sa, scap, rfl, hsc, hsa⟩ := own_slice hSo
  have c1 := hRB.c1
  have f1 := hRB.fr 1
  have HRB := hide hRB
  have HSo := hide hSo
  have HOo := hide hOo
  clear hRB hSo hOo hsa
  go_enter Try.func42, Try.ntmps42
  go_wp2_with fail
  refine (beginsStep_t 73 _ (by decide)).mono ?_
  rintro e w0 ⟨rfl, hw⟩
  have hw := hw.symm
  subst hw
  go_wp2_with fail
  have G0 : w.grownBy ((w.setCell ⟨R, 1, none⟩ (.int .i64 ((a : Int) + 1))).alloc (.cells #[.int .u8 73, .int .i64 0, .int .i64 0, .bool false, .bool false, .bool false, .bool false, .bool false, .bool false, .bool false, .bool false, .int .i64 0] 63)) (some R) :=
    grown_trans (grown_set (grown_refl _ _) 1 _) (World.grownBy_alloc _ _ _)
  have RB0 : RB ((w.setCell ⟨R, 1, none⟩ (.int .i64 ((a : Int) + 1))).alloc (.cells #[.int .u8 73, .int .i64 0, .int .i64 0, .bool false, .bool false, .bool false, .bool false, .bool false, .bool false, .bool false, .bool false, .int .i64 0] 63)) R t (a + 1) bad (.slice sa ss.length scap) vo deep :=
    RB.grown ((unhide HRB).s1 (a + 1)) (World.grownBy_alloc _ _ none) (by simp)
  have SB0 := sb_new (w.setCell ⟨R, 1, none⟩ (.int .i64 ((a : Int) + 1))) 73 w.heap.size (by simp [World.setCell])
  refine (readBucket_any R t (a + 1) bad _ vo deep _ RB0 hs (by omega)).mono ?_
  rintro e w1 ⟨rfl, rb1, g1⟩
  rw [(unhide Q).2.1, (unhide Q).2.2.1] at rb1
  rw [(unhide Q).1]
  have hz1s : w.heap.size < w1.heap.size := cell_lt (SB0.grown g1 (by simp; omega))
  have SB1 := SB0.grown g1 (by simp; omega)
  have fs := SB1.fr 1
  have RB1 := hide (RB.grown (w' := w1.setCell ⟨w.heap.size, 1, none⟩ (.int .i64 bk)) rb1 (grown_set (grown_refl _ _) 1 _) (by simp; omega))
  have G1 := hide (grown_new (grown_trans G0 g1) (p := ⟨w.heap.size, 1, none⟩) (Nat.le_refl _) (.int .i64 bk))
  have SB1' := hide (SB1.bucket bk)
  have dd1 := SB1.cells.2.1
  clear rb1 g1 G0 RB0 SB0 SB1
  go_wp2_with fail
  refine (readNumber_any R t A1 B1 _ vo deep _ (unhide RB1) hs (by omega)).mono ?_
  rintro e w2 ⟨rfl, rb2, g2⟩
  rw [(unhide Q).2.2.2.2.1, (unhide Q).2.2.2.2.2] at rb2
  rw [(unhide Q).2.2.2.1]
  have SB2 := (unhide SB1').grown g2 (by simp; omega)
  have hz2s : w.heap.size < w2.heap.size := cell_lt SB2
  obtain ⟨d0, d1, d2, d3, d4, d5, d6, d7, d8, d9, d10, d11⟩ := SB2.cells
  have fs2 := SB2.fr 2
  have c3 := rb2.c3
  have f3 := rb2.fr 3
  have hRw : R < w2.heap.size := cell_lt rb2
  have RBF := hide (RB.grown (w' := w2.setCell ⟨w.heap.size, 2, none⟩ (.int .i64 nn)) rb2 (grown_set (grown_refl _ _) 2 _) (by simp; omega))
  have GF := hide (grown_new (grown_trans (unhide G1) g2) (p := ⟨w.heap.size, 2, none⟩) (Nat.le_refl _) (.int .i64 nn))
  clear rb2 g2 G1 RB1 SB1' SB2 dd1 fs
  have HSf := hide (own_keepR (unhide HSo) (unhide GF))
  have HOf := hide (own_keepR (unhide HOo) (unhide GF))
  have hRf : R < (w2.setCell ⟨w.heap.size, 2, none⟩ (.int .i64 nn)).heap.size := cell_lt (unhide RBF)
  clear c1 f1
  go_wp2_with fail
  go_region_law (refine step_append_own rfl (.tmp 53) (.tmp 55) 39 rfl (R + 1) 63 i0 _ 12 40 Try.underlying39 hi hz0 hz1 hz2 rfl (by decide) (.slice sa ss.length scap) ss.length (flat ss) (by simp [Act.eval, Act.put]) (by exact World.ownsRow.alloc (World.ownsRow.drew (unhide HSf)) _) ⟨w2.heap.size, 0, none⟩ 1 1 (stC ⟨73, bk, nn, none8, 0⟩) (by simp [Act.eval, Act.put]) rfl (news_cells (by exact alloc_at (by simp [World.setCell, World.drew]) rfl)) (stC_one _) (by unfold maxLen; omega) (by omega) (by simp [World.setCell] at hRf ⊢; omega) ?_; intro v' w9 hown hgrow; have hR9 := RB.via (unhide RBF) hgrow (own_base (unhide HSo) (Nat.lt_succ_self _)) (by exact Go.heap_alloc_old _ _ hRf); have c3' := hR9.c3; have f3' := hR9.fr 3; obtain ⟨a2, cap2, rfl, hle2, _⟩ := own_slice hown)
  all_goals
    have hA := RA_append (unhide RBF) (unhide HSf) (unhide HOf) hown (grown_undrew hgrow)
    have HA := hide hA
    have HBf := hide (below_of_grown (B := R) (unhide GF) (by omega) (fun k hk => by simp at hk; omega))
    clear hA hown hgrow hR9 c3' f3' hi hz0 hz1 hz2
    go_wp2_with fail
    refine (openBlock_any R t A2 B2 _ op deep _ (unhide HA).1 hs (by omega) (by simp) (by simp; omega) (by omega)).mono ?_
    rintro e w10 ⟨rfl, h10, b10⟩
    have H10 := hide h10
    have B10 := hide b10
    clear h10 b10
    go_wp2_with fail
    go_end0
    refine ⟨rfl, ?_, (unhide HBf).trans ((unhide HA).2.trans (unhide B10))⟩
    have hl : (ss ++ [(⟨73, bk, nn, none8, 0⟩ : St)]).length = ss.length + 1 := by simp
    have h10 := unhide H10
    rw [hl] at h10
    exact h10

set_option maxHeartbeats 4000000 in
theorem part_H (R : Nat) (t : ByteArray) (a : Nat) (bad : Bool) (ss : List St) (op : List Nat) (deep : Int) (w : World) (h : RA w R t a bad ss op deep) (hs : t.size ≤ 120) (ha : a ≤ 600) (hsl : ss.length ≤ 900) (hol : op.length ≤ 900) :
    Calls Try.prog 42 #[.pointer (some ⟨R, 0, none⟩), .int .u8 72] w fun e w' => e = .returned (.tuple #[]) ∧ RA w' R t (openA t (hunM t (a + 1) bad).a (hunM t (a + 1) bad).b) (openB t (hunM t (a + 1) bad).a (hunM t (a + 1) bad).b) (ss ++ [⟨72, 0, (hunM t (a + 1) bad).n, none8, 0⟩]) (openO t (hunM t (a + 1) bad).a (hunM t (a + 1) bad).b (ss.length + 1) op) (openD t (hunM t (a + 1) bad).a (hunM t (a + 1) bad).b op.length deep) ∧ Below R w w' := by
  have hab : (hunM t (a + 1) bad).a ≤ a + 10 := by
    have h1 := takeA_bd t (a + 1) bad 48 57
    have h2 := takeA_bd t (takeA t (a + 1) bad 48 57) (takeB t (a + 1) bad 48 57) (hunLo t (a + 1) bad) 57
    simp only [hunM]
    omega
  generalize q0 : (hunM t (a + 1) bad).n = nn at *
  generalize q1 : (hunM t (a + 1) bad).a = A2 at *
  generalize q2 : (hunM t (a + 1) bad).b = B2 at *
  have Q := hide (And.intro q0 ( And.intro q1 ( q2)))
  clear q0 q1 q2
  obtain ⟨vs, vo, hRB, hSo, hOo⟩ := h
  have hRlt : R < w.heap.size := cell_lt hRB
  obtain ⟨i0, hi, hz0, hz1, hz2⟩ := info_parts infoStep
  obtain ⟨sa, scap, rfl, hsc, hsa⟩ := own_slice hSo
  have c1 := hRB.c1
  have f1 := hRB.fr 1
  have HRB := hide hRB
  have HSo := hide hSo
  have HOo := hide hOo
  clear hRB hSo hOo hsa
  go_enter Try.func42, Try.ntmps42
  go_wp2_with fail
  refine (beginsStep_t 72 _ (by decide)).mono ?_
  rintro e w0 ⟨rfl, hw⟩
  have hw := hw.symm
  subst hw
  go_wp2_with fail
  have G0 : w.grownBy ((w.setCell ⟨R, 1, none⟩ (.int .i64 ((a : Int) + 1))).alloc (.cells #[.int .u8 72, .int .i64 0, .int .i64 0, .bool false, .bool false, .bool false, .bool false, .bool false, .bool false, .bool false, .bool false, .int .i64 0] 63)) (some R) :=
    grown_trans (grown_set (grown_refl _ _) 1 _) (World.grownBy_alloc _ _ _)
  have RB0 : RB ((w.setCell ⟨R, 1, none⟩ (.int .i64 ((a : Int) + 1))).alloc (.cells #[.int .u8 72, .int .i64 0, .int .i64 0, .bool false, .bool false, .bool false, .bool false, .bool false, .bool false, .bool false, .bool false, .int .i64 0] 63)) R t (a + 1) bad (.slice sa ss.length scap) vo deep :=
    RB.grown ((unhide HRB).s1 (a + 1)) (World.grownBy_alloc _ _ none) (by simp)
  have SB0 := sb_new (w.setCell ⟨R, 1, none⟩ (.int .i64 ((a : Int) + 1))) 72 w.heap.size (by simp [World.setCell])
  refine (readHundredths_any R t (a + 1) bad _ vo deep _ RB0 hs (by omega)).mono ?_
  rintro e w2 ⟨rfl, rb2, g2⟩
  rw [(unhide Q).2.1, (unhide Q).2.2] at rb2
  rw [(unhide Q).1]
  have SB2 := SB0.grown g2 (by simp; omega)
  have hz2s : w.heap.size < w2.heap.size := cell_lt SB2
  obtain ⟨d0, d1, d2, d3, d4, d5, d6, d7, d8, d9, d10, d11⟩ := SB2.cells
  have fs2 := SB2.fr 2
  have c3 := rb2.c3
  have f3 := rb2.fr 3
  have hRw : R < w2.heap.size := cell_lt rb2
  have RBF := hide (RB.grown (w' := w2.setCell ⟨w.heap.size, 2, none⟩ (.int .i64 nn)) rb2 (grown_set (grown_refl _ _) 2 _) (by simp; omega))
  have GF := hide (grown_new (grown_trans G0 g2) (p := ⟨w.heap.size, 2, none⟩) (Nat.le_refl _) (.int .i64 nn))
  clear rb2 g2 G0 RB0 SB0 SB2
  have HSf := hide (own_keepR (unhide HSo) (unhide GF))
  have HOf := hide (own_keepR (unhide HOo) (unhide GF))
  have hRf : R < (w2.setCell ⟨w.heap.size, 2, none⟩ (.int .i64 nn)).heap.size := cell_lt (unhide RBF)
  clear c1 f1
  go_wp2_with fail
  go_region_law (refine step_append_own rfl (.tmp 53) (.tmp 55) 39 rfl (R + 1) 63 i0 _ 12 40 Try.underlying39 hi hz0 hz1 hz2 rfl (by decide) (.slice sa ss.length scap) ss.length (flat ss) (by simp [Act.eval, Act.put]) (by exact World.ownsRow.alloc (World.ownsRow.drew (unhide HSf)) _) ⟨w2.heap.size, 0, none⟩ 1 1 (stC ⟨72, 0, nn, none8, 0⟩) (by simp [Act.eval, Act.put]) rfl (news_cells (by exact alloc_at (by simp [World.setCell, World.drew]) rfl)) (stC_one _) (by unfold maxLen; omega) (by omega) (by simp [World.setCell] at hRf ⊢; omega) ?_; intro v' w9 hown hgrow; have hR9 := RB.via (unhide RBF) hgrow (own_base (unhide HSo) (Nat.lt_succ_self _)) (by exact Go.heap_alloc_old _ _ hRf); have c3' := hR9.c3; have f3' := hR9.fr 3; obtain ⟨a2, cap2, rfl, hle2, _⟩ := own_slice hown)
  all_goals
    have hA := RA_append (unhide RBF) (unhide HSf) (unhide HOf) hown (grown_undrew hgrow)
    have HA := hide hA
    have HBf := hide (below_of_grown (B := R) (unhide GF) (by omega) (fun k hk => by simp at hk; omega))
    clear hA hown hgrow hR9 c3' f3' hi hz0 hz1 hz2
    go_wp2_with fail
    refine (openBlock_any R t A2 B2 _ op deep _ (unhide HA).1 hs (by omega) (by simp) (by simp; omega) (by omega)).mono ?_
    rintro e w10 ⟨rfl, h10, b10⟩
    have H10 := hide h10
    have B10 := hide b10
    clear h10 b10
    go_wp2_with fail
    go_end0
    refine ⟨rfl, ?_, (unhide HBf).trans ((unhide HA).2.trans (unhide B10))⟩
    have hl : (ss ++ [(⟨72, 0, nn, none8, 0⟩ : St)]).length = ss.length + 1 := by simp
    have h10 := unhide H10
    rw [hl] at h10
    exact h10
end Go.Proofs.Ytbpolcnjojlkjab

/- split's readPart: R. -/
namespace Go.Proofs.Ytbpolcnjojlkjab
open Go.ChangeShapes Go.WideShapes Go.ChangeAt Go.RowKit
open Split (byt dig buc digM bucM riseB riseM risM headM byt_lt byt_ge dig_t dig_f buc_t buc_f numM St stE stJ none8)
set_option linter.unusedVariables false
set_option linter.unusedSimpArgs false
theorem SB.among8 {w : World} {S : Nat} {k b n l : Int} (h : SB w S ⟨k, b, n, none8, l⟩) (m0 m1 m2 m3 m4 m5 m6 m7 : Bool) : SB ((((((((w.setCell ⟨S, 3, none⟩ (.bool m0)).setCell ⟨S, 4, none⟩ (.bool m1)).setCell ⟨S, 5, none⟩ (.bool m2)).setCell ⟨S, 6, none⟩ (.bool m3)).setCell ⟨S, 7, none⟩ (.bool m4)).setCell ⟨S, 8, none⟩ (.bool m5)).setCell ⟨S, 9, none⟩ (.bool m6)).setCell ⟨S, 10, none⟩ (.bool m7)) S ⟨k, b, n, [m0, m1, m2, m3, m4, m5, m6, m7], l⟩ := by
  have e0 : stC ⟨k, b, n, none8, l⟩ = [.int .u8 k, .int .i64 b, .int .i64 n, .bool false, .bool false, .bool false, .bool false, .bool false, .bool false, .bool false, .bool false, .int .i64 l] := rfl
  have e1 : stC ⟨k, b, n, [m0, m1, m2, m3, m4, m5, m6, m7], l⟩ = [.int .u8 k, .int .i64 b, .int .i64 n, .bool m0, .bool m1, .bool m2, .bool m3, .bool m4, .bool m5, .bool m6, .bool m7, .int .i64 l] := rfl
  unfold SB at *
  rw [e0] at h
  rw [e1]
  have h0 := heap_setCell_same _ S 3 _ _ (.bool m0) h
  simp only [List.setIfInBounds_toArray, List.set_cons_succ, List.set_cons_zero] at h0
  have h1 := heap_setCell_same _ S 4 _ _ (.bool m1) h0
  simp only [List.setIfInBounds_toArray, List.set_cons_succ, List.set_cons_zero] at h1
  have h2 := heap_setCell_same _ S 5 _ _ (.bool m2) h1
  simp only [List.setIfInBounds_toArray, List.set_cons_succ, List.set_cons_zero] at h2
  have h3 := heap_setCell_same _ S 6 _ _ (.bool m3) h2
  simp only [List.setIfInBounds_toArray, List.set_cons_succ, List.set_cons_zero] at h3
  have h4 := heap_setCell_same _ S 7 _ _ (.bool m4) h3
  simp only [List.setIfInBounds_toArray, List.set_cons_succ, List.set_cons_zero] at h4
  have h5 := heap_setCell_same _ S 8 _ _ (.bool m5) h4
  simp only [List.setIfInBounds_toArray, List.set_cons_succ, List.set_cons_zero] at h5
  have h6 := heap_setCell_same _ S 9 _ _ (.bool m6) h5
  simp only [List.setIfInBounds_toArray, List.set_cons_succ, List.set_cons_zero] at h6
  have h7 := heap_setCell_same _ S 10 _ _ (.bool m7) h6
  simp only [List.setIfInBounds_toArray, List.set_cons_succ, List.set_cons_zero] at h7
  exact h7

set_option maxHeartbeats 4000000 in
theorem part_R (R : Nat) (t : ByteArray) (a : Nat) (bad : Bool) (ss : List St) (op : List Nat) (deep : Int) (w : World) (h : RA w R t a bad ss op deep) (hs : t.size ≤ 120) (ha : a ≤ 600) (hsl : ss.length ≤ 900) (hol : op.length ≤ 900) :
    Calls Try.prog 42 #[.pointer (some ⟨R, 0, none⟩), .int .u8 82] w fun e w' => e = .returned (.tuple #[]) ∧ RA w' R t (risR t (a + 1) bad).1 (risB t (a + 1) bad) (ss ++ [⟨82, 0, 0, (risR t (a + 1) bad).2, 0⟩]) op deep ∧ Below R w w' := by
  obtain ⟨vs, vo, hRB, hSo, hOo⟩ := h
  have hRlt : R < w.heap.size := cell_lt hRB
  obtain ⟨i0, hi, hz0, hz1, hz2⟩ := info_parts infoStep
  obtain ⟨sa, scap, rfl, hsc, hsa⟩ := own_slice hSo
  have c1 := hRB.c1
  have f1 := hRB.fr 1
  have HRB := hide hRB
  have HSo := hide hSo
  have HOo := hide hOo
  clear hRB hSo hOo hsa
  go_enter Try.func42, Try.ntmps42
  go_wp2_with fail
  refine (beginsStep_t 82 _ (by decide)).mono ?_
  rintro e w0 ⟨rfl, hw⟩
  have hw := hw.symm
  subst hw
  go_wp2_with fail
  have G0 : w.grownBy ((w.setCell ⟨R, 1, none⟩ (.int .i64 ((a : Int) + 1))).alloc (.cells #[.int .u8 82, .int .i64 0, .int .i64 0, .bool false, .bool false, .bool false, .bool false, .bool false, .bool false, .bool false, .bool false, .int .i64 0] 63)) (some R) :=
    grown_trans (grown_set (grown_refl _ _) 1 _) (World.grownBy_alloc _ _ _)
  have RB0 : RB ((w.setCell ⟨R, 1, none⟩ (.int .i64 ((a : Int) + 1))).alloc (.cells #[.int .u8 82, .int .i64 0, .int .i64 0, .bool false, .bool false, .bool false, .bool false, .bool false, .bool false, .bool false, .bool false, .int .i64 0] 63)) R t (a + 1) bad (.slice sa ss.length scap) vo deep :=
    RB.grown ((unhide HRB).s1 (a + 1)) (World.grownBy_alloc _ _ none) (by simp)
  have SB0 := sb_new (w.setCell ⟨R, 1, none⟩ (.int .i64 ((a : Int) + 1))) 82 w.heap.size (by simp [World.setCell])
  refine (readRising_any R t (a + 1) bad _ vo deep _ RB0 hs (by omega)).mono ?_
  rintro e w2 ⟨rfl, rb2, hlen, g2⟩
  obtain ⟨m0, m1, m2, m3, m4, m5, m6, m7, hm⟩ : ∃ m0 m1 m2 m3 m4 m5 m6 m7, (risR t (a + 1) bad).2 = [m0, m1, m2, m3, m4, m5, m6, m7] := by
    generalize (risR t (a + 1) bad).2 = m at hlen
    match m, hlen with
    | [m0, m1, m2, m3, m4, m5, m6, m7], _ => exact ⟨m0, m1, m2, m3, m4, m5, m6, m7, rfl⟩
  rw [hm]
  have HM := hide hm
  clear hm hlen
  have SB2 := SB0.grown g2 (by simp; omega)
  have hz2s : w.heap.size < w2.heap.size := cell_lt SB2
  obtain ⟨d0, d1, d2, d3, d4, d5, d6, d7, d8, d9, d10, d11⟩ := SB2.cells
  have fs3 := SB2.fr 3
  have fs4 := SB2.fr 4
  have fs5 := SB2.fr 5
  have fs6 := SB2.fr 6
  have fs7 := SB2.fr 7
  have fs8 := SB2.fr 8
  have fs9 := SB2.fr 9
  have fs10 := SB2.fr 10
  have c3 := rb2.c3
  have f3 := rb2.fr 3
  have hRw : R < w2.heap.size := cell_lt rb2
  have RBF := hide (RB.grown (w' := ((((((((w2.setCell ⟨w.heap.size, 3, none⟩ (.bool m0)).setCell ⟨w.heap.size, 4, none⟩ (.bool m1)).setCell ⟨w.heap.size, 5, none⟩ (.bool m2)).setCell ⟨w.heap.size, 6, none⟩ (.bool m3)).setCell ⟨w.heap.size, 7, none⟩ (.bool m4)).setCell ⟨w.heap.size, 8, none⟩ (.bool m5)).setCell ⟨w.heap.size, 9, none⟩ (.bool m6)).setCell ⟨w.heap.size, 10, none⟩ (.bool m7))) rb2 (grown_set (grown_set (grown_set (grown_set (grown_set (grown_set (grown_set (grown_set ((grown_refl _ _)) 3 _) 4 _) 5 _) 6 _) 7 _) 8 _) 9 _) 10 _) (by simp; omega))
  have GF := hide (grown_new (grown_new (grown_new (grown_new (grown_new (grown_new (grown_new (grown_new ((grown_trans G0 g2)) (p := ⟨w.heap.size, 3, none⟩) (Nat.le_refl _) (.bool m0)) (p := ⟨w.heap.size, 4, none⟩) (Nat.le_refl _) (.bool m1)) (p := ⟨w.heap.size, 5, none⟩) (Nat.le_refl _) (.bool m2)) (p := ⟨w.heap.size, 6, none⟩) (Nat.le_refl _) (.bool m3)) (p := ⟨w.heap.size, 7, none⟩) (Nat.le_refl _) (.bool m4)) (p := ⟨w.heap.size, 8, none⟩) (Nat.le_refl _) (.bool m5)) (p := ⟨w.heap.size, 9, none⟩) (Nat.le_refl _) (.bool m6)) (p := ⟨w.heap.size, 10, none⟩) (Nat.le_refl _) (.bool m7))
  have SBF := hide (SB2.among8 m0 m1 m2 m3 m4 m5 m6 m7)
  clear rb2 g2 G0 RB0 SB0 SB2
  go_wp2_with fail
  generalize ((((((((w2.setCell ⟨w.heap.size, 3, none⟩ (.bool m0)).setCell ⟨w.heap.size, 4, none⟩ (.bool m1)).setCell ⟨w.heap.size, 5, none⟩ (.bool m2)).setCell ⟨w.heap.size, 6, none⟩ (.bool m3)).setCell ⟨w.heap.size, 7, none⟩ (.bool m4)).setCell ⟨w.heap.size, 8, none⟩ (.bool m5)).setCell ⟨w.heap.size, 9, none⟩ (.bool m6)).setCell ⟨w.heap.size, 10, none⟩ (.bool m7)) = W9 at RBF GF SBF ⊢
  clear d0 d1 d2 d3 d4 d5 d6 d7 d8 d9 d10 d11 fs3 fs4 fs5 fs6 fs7 fs8 fs9 fs10 c3 f3 hRw hz2s
  obtain ⟨d0, d1, d2, d3, d4, d5, d6, d7, d8, d9, d10, d11⟩ := (unhide SBF).cells
  have c3 := (unhide RBF).c3
  have f3 := (unhide RBF).fr 3
  have HSf := hide (own_keepR (unhide HSo) (unhide GF))
  have HOf := hide (own_keepR (unhide HOo) (unhide GF))
  have hRf : R < (W9).heap.size := cell_lt (unhide RBF)
  clear c1 f1
  go_wp2_with fail
  go_region_law (refine step_append_own rfl (.tmp 53) (.tmp 55) 39 rfl (R + 1) 63 i0 _ 12 40 Try.underlying39 hi hz0 hz1 hz2 rfl (by decide) (.slice sa ss.length scap) ss.length (flat ss) (by simp [Act.eval, Act.put]) (by exact World.ownsRow.alloc (World.ownsRow.drew (unhide HSf)) _) ⟨W9.heap.size, 0, none⟩ 1 1 (stC ⟨82, 0, 0, [m0, m1, m2, m3, m4, m5, m6, m7], 0⟩) (by simp [Act.eval, Act.put]) rfl (news_cells (by exact alloc_at (by simp [World.setCell, World.drew]) rfl)) (stC_one _) (by unfold maxLen; omega) (by omega) (by simp [World.setCell] at hRf ⊢; omega) ?_; intro v' w9 hown hgrow; have hR9 := RB.via (unhide RBF) hgrow (own_base (unhide HSo) (Nat.lt_succ_self _)) (by exact Go.heap_alloc_old _ _ hRf); have c3' := hR9.c3; have f3' := hR9.fr 3; obtain ⟨a2, cap2, rfl, hle2, _⟩ := own_slice hown)
  all_goals
    have hA := RA_append (unhide RBF) (unhide HSf) (unhide HOf) hown (grown_undrew hgrow)
    have HA := hide hA
    have HBf := hide (below_of_grown (B := R) (unhide GF) (by omega) (fun k hk => by simp at hk; omega))
    clear hA hown hgrow hR9 c3' f3' hi hz0 hz1 hz2
    go_wp2_with fail
    go_end0
    rw [unhide HM]
    exact ⟨rfl, (unhide HA).1, (unhide HBf).trans (unhide HA).2⟩
end Go.Proofs.Ytbpolcnjojlkjab
