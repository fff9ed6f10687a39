/- Parsing: Part, PartR, RunM, ReadAll, Parse -/
import Derived.Test.YtmdjdpofpkgffabReaders
import Derived.Deep.LoopGhost

/- split's readPart. -/
namespace Go.Proofs.Ytmdjdpofpkgffab
open Go.ChangeShapes Go.WideShapes Go.ChangeAt Go.RowKit
open Split (byt dig buc digM bucM riseB riseM risM headM byt_lt byt_ge dig_t dig_f buc_t buc_f numM St stE stJ none8)
set_option linter.unusedVariables false
set_option linter.unusedSimpArgs false

/-- The step that readPart fills, in a block of its own. -/
def SB (w : World) (S : Nat) (s : St) : Prop := w.heap[S]? = some (.cells (stC s).toArray 110 (0, 0))
theorem SB.fr {w : World} {S : Nat} {s : St} (h : SB w S s) (j : Nat) : w.frozen? ⟨S, j, none⟩ = false := frozen_of_row w S j _ _ h
theorem SB.grown {w w' : World} {S : Nat} {s : St} {r : Option Nat} (h : SB w S s) (hg : w.grownBy w' r) (hr : some S ≠ r) : SB w' S s := (hg.block S (cell_lt h) hr).trans h
theorem SB.bucket {w : World} {S : Nat} {s : St} (h : SB w S s) (x : Int) : SB (w.setCell ⟨S, 1, none⟩ (.int .i64 x)) S { s with bucket := x } := by
  unfold SB; rw [heap_setCell_same w S 1 _ _ _ h]; rfl
theorem SB.amount {w : World} {S : Nat} {s : St} (h : SB w S s) (x : Int) : SB (w.setCell ⟨S, 2, none⟩ (.int .i64 x)) S { s with amount := x } := by
  unfold SB; rw [heap_setCell_same w S 2 _ _ _ h]; rfl
theorem SB.cells {w : World} {S : Nat} {k b n l : Int} {m0 m1 m2 m3 m4 m5 m6 m7 : Bool} (h : SB w S ⟨k, b, n, [m0, m1, m2, m3, m4, m5, m6, m7], l⟩) :
    w.cell? ⟨S, 0, none⟩ = some (.int .u8 k) ∧ w.cell? ⟨S, 1, none⟩ = some (.int .i64 b) ∧ w.cell? ⟨S, 2, none⟩ = some (.int .i64 n) ∧ w.cell? ⟨S, 3, none⟩ = some (.bool m0) ∧ w.cell? ⟨S, 4, none⟩ = some (.bool m1) ∧ w.cell? ⟨S, 5, none⟩ = some (.bool m2) ∧ w.cell? ⟨S, 6, none⟩ = some (.bool m3) ∧ w.cell? ⟨S, 7, none⟩ = some (.bool m4) ∧ w.cell? ⟨S, 8, none⟩ = some (.bool m5) ∧ w.cell? ⟨S, 9, none⟩ = some (.bool m6) ∧ w.cell? ⟨S, 10, none⟩ = some (.bool m7) ∧ w.cell? ⟨S, 11, none⟩ = some (.int .i64 l) := by
  unfold SB at h
  refine ⟨?_, ?_, ?_, ?_, ?_, ?_, ?_, ?_, ?_, ?_, ?_, ?_⟩ <;> (rw [cell_of_row w S _ _ _ _ h]; rfl)

theorem beginsStep_t (c : Int) (w : World) (h : c = 80 ∨ c = 67 ∨ c = 82 ∨ c = 72 ∨ c = 73) : Calls Try.prog 100 #[.int .u8 c] w fun e w' => e = .returned (.bool true) ∧ w' = w := by
  rcases h with rfl | rfl | rfl | rfl | rfl
  all_goals
    go_enter Try.func100, Try.ntmps100
    go_wp2
    go_ret
    exact ⟨rfl, rfl⟩
theorem beginsStep_f (c : Int) (w : World) (h : c ≠ 80 ∧ c ≠ 67 ∧ c ≠ 82 ∧ c ≠ 72 ∧ c ≠ 73) : Calls Try.prog 100 #[.int .u8 c] w fun e w' => e = .returned (.bool false) ∧ w' = w := by
  obtain ⟨h1, h2, h3, h4, h5⟩ := h
  have k1 : (c == 80) = false := beq_eq_false_iff_ne.2 h1
  have k2 : (c == 67) = false := beq_eq_false_iff_ne.2 h2
  have k3 : (c == 82) = false := beq_eq_false_iff_ne.2 h3
  have k4 : (c == 72) = false := beq_eq_false_iff_ne.2 h4
  have k5 : (c == 73) = false := beq_eq_false_iff_ne.2 h5
  clear h1 h2 h3 h4 h5
  go_enter Try.func100, Try.ntmps100
  go_wp2
  go_ret
  exact ⟨rfl, rfl⟩

/-- A block's end: closeBlock does it. -/
theorem part_close (R : Nat) (w : World) (Post : World → Prop) (hc : Calls Try.prog 99 #[.pointer (some ⟨R, 0, none⟩)] w fun e w' => e = .returned (.tuple #[]) ∧ Post w') :
    Calls Try.prog 82 #[.pointer (some ⟨R, 0, none⟩), .int .u8 41] w fun e w' => e = .returned (.tuple #[]) ∧ Post w' := by
  have HC := hide hc
  clear hc
  go_enter Try.func82, Try.ntmps82
  go_wp2_with fail
  refine (unhide HC).mono ?_
  rintro e w1 ⟨rfl, h1⟩
  have H1 := hide h1
  clear h1
  go_wp2_with fail
  refine bodyPost_ret (v := .tuple #[]) (by simp [results, Try.results82, go_sem]) rfl ?_
  exact ⟨rfl, unhide H1⟩

/-- A byte that begins no step. -/
theorem part_bad (R : Nat) (t : ByteArray) (a : Nat) (bad : Bool) (ss : List St) (op : List Nat) (deep c : Int) (w : World) (h : RA w R t a bad ss op deep) (h41 : c ≠ 41) (hc : c ≠ 80 ∧ c ≠ 67 ∧ c ≠ 82 ∧ c ≠ 72 ∧ c ≠ 73) :
    Calls Try.prog 82 #[.pointer (some ⟨R, 0, none⟩), .int .u8 c] w fun e w' => e = .returned (.tuple #[]) ∧ RA w' R t a true ss op deep ∧ Below R w w' := by
  obtain ⟨vs, vo, hRB, hSo, hOo⟩ := h
  have hRlt : R < w.heap.size := cell_lt hRB
  have k1 : (c == 41) = false := beq_eq_false_iff_ne.2 h41
  have c2 := hRB.c2
  have f2 := hRB.fr 2
  have HRB := hide hRB
  have HSo := hide hSo
  have HOo := hide hOo
  have HC := hide hc
  clear hRB hSo hOo h41 hc
  go_enter Try.func82, Try.ntmps82
  go_wp2_with fail
  refine (beginsStep_f c _ (unhide HC)).mono ?_
  rintro e w1 ⟨rfl, hw⟩
  have hw := hw.symm
  subst hw
  go_wp2_with fail
  refine bodyPost_ret (v := .tuple #[]) (by simp [results, Try.results82, go_sem]) rfl ?_
  exact ⟨rfl, ⟨vs, vo, (unhide HRB).s2 true, own_keepR (unhide HSo) (grown_set (grown_refl _ _) 2 _), own_keepR (unhide HOo) (grown_set (grown_refl _ _) 2 _)⟩, (Below.refl _ _).setCell (p := ⟨R, 2, none⟩) (Nat.le_refl _) _⟩

theorem sb_new (W : World) (c : Int) (n : Nat) (h : W.heap.size = n) : SB (W.alloc (.cells #[.int .u8 c, .int .i64 0, .int .i64 0, .bool false, .bool false, .bool false, .bool false, .bool false, .bool false, .bool false, .bool false, .int .i64 0] 110)) n ⟨c, 0, 0, none8, 0⟩ :=
  alloc_at h rfl

set_option maxHeartbeats 4000000 in
theorem part_P (R : Nat) (t : ByteArray) (a : Nat) (bad : Bool) (ss : List St) (op : List Nat) (deep : Int) (w : World) (h : RA w R t a bad ss op deep) (hs : t.size ≤ 120) (ha : a ≤ 600) (hsl : ss.length ≤ 900) (hol : op.length ≤ 900) :
    Calls Try.prog 82 #[.pointer (some ⟨R, 0, none⟩), .int .u8 80] w fun e w' => e = .returned (.tuple #[]) ∧ RA w' R t (takeA t (a + 1) bad 97 104) (takeB t (a + 1) bad 97 104) (ss ++ [⟨80, takeV t (a + 1) bad 97 104 - 97, 0, none8, 0⟩]) op deep ∧ Below R w w' := by
  have hab := takeA_bd t (a + 1) bad 97 104
  generalize q0 : takeV t (a + 1) bad 97 104 - 97 = bk at *
  generalize q1 : takeA t (a + 1) bad 97 104 = A1 at *
  generalize q2 : takeB t (a + 1) bad 97 104 = B1 at *
  have Q := hide (And.intro q0 ( And.intro q1 ( q2)))
  clear q0 q1 q2
  obtain ⟨vs, vo, hRB, hSo, hOo⟩ := h
  have hRlt : R < w.heap.size := cell_lt hRB
  obtain ⟨i0, hi, hz0, hz1, hz2⟩ := info_parts infoStep
  obtain ⟨sa, scap, rfl, hsc, hsa⟩ := own_slice hSo
  have c1 := hRB.c1
  have f1 := hRB.fr 1
  have HRB := hide hRB
  have HSo := hide hSo
  have HOo := hide hOo
  clear hRB hSo hOo hsa
  go_enter Try.func82, Try.ntmps82
  go_wp2_with fail
  refine (beginsStep_t 80 _ (by decide)).mono ?_
  rintro e w0 ⟨rfl, hw⟩
  have hw := hw.symm
  subst hw
  go_wp2_with fail
  have G0 : w.grownBy ((w.setCell ⟨R, 1, none⟩ (.int .i64 ((a : Int) + 1))).alloc (.cells #[.int .u8 80, .int .i64 0, .int .i64 0, .bool false, .bool false, .bool false, .bool false, .bool false, .bool false, .bool false, .bool false, .int .i64 0] 110)) (some R) :=
    grown_trans (grown_set (grown_refl _ _) 1 _) (World.grownBy_alloc _ _ _)
  have RB0 : RB ((w.setCell ⟨R, 1, none⟩ (.int .i64 ((a : Int) + 1))).alloc (.cells #[.int .u8 80, .int .i64 0, .int .i64 0, .bool false, .bool false, .bool false, .bool false, .bool false, .bool false, .bool false, .bool false, .int .i64 0] 110)) R t (a + 1) bad (.slice sa ss.length scap) vo deep :=
    RB.grown ((unhide HRB).s1 (a + 1)) (World.grownBy_alloc _ _ none) (by simp)
  have SB0 := sb_new (w.setCell ⟨R, 1, none⟩ (.int .i64 ((a : Int) + 1))) 80 w.heap.size (by simp [World.setCell])
  refine (readBucket_any R t (a + 1) bad _ vo deep _ RB0 hs (by omega)).mono ?_
  rintro e w1 ⟨rfl, rb1, g1⟩
  rw [(unhide Q).2.1, (unhide Q).2.2] at rb1
  rw [(unhide Q).1]
  have hz1s : w.heap.size < w1.heap.size := cell_lt (SB0.grown g1 (by simp; omega))
  have SB1 := SB0.grown g1 (by simp; omega)
  have fs := SB1.fr 1
  obtain ⟨d0, d1, d2, d3, d4, d5, d6, d7, d8, d9, d10, d11⟩ := SB1.cells
  have c3 := rb1.c3
  have f3 := rb1.fr 3
  have hRw : R < w1.heap.size := cell_lt rb1
  have RBF := hide (RB.grown (w' := w1.setCell ⟨w.heap.size, 1, none⟩ (.int .i64 bk)) rb1 (grown_set (grown_refl _ _) 1 _) (by simp; omega))
  have GF := hide (grown_new (grown_trans G0 g1) (p := ⟨w.heap.size, 1, none⟩) (Nat.le_refl _) (.int .i64 bk))
  clear rb1 g1 G0 RB0 SB0 SB1
  have HSf := hide (own_keepR (unhide HSo) (unhide GF))
  have HOf := hide (own_keepR (unhide HOo) (unhide GF))
  have hRf : R < (w1.setCell ⟨w.heap.size, 1, none⟩ (.int .i64 bk)).heap.size := cell_lt (unhide RBF)
  clear c1 f1
  go_wp2_with fail
  go_region_law (refine step_append_own rfl (.tmp 53) (.tmp 55) 63 rfl (R + 1) 110 i0 _ 12 40 Try.underlying63 hi hz0 hz1 hz2 rfl (by decide) (.slice sa ss.length scap) ss.length (flat ss) (by simp [Act.eval, Act.put]) (by exact World.ownsRow.alloc (World.ownsRow.drew (unhide HSf)) _) ⟨w1.heap.size, 0, none⟩ 1 1 (stC ⟨80, bk, 0, none8, 0⟩) (by simp [Act.eval, Act.put]) rfl (news_cells (by exact alloc_at (by simp [World.setCell, World.drew]) rfl)) (stC_one _) (by unfold maxLen; omega) (by omega) (by simp [World.setCell] at hRf ⊢; omega) ?_; intro v' w9 hown hgrow; have hR9 := RB.via (unhide RBF) hgrow (own_base (unhide HSo) (Nat.lt_succ_self _)) (by exact Go.heap_alloc_old _ _ hRf); have c3' := hR9.c3; have f3' := hR9.fr 3; obtain ⟨a2, cap2, rfl, hle2, _⟩ := own_slice hown)
  all_goals
    have hA := RA_append (unhide RBF) (unhide HSf) (unhide HOf) hown (grown_undrew hgrow)
    have HA := hide hA
    have HBf := hide (below_of_grown (B := R) (unhide GF) (by omega) (fun k hk => by simp at hk; omega))
    clear hA hown hgrow hR9 c3' f3' hi hz0 hz1 hz2
    go_wp2_with fail
    go_end0
    exact ⟨rfl, (unhide HA).1, (unhide HBf).trans (unhide HA).2⟩

set_option maxHeartbeats 4000000 in
theorem part_C (R : Nat) (t : ByteArray) (a : Nat) (bad : Bool) (ss : List St) (op : List Nat) (deep : Int) (w : World) (h : RA w R t a bad ss op deep) (hs : t.size ≤ 120) (ha : a ≤ 600) (hsl : ss.length ≤ 900) (hol : op.length ≤ 900) :
    Calls Try.prog 82 #[.pointer (some ⟨R, 0, none⟩), .int .u8 67] w fun e w' => e = .returned (.tuple #[]) ∧ RA w' R t (nmM t (takeA t (a + 1) bad 97 104) (takeB t (a + 1) bad 97 104) 4).a (nmM t (takeA t (a + 1) bad 97 104) (takeB t (a + 1) bad 97 104) 4).b (ss ++ [⟨67, takeV t (a + 1) bad 97 104 - 97, (nmM t (takeA t (a + 1) bad 97 104) (takeB t (a + 1) bad 97 104) 4).n, none8, 0⟩]) op deep ∧ Below R w w' := by
  have hab := takeA_bd t (a + 1) bad 97 104
  have hnb := nmM_bd t (takeA t (a + 1) bad 97 104) (takeB t (a + 1) bad 97 104) 4
  generalize q0 : takeV t (a + 1) bad 97 104 - 97 = bk at *
  generalize q1 : takeA t (a + 1) bad 97 104 = A1 at *
  generalize q2 : takeB t (a + 1) bad 97 104 = B1 at *
  generalize q3 : (nmM t A1 B1 4).n = nn at *
  generalize q4 : (nmM t A1 B1 4).a = A2 at *
  generalize q5 : (nmM t A1 B1 4).b = B2 at *
  have Q := hide (And.intro q0 ( And.intro q1 ( And.intro q2 ( And.intro q3 ( And.intro q4 ( q5))))))
  clear q0 q1 q2 q3 q4 q5
  have hab2 : A2 ≤ a + 10 := by omega
  clear hnb
  obtain ⟨vs, vo, hRB, hSo, hOo⟩ := h
  have hRlt : R < w.heap.size := cell_lt hRB
  obtain ⟨i0, hi, hz0, hz1, hz2⟩ := info_parts infoStep
  obtain ⟨sa, scap, rfl, hsc, hsa⟩ := own_slice hSo
  have c1 := hRB.c1
  have f1 := hRB.fr 1
  have HRB := hide hRB
  have HSo := hide hSo
  have HOo := hide hOo
  clear hRB hSo hOo hsa
  go_enter Try.func82, Try.ntmps82
  go_wp2_with fail
  refine (beginsStep_t 67 _ (by decide)).mono ?_
  rintro e w0 ⟨rfl, hw⟩
  have hw := hw.symm
  subst hw
  go_wp2_with fail
  have G0 : w.grownBy ((w.setCell ⟨R, 1, none⟩ (.int .i64 ((a : Int) + 1))).alloc (.cells #[.int .u8 67, .int .i64 0, .int .i64 0, .bool false, .bool false, .bool false, .bool false, .bool false, .bool false, .bool false, .bool false, .int .i64 0] 110)) (some R) :=
    grown_trans (grown_set (grown_refl _ _) 1 _) (World.grownBy_alloc _ _ _)
  have RB0 : RB ((w.setCell ⟨R, 1, none⟩ (.int .i64 ((a : Int) + 1))).alloc (.cells #[.int .u8 67, .int .i64 0, .int .i64 0, .bool false, .bool false, .bool false, .bool false, .bool false, .bool false, .bool false, .bool false, .int .i64 0] 110)) R t (a + 1) bad (.slice sa ss.length scap) vo deep :=
    RB.grown ((unhide HRB).s1 (a + 1)) (World.grownBy_alloc _ _ none) (by simp)
  have SB0 := sb_new (w.setCell ⟨R, 1, none⟩ (.int .i64 ((a : Int) + 1))) 67 w.heap.size (by simp [World.setCell])
  refine (readBucket_any R t (a + 1) bad _ vo deep _ RB0 hs (by omega)).mono ?_
  rintro e w1 ⟨rfl, rb1, g1⟩
  rw [(unhide Q).2.1, (unhide Q).2.2.1] at rb1
  rw [(unhide Q).1]
  have hz1s : w.heap.size < w1.heap.size := cell_lt (SB0.grown g1 (by simp; omega))
  have SB1 := SB0.grown g1 (by simp; omega)
  have fs := SB1.fr 1
  have RB1 := hide (RB.grown (w' := w1.setCell ⟨w.heap.size, 1, none⟩ (.int .i64 bk)) rb1 (grown_set (grown_refl _ _) 1 _) (by simp; omega))
  have G1 := hide (grown_new (grown_trans G0 g1) (p := ⟨w.heap.size, 1, none⟩) (Nat.le_refl _) (.int .i64 bk))
  have SB1' := hide (SB1.bucket bk)
  have dd1 := SB1.cells.2.1
  clear rb1 g1 G0 RB0 SB0 SB1
  go_wp2_with fail
  refine (readNumber_any R t A1 B1 _ vo deep _ (unhide RB1) hs (by omega)).mono ?_
  rintro e w2 ⟨rfl, rb2, g2⟩
  rw [(unhide Q).2.2.2.2.1, (unhide Q).2.2.2.2.2] at rb2
  rw [(unhide Q).2.2.2.1]
  have SB2 := (unhide SB1').grown g2 (by simp; omega)
  have hz2s : w.heap.size < w2.heap.size := cell_lt SB2
  obtain ⟨d0, d1, d2, d3, d4, d5, d6, d7, d8, d9, d10, d11⟩ := SB2.cells
  have fs2 := SB2.fr 2
  have c3 := rb2.c3
  have f3 := rb2.fr 3
  have hRw : R < w2.heap.size := cell_lt rb2
  have RBF := hide (RB.grown (w' := w2.setCell ⟨w.heap.size, 2, none⟩ (.int .i64 nn)) rb2 (grown_set (grown_refl _ _) 2 _) (by simp; omega))
  have GF := hide (grown_new (grown_trans (unhide G1) g2) (p := ⟨w.heap.size, 2, none⟩) (Nat.le_refl _) (.int .i64 nn))
  clear rb2 g2 G1 RB1 SB1' SB2 dd1 fs
  have HSf := hide (own_keepR (unhide HSo) (unhide GF))
  have HOf := hide (own_keepR (unhide HOo) (unhide GF))
  have hRf : R < (w2.setCell ⟨w.heap.size, 2, none⟩ (.int .i64 nn)).heap.size := cell_lt (unhide RBF)
  clear c1 f1
  go_wp2_with fail
  go_region_law (refine step_append_own rfl (.tmp 53) (.tmp 55) 63 rfl (R + 1) 110 i0 _ 12 40 Try.underlying63 hi hz0 hz1 hz2 rfl (by decide) (.slice sa ss.length scap) ss.length (flat ss) (by simp [Act.eval, Act.put]) (by exact World.ownsRow.alloc (World.ownsRow.drew (unhide HSf)) _) ⟨w2.heap.size, 0, none⟩ 1 1 (stC ⟨67, bk, nn, none8, 0⟩) (by simp [Act.eval, Act.put]) rfl (news_cells (by exact alloc_at (by simp [World.setCell, World.drew]) rfl)) (stC_one _) (by unfold maxLen; omega) (by omega) (by simp [World.setCell] at hRf ⊢; omega) ?_; intro v' w9 hown hgrow; have hR9 := RB.via (unhide RBF) hgrow (own_base (unhide HSo) (Nat.lt_succ_self _)) (by exact Go.heap_alloc_old _ _ hRf); have c3' := hR9.c3; have f3' := hR9.fr 3; obtain ⟨a2, cap2, rfl, hle2, _⟩ := own_slice hown)
  all_goals
    have hA := RA_append (unhide RBF) (unhide HSf) (unhide HOf) hown (grown_undrew hgrow)
    have HA := hide hA
    have HBf := hide (below_of_grown (B := R) (unhide GF) (by omega) (fun k hk => by simp at hk; omega))
    clear hA hown hgrow hR9 c3' f3' hi hz0 hz1 hz2
    go_wp2_with fail
    go_end0
    exact ⟨rfl, (unhide HA).1, (unhide HBf).trans (unhide HA).2⟩

set_option maxHeartbeats 4000000 in
theorem part_I (R : Nat) (t : ByteArray) (a : Nat) (bad : Bool) (ss : List St) (op : List Nat) (deep : Int) (w : World) (h : RA w R t a bad ss op deep) (hs : t.size ≤ 120) (ha : a ≤ 600) (hsl : ss.length ≤ 900) (hol : op.length ≤ 900) :
    Calls Try.prog 82 #[.pointer (some ⟨R, 0, none⟩), .int .u8 73] w fun e w' => e = .returned (.tuple #[]) ∧ RA w' R t (openA t (nmM t (takeA t (a + 1) bad 97 104) (takeB t (a + 1) bad 97 104) 4).a (nmM t (takeA t (a + 1) bad 97 104) (takeB t (a + 1) bad 97 104) 4).b) (openB t (nmM t (takeA t (a + 1) bad 97 104) (takeB t (a + 1) bad 97 104) 4).a (nmM t (takeA t (a + 1) bad 97 104) (takeB t (a + 1) bad 97 104) 4).b) (ss ++ [⟨73, takeV t (a + 1) bad 97 104 - 97, (nmM t (takeA t (a + 1) bad 97 104) (takeB t (a + 1) bad 97 104) 4).n, none8, 0⟩]) (openO t (nmM t (takeA t (a + 1) bad 97 104) (takeB t (a + 1) bad 97 104) 4).a (nmM t (takeA t (a + 1) bad 97 104) (takeB t (a + 1) bad 97 104) 4).b (ss.length + 1) op) (openD t (nmM t (takeA t (a + 1) bad 97 104) (takeB t (a + 1) bad 97 104) 4).a (nmM t (takeA t (a + 1) bad 97 104) (takeB t (a + 1) bad 97 104) 4).b op.length deep) ∧ Below R w w' := by
  have hab := takeA_bd t (a + 1) bad 97 104
  have hnb := nmM_bd t (takeA t (a + 1) bad 97 104) (takeB t (a + 1) bad 97 104) 4
  generalize q0 : takeV t (a + 1) bad 97 104 - 97 = bk at *
  generalize q1 : takeA t (a + 1) bad 97 104 = A1 at *
  generalize q2 : takeB t (a + 1) bad 97 104 = B1 at *
  generalize q3 : (nmM t A1 B1 4).n = nn at *
  generalize q4 : (nmM t A1 B1 4).a = A2 at *
  generalize q5 : (nmM t A1 B1 4).b = B2 at *
  have Q := hide (And.intro q0 ( And.intro q1 ( And.intro q2 ( And.intro q3 ( And.intro q4 ( q5))))))
  clear q0 q1 q2 q3 q4 q5
  have hab2 : A2 ≤ a + 10 := by omega
  clear hnb
  obtain ⟨vs, vo, hRB, hSo, hOo⟩ := h
  have hRlt : R < w.heap.size := cell_lt hRB
  obtain ⟨i0, hi, hz0, hz1, hz2⟩ := info_parts infoStep
  obtain ⟨sa, scap, rfl, hsc, hsa⟩ := own_slice hSo
  have c1 := hRB.c1
  have f1 := hRB.fr 1
  have HRB := hide hRB
  have HSo := hide hSo
  have HOo := hide hOo
  clear hRB hSo hOo hsa
  go_enter Try.func82, Try.ntmps82
  go_wp2_with fail
  refine (beginsStep_t 73 _ (by decide)).mono ?_
  rintro e w0 ⟨rfl, hw⟩
  have hw := hw.symm
  subst hw
  go_wp2_with fail
  have G0 : w.grownBy ((w.setCell ⟨R, 1, none⟩ (.int .i64 ((a : Int) + 1))).alloc (.cells #[.int .u8 73, .int .i64 0, .int .i64 0, .bool false, .bool false, .bool false, .bool false, .bool false, .bool false, .bool false, .bool false, .int .i64 0] 110)) (some R) :=
    grown_trans (grown_set (grown_refl _ _) 1 _) (World.grownBy_alloc _ _ _)
  have RB0 : RB ((w.setCell ⟨R, 1, none⟩ (.int .i64 ((a : Int) + 1))).alloc (.cells #[.int .u8 73, .int .i64 0, .int .i64 0, .bool false, .bool false, .bool false, .bool false, .bool false, .bool false, .bool false, .bool false, .int .i64 0] 110)) R t (a + 1) bad (.slice sa ss.length scap) vo deep :=
    RB.grown ((unhide HRB).s1 (a + 1)) (World.grownBy_alloc _ _ none) (by simp)
  have SB0 := sb_new (w.setCell ⟨R, 1, none⟩ (.int .i64 ((a : Int) + 1))) 73 w.heap.size (by simp [World.setCell])
  refine (readBucket_any R t (a + 1) bad _ vo deep _ RB0 hs (by omega)).mono ?_
  rintro e w1 ⟨rfl, rb1, g1⟩
  rw [(unhide Q).2.1, (unhide Q).2.2.1] at rb1
  rw [(unhide Q).1]
  have hz1s : w.heap.size < w1.heap.size := cell_lt (SB0.grown g1 (by simp; omega))
  have SB1 := SB0.grown g1 (by simp; omega)
  have fs := SB1.fr 1
  have RB1 := hide (RB.grown (w' := w1.setCell ⟨w.heap.size, 1, none⟩ (.int .i64 bk)) rb1 (grown_set (grown_refl _ _) 1 _) (by simp; omega))
  have G1 := hide (grown_new (grown_trans G0 g1) (p := ⟨w.heap.size, 1, none⟩) (Nat.le_refl _) (.int .i64 bk))
  have SB1' := hide (SB1.bucket bk)
  have dd1 := SB1.cells.2.1
  clear rb1 g1 G0 RB0 SB0 SB1
  go_wp2_with fail
  refine (readNumber_any R t A1 B1 _ vo deep _ (unhide RB1) hs (by omega)).mono ?_
  rintro e w2 ⟨rfl, rb2, g2⟩
  rw [(unhide Q).2.2.2.2.1, (unhide Q).2.2.2.2.2] at rb2
  rw [(unhide Q).2.2.2.1]
  have SB2 := (unhide SB1').grown g2 (by simp; omega)
  have hz2s : w.heap.size < w2.heap.size := cell_lt SB2
  obtain ⟨d0, d1, d2, d3, d4, d5, d6, d7, d8, d9, d10, d11⟩ := SB2.cells
  have fs2 := SB2.fr 2
  have c3 := rb2.c3
  have f3 := rb2.fr 3
  have hRw : R < w2.heap.size := cell_lt rb2
  have RBF := hide (RB.grown (w' := w2.setCell ⟨w.heap.size, 2, none⟩ (.int .i64 nn)) rb2 (grown_set (grown_refl _ _) 2 _) (by simp; omega))
  have GF := hide (grown_new (grown_trans (unhide G1) g2) (p := ⟨w.heap.size, 2, none⟩) (Nat.le_refl _) (.int .i64 nn))
  clear rb2 g2 G1 RB1 SB1' SB2 dd1 fs
  have HSf := hide (own_keepR (unhide HSo) (unhide GF))
  have HOf := hide (own_keepR (unhide HOo) (unhide GF))
  have hRf : R < (w2.setCell ⟨w.heap.size, 2, none⟩ (.int .i64 nn)).heap.size := cell_lt (unhide RBF)
  clear c1 f1
  go_wp2_with fail
  go_region_law (refine step_append_own rfl (.tmp 53) (.tmp 55) 63 rfl (R + 1) 110 i0 _ 12 40 Try.underlying63 hi hz0 hz1 hz2 rfl (by decide) (.slice sa ss.length scap) ss.length (flat ss) (by simp [Act.eval, Act.put]) (by exact World.ownsRow.alloc (World.ownsRow.drew (unhide HSf)) _) ⟨w2.heap.size, 0, none⟩ 1 1 (stC ⟨73, bk, nn, none8, 0⟩) (by simp [Act.eval, Act.put]) rfl (news_cells (by exact alloc_at (by simp [World.setCell, World.drew]) rfl)) (stC_one _) (by unfold maxLen; omega) (by omega) (by simp [World.setCell] at hRf ⊢; omega) ?_; intro v' w9 hown hgrow; have hR9 := RB.via (unhide RBF) hgrow (own_base (unhide HSo) (Nat.lt_succ_self _)) (by exact Go.heap_alloc_old _ _ hRf); have c3' := hR9.c3; have f3' := hR9.fr 3; obtain ⟨a2, cap2, rfl, hle2, _⟩ := own_slice hown)
  all_goals
    have hA := RA_append (unhide RBF) (unhide HSf) (unhide HOf) hown (grown_undrew hgrow)
    have HA := hide hA
    have HBf := hide (below_of_grown (B := R) (unhide GF) (by omega) (fun k hk => by simp at hk; omega))
    clear hA hown hgrow hR9 c3' f3' hi hz0 hz1 hz2
    go_wp2_with fail
    refine (openBlock_any R t A2 B2 _ op deep _ (unhide HA).1 hs (by omega) (by simp) (by simp; omega) (by omega)).mono ?_
    rintro e w10 ⟨rfl, h10, b10⟩
    have H10 := hide h10
    have B10 := hide b10
    clear h10 b10
    go_wp2_with fail
    go_end0
    refine ⟨rfl, ?_, (unhide HBf).trans ((unhide HA).2.trans (unhide B10))⟩
    have hl : (ss ++ [(⟨73, bk, nn, none8, 0⟩ : St)]).length = ss.length + 1 := by simp
    have h10 := unhide H10
    rw [hl] at h10
    exact h10

set_option maxHeartbeats 4000000 in
theorem part_H (R : Nat) (t : ByteArray) (a : Nat) (bad : Bool) (ss : List St) (op : List Nat) (deep : Int) (w : World) (h : RA w R t a bad ss op deep) (hs : t.size ≤ 120) (ha : a ≤ 600) (hsl : ss.length ≤ 900) (hol : op.length ≤ 900) :
    Calls Try.prog 82 #[.pointer (some ⟨R, 0, none⟩), .int .u8 72] w fun e w' => e = .returned (.tuple #[]) ∧ RA w' R t (openA t (hunM t (a + 1) bad).a (hunM t (a + 1) bad).b) (openB t (hunM t (a + 1) bad).a (hunM t (a + 1) bad).b) (ss ++ [⟨72, 0, (hunM t (a + 1) bad).n, none8, 0⟩]) (openO t (hunM t (a + 1) bad).a (hunM t (a + 1) bad).b (ss.length + 1) op) (openD t (hunM t (a + 1) bad).a (hunM t (a + 1) bad).b op.length deep) ∧ Below R w w' := by
  have hab : (hunM t (a + 1) bad).a ≤ a + 10 := by
    have h1 := takeA_bd t (a + 1) bad 48 57
    have h2 := takeA_bd t (takeA t (a + 1) bad 48 57) (takeB t (a + 1) bad 48 57) (hunLo t (a + 1) bad) 57
    simp only [hunM]
    omega
  generalize q0 : (hunM t (a + 1) bad).n = nn at *
  generalize q1 : (hunM t (a + 1) bad).a = A2 at *
  generalize q2 : (hunM t (a + 1) bad).b = B2 at *
  have Q := hide (And.intro q0 ( And.intro q1 ( q2)))
  clear q0 q1 q2
  obtain ⟨vs, vo, hRB, hSo, hOo⟩ := h
  have hRlt : R < w.heap.size := cell_lt hRB
  obtain ⟨i0, hi, hz0, hz1, hz2⟩ := info_parts infoStep
  obtain ⟨sa, scap, rfl, hsc, hsa⟩ := own_slice hSo
  have c1 := hRB.c1
  have f1 := hRB.fr 1
  have HRB := hide hRB
  have HSo := hide hSo
  have HOo := hide hOo
  clear hRB hSo hOo hsa
  go_enter Try.func82, Try.ntmps82
  go_wp2_with fail
  refine (beginsStep_t 72 _ (by decide)).mono ?_
  rintro e w0 ⟨rfl, hw⟩
  have hw := hw.symm
  subst hw
  go_wp2_with fail
  have G0 : w.grownBy ((w.setCell ⟨R, 1, none⟩ (.int .i64 ((a : Int) + 1))).alloc (.cells #[.int .u8 72, .int .i64 0, .int .i64 0, .bool false, .bool false, .bool false, .bool false, .bool false, .bool false, .bool false, .bool false, .int .i64 0] 110)) (some R) :=
    grown_trans (grown_set (grown_refl _ _) 1 _) (World.grownBy_alloc _ _ _)
  have RB0 : RB ((w.setCell ⟨R, 1, none⟩ (.int .i64 ((a : Int) + 1))).alloc (.cells #[.int .u8 72, .int .i64 0, .int .i64 0, .bool false, .bool false, .bool false, .bool false, .bool false, .bool false, .bool false, .bool false, .int .i64 0] 110)) R t (a + 1) bad (.slice sa ss.length scap) vo deep :=
    RB.grown ((unhide HRB).s1 (a + 1)) (World.grownBy_alloc _ _ none) (by simp)
  have SB0 := sb_new (w.setCell ⟨R, 1, none⟩ (.int .i64 ((a : Int) + 1))) 72 w.heap.size (by simp [World.setCell])
  refine (readHundredths_any R t (a + 1) bad _ vo deep _ RB0 hs (by omega)).mono ?_
  rintro e w2 ⟨rfl, rb2, g2⟩
  rw [(unhide Q).2.1, (unhide Q).2.2] at rb2
  rw [(unhide Q).1]
  have SB2 := SB0.grown g2 (by simp; omega)
  have hz2s : w.heap.size < w2.heap.size := cell_lt SB2
  obtain ⟨d0, d1, d2, d3, d4, d5, d6, d7, d8, d9, d10, d11⟩ := SB2.cells
  have fs2 := SB2.fr 2
  have c3 := rb2.c3
  have f3 := rb2.fr 3
  have hRw : R < w2.heap.size := cell_lt rb2
  have RBF := hide (RB.grown (w' := w2.setCell ⟨w.heap.size, 2, none⟩ (.int .i64 nn)) rb2 (grown_set (grown_refl _ _) 2 _) (by simp; omega))
  have GF := hide (grown_new (grown_trans G0 g2) (p := ⟨w.heap.size, 2, none⟩) (Nat.le_refl _) (.int .i64 nn))
  clear rb2 g2 G0 RB0 SB0 SB2
  have HSf := hide (own_keepR (unhide HSo) (unhide GF))
  have HOf := hide (own_keepR (unhide HOo) (unhide GF))
  have hRf : R < (w2.setCell ⟨w.heap.size, 2, none⟩ (.int .i64 nn)).heap.size := cell_lt (unhide RBF)
  clear c1 f1
  go_wp2_with fail
  go_region_law (refine step_append_own rfl (.tmp 53) (.tmp 55) 63 rfl (R + 1) 110 i0 _ 12 40 Try.underlying63 hi hz0 hz1 hz2 rfl (by decide) (.slice sa ss.length scap) ss.length (flat ss) (by simp [Act.eval, Act.put]) (by exact World.ownsRow.alloc (World.ownsRow.drew (unhide HSf)) _) ⟨w2.heap.size, 0, none⟩ 1 1 (stC ⟨72, 0, nn, none8, 0⟩) (by simp [Act.eval, Act.put]) rfl (news_cells (by exact alloc_at (by simp [World.setCell, World.drew]) rfl)) (stC_one _) (by unfold maxLen; omega) (by omega) (by simp [World.setCell] at hRf ⊢; omega) ?_; intro v' w9 hown hgrow; have hR9 := RB.via (unhide RBF) hgrow (own_base (unhide HSo) (Nat.lt_succ_self _)) (by exact Go.heap_alloc_old _ _ hRf); have c3' := hR9.c3; have f3' := hR9.fr 3; obtain ⟨a2, cap2, rfl, hle2, _⟩ := own_slice hown)
  all_goals
    have hA := RA_append (unhide RBF) (unhide HSf) (unhide HOf) hown (grown_undrew hgrow)
    have HA := hide hA
    have HBf := hide (below_of_grown (B := R) (unhide GF) (by omega) (fun k hk => by simp at hk; omega))
    clear hA hown hgrow hR9 c3' f3' hi hz0 hz1 hz2
    go_wp2_with fail
    refine (openBlock_any R t A2 B2 _ op deep _ (unhide HA).1 hs (by omega) (by simp) (by simp; omega) (by omega)).mono ?_
    rintro e w10 ⟨rfl, h10, b10⟩
    have H10 := hide h10
    have B10 := hide b10
    clear h10 b10
    go_wp2_with fail
    go_end0
    refine ⟨rfl, ?_, (unhide HBf).trans ((unhide HA).2.trans (unhide B10))⟩
    have hl : (ss ++ [(⟨72, 0, nn, none8, 0⟩ : St)]).length = ss.length + 1 := by simp
    have h10 := unhide H10
    rw [hl] at h10
    exact h10
end Go.Proofs.Ytmdjdpofpkgffab

/- split's readPart: R. -/
namespace Go.Proofs.Ytmdjdpofpkgffab
open Go.ChangeShapes Go.WideShapes Go.ChangeAt Go.RowKit
open Split (byt dig buc digM bucM riseB riseM risM headM byt_lt byt_ge dig_t dig_f buc_t buc_f numM St stE stJ none8)
set_option linter.unusedVariables false
set_option linter.unusedSimpArgs false
theorem SB.among8 {w : World} {S : Nat} {k b n l : Int} (h : SB w S ⟨k, b, n, none8, l⟩) (m0 m1 m2 m3 m4 m5 m6 m7 : Bool) : SB ((((((((w.setCell ⟨S, 3, none⟩ (.bool m0)).setCell ⟨S, 4, none⟩ (.bool m1)).setCell ⟨S, 5, none⟩ (.bool m2)).setCell ⟨S, 6, none⟩ (.bool m3)).setCell ⟨S, 7, none⟩ (.bool m4)).setCell ⟨S, 8, none⟩ (.bool m5)).setCell ⟨S, 9, none⟩ (.bool m6)).setCell ⟨S, 10, none⟩ (.bool m7)) S ⟨k, b, n, [m0, m1, m2, m3, m4, m5, m6, m7], l⟩ := by
  have e0 : stC ⟨k, b, n, none8, l⟩ = [.int .u8 k, .int .i64 b, .int .i64 n, .bool false, .bool false, .bool false, .bool false, .bool false, .bool false, .bool false, .bool false, .int .i64 l] := rfl
  have e1 : stC ⟨k, b, n, [m0, m1, m2, m3, m4, m5, m6, m7], l⟩ = [.int .u8 k, .int .i64 b, .int .i64 n, .bool m0, .bool m1, .bool m2, .bool m3, .bool m4, .bool m5, .bool m6, .bool m7, .int .i64 l] := rfl
  unfold SB at *
  rw [e0] at h
  rw [e1]
  have h0 := heap_setCell_same _ S 3 _ _ (.bool m0) h
  simp only [List.setIfInBounds_toArray, List.set_cons_succ, List.set_cons_zero] at h0
  have h1 := heap_setCell_same _ S 4 _ _ (.bool m1) h0
  simp only [List.setIfInBounds_toArray, List.set_cons_succ, List.set_cons_zero] at h1
  have h2 := heap_setCell_same _ S 5 _ _ (.bool m2) h1
  simp only [List.setIfInBounds_toArray, List.set_cons_succ, List.set_cons_zero] at h2
  have h3 := heap_setCell_same _ S 6 _ _ (.bool m3) h2
  simp only [List.setIfInBounds_toArray, List.set_cons_succ, List.set_cons_zero] at h3
  have h4 := heap_setCell_same _ S 7 _ _ (.bool m4) h3
  simp only [List.setIfInBounds_toArray, List.set_cons_succ, List.set_cons_zero] at h4
  have h5 := heap_setCell_same _ S 8 _ _ (.bool m5) h4
  simp only [List.setIfInBounds_toArray, List.set_cons_succ, List.set_cons_zero] at h5
  have h6 := heap_setCell_same _ S 9 _ _ (.bool m6) h5
  simp only [List.setIfInBounds_toArray, List.set_cons_succ, List.set_cons_zero] at h6
  have h7 := heap_setCell_same _ S 10 _ _ (.bool m7) h6
  simp only [List.setIfInBounds_toArray, List.set_cons_succ, List.set_cons_zero] at h7
  exact h7

set_option maxHeartbeats 4000000 in
theorem part_R (R : Nat) (t : ByteArray) (a : Nat) (bad : Bool) (ss : List St) (op : List Nat) (deep : Int) (w : World) (h : RA w R t a bad ss op deep) (hs : t.size ≤ 120) (ha : a ≤ 600) (hsl : ss.length ≤ 900) (hol : op.length ≤ 900) :
    Calls Try.prog 82 #[.pointer (some ⟨R, 0, none⟩), .int .u8 82] w fun e w' => e = .returned (.tuple #[]) ∧ RA w' R t (risR t (a + 1) bad).1 (risB t (a + 1) bad) (ss ++ [⟨82, 0, 0, (risR t (a + 1) bad).2, 0⟩]) op deep ∧ Below R w w' := by
  obtain ⟨vs, vo, hRB, hSo, hOo⟩ := h
  have hRlt : R < w.heap.size := cell_lt hRB
  obtain ⟨i0, hi, hz0, hz1, hz2⟩ := info_parts infoStep
  obtain ⟨sa, scap, rfl, hsc, hsa⟩ := own_slice hSo
  have c1 := hRB.c1
  have f1 := hRB.fr 1
  have HRB := hide hRB
  have HSo := hide hSo
  have HOo := hide hOo
  clear hRB hSo hOo hsa
  go_enter Try.func82, Try.ntmps82
  go_wp2_with fail
  refine (beginsStep_t 82 _ (by decide)).mono ?_
  rintro e w0 ⟨rfl, hw⟩
  have hw := hw.symm
  subst hw
  go_wp2_with fail
  have G0 : w.grownBy ((w.setCell ⟨R, 1, none⟩ (.int .i64 ((a : Int) + 1))).alloc (.cells #[.int .u8 82, .int .i64 0, .int .i64 0, .bool false, .bool false, .bool false, .bool false, .bool false, .bool false, .bool false, .bool false, .int .i64 0] 110)) (some R) :=
    grown_trans (grown_set (grown_refl _ _) 1 _) (World.grownBy_alloc _ _ _)
  have RB0 : RB ((w.setCell ⟨R, 1, none⟩ (.int .i64 ((a : Int) + 1))).alloc (.cells #[.int .u8 82, .int .i64 0, .int .i64 0, .bool false, .bool false, .bool false, .bool false, .bool false, .bool false, .bool false, .bool false, .int .i64 0] 110)) R t (a + 1) bad (.slice sa ss.length scap) vo deep :=
    RB.grown ((unhide HRB).s1 (a + 1)) (World.grownBy_alloc _ _ none) (by simp)
  have SB0 := sb_new (w.setCell ⟨R, 1, none⟩ (.int .i64 ((a : Int) + 1))) 82 w.heap.size (by simp [World.setCell])
  refine (readRising_any R t (a + 1) bad _ vo deep _ RB0 hs (by omega)).mono ?_
  rintro e w2 ⟨rfl, rb2, hlen, g2⟩
  obtain ⟨m0, m1, m2, m3, m4, m5, m6, m7, hm⟩ : ∃ m0 m1 m2 m3 m4 m5 m6 m7, (risR t (a + 1) bad).2 = [m0, m1, m2, m3, m4, m5, m6, m7] := by
    generalize (risR t (a + 1) bad).2 = m at hlen
    match m, hlen with
    | [m0, m1, m2, m3, m4, m5, m6, m7], _ => exact ⟨m0, m1, m2, m3, m4, m5, m6, m7, rfl⟩
  rw [hm]
  have HM := hide hm
  clear hm hlen
  have SB2 := SB0.grown g2 (by simp; omega)
  have hz2s : w.heap.size < w2.heap.size := cell_lt SB2
  obtain ⟨d0, d1, d2, d3, d4, d5, d6, d7, d8, d9, d10, d11⟩ := SB2.cells
  have fs3 := SB2.fr 3
  have fs4 := SB2.fr 4
  have fs5 := SB2.fr 5
  have fs6 := SB2.fr 6
  have fs7 := SB2.fr 7
  have fs8 := SB2.fr 8
  have fs9 := SB2.fr 9
  have fs10 := SB2.fr 10
  have c3 := rb2.c3
  have f3 := rb2.fr 3
  have hRw : R < w2.heap.size := cell_lt rb2
  have RBF := hide (RB.grown (w' := ((((((((w2.setCell ⟨w.heap.size, 3, none⟩ (.bool m0)).setCell ⟨w.heap.size, 4, none⟩ (.bool m1)).setCell ⟨w.heap.size, 5, none⟩ (.bool m2)).setCell ⟨w.heap.size, 6, none⟩ (.bool m3)).setCell ⟨w.heap.size, 7, none⟩ (.bool m4)).setCell ⟨w.heap.size, 8, none⟩ (.bool m5)).setCell ⟨w.heap.size, 9, none⟩ (.bool m6)).setCell ⟨w.heap.size, 10, none⟩ (.bool m7))) rb2 (grown_set (grown_set (grown_set (grown_set (grown_set (grown_set (grown_set (grown_set ((grown_refl _ _)) 3 _) 4 _) 5 _) 6 _) 7 _) 8 _) 9 _) 10 _) (by simp; omega))
  have GF := hide (grown_new (grown_new (grown_new (grown_new (grown_new (grown_new (grown_new (grown_new ((grown_trans G0 g2)) (p := ⟨w.heap.size, 3, none⟩) (Nat.le_refl _) (.bool m0)) (p := ⟨w.heap.size, 4, none⟩) (Nat.le_refl _) (.bool m1)) (p := ⟨w.heap.size, 5, none⟩) (Nat.le_refl _) (.bool m2)) (p := ⟨w.heap.size, 6, none⟩) (Nat.le_refl _) (.bool m3)) (p := ⟨w.heap.size, 7, none⟩) (Nat.le_refl _) (.bool m4)) (p := ⟨w.heap.size, 8, none⟩) (Nat.le_refl _) (.bool m5)) (p := ⟨w.heap.size, 9, none⟩) (Nat.le_refl _) (.bool m6)) (p := ⟨w.heap.size, 10, none⟩) (Nat.le_refl _) (.bool m7))
  have SBF := hide (SB2.among8 m0 m1 m2 m3 m4 m5 m6 m7)
  clear rb2 g2 G0 RB0 SB0 SB2
  go_wp2_with fail
  generalize ((((((((w2.setCell ⟨w.heap.size, 3, none⟩ (.bool m0)).setCell ⟨w.heap.size, 4, none⟩ (.bool m1)).setCell ⟨w.heap.size, 5, none⟩ (.bool m2)).setCell ⟨w.heap.size, 6, none⟩ (.bool m3)).setCell ⟨w.heap.size, 7, none⟩ (.bool m4)).setCell ⟨w.heap.size, 8, none⟩ (.bool m5)).setCell ⟨w.heap.size, 9, none⟩ (.bool m6)).setCell ⟨w.heap.size, 10, none⟩ (.bool m7)) = W9 at RBF GF SBF ⊢
  clear d0 d1 d2 d3 d4 d5 d6 d7 d8 d9 d10 d11 fs3 fs4 fs5 fs6 fs7 fs8 fs9 fs10 c3 f3 hRw hz2s
  obtain ⟨d0, d1, d2, d3, d4, d5, d6, d7, d8, d9, d10, d11⟩ := (unhide SBF).cells
  have c3 := (unhide RBF).c3
  have f3 := (unhide RBF).fr 3
  have HSf := hide (own_keepR (unhide HSo) (unhide GF))
  have HOf := hide (own_keepR (unhide HOo) (unhide GF))
  have hRf : R < (W9).heap.size := cell_lt (unhide RBF)
  clear c1 f1
  go_wp2_with fail
  go_region_law (refine step_append_own rfl (.tmp 53) (.tmp 55) 63 rfl (R + 1) 110 i0 _ 12 40 Try.underlying63 hi hz0 hz1 hz2 rfl (by decide) (.slice sa ss.length scap) ss.length (flat ss) (by simp [Act.eval, Act.put]) (by exact World.ownsRow.alloc (World.ownsRow.drew (unhide HSf)) _) ⟨W9.heap.size, 0, none⟩ 1 1 (stC ⟨82, 0, 0, [m0, m1, m2, m3, m4, m5, m6, m7], 0⟩) (by simp [Act.eval, Act.put]) rfl (news_cells (by exact alloc_at (by simp [World.setCell, World.drew]) rfl)) (stC_one _) (by unfold maxLen; omega) (by omega) (by simp [World.setCell] at hRf ⊢; omega) ?_; intro v' w9 hown hgrow; have hR9 := RB.via (unhide RBF) hgrow (own_base (unhide HSo) (Nat.lt_succ_self _)) (by exact Go.heap_alloc_old _ _ hRf); have c3' := hR9.c3; have f3' := hR9.fr 3; obtain ⟨a2, cap2, rfl, hle2, _⟩ := own_slice hown)
  all_goals
    have hA := RA_append (unhide RBF) (unhide HSf) (unhide HOf) hown (grown_undrew hgrow)
    have HA := hide hA
    have HBf := hide (below_of_grown (B := R) (unhide GF) (by omega) (fun k hk => by simp at hk; omega))
    clear hA hown hgrow hR9 c3' f3' hi hz0 hz1 hz2
    go_wp2_with fail
    go_end0
    rw [unhide HM]
    exact ⟨rfl, (unhide HA).1, (unhide HBf).trans (unhide HA).2⟩
end Go.Proofs.Ytmdjdpofpkgffab

/- split's reader as a plain machine. -/
namespace Go.Proofs.Ytmdjdpofpkgffab
open Split (byt dig buc digM bucM riseB riseM risM headM byt_lt byt_ge dig_t dig_f buc_t buc_f numM St stE stJ none8)
set_option linter.unusedVariables false
set_option linter.unusedSimpArgs false

structure RS where
  a : Nat
  bad : Bool
  ss : List St
  op : List Nat
  deep : Int

def kd (ss : List St) (o : Nat) : Int := match ss[o]? with
  | some s => s.kind
  | none => 0

def opened (t : ByteArray) (a : Nat) (bad : Bool) (ss : List St) (op : List Nat) (deep : Int) : RS :=
  ⟨openA t a bad, openB t a bad, ss, openO t a bad ss.length op, openD t a bad op.length deep⟩

def closeM (t : ByteArray) (r : RS) : RS :=
  match r.op.getLast? with
  | none => ⟨r.a, true, r.ss, [], r.deep⟩
  | some o =>
    if kd r.ss o = 72 then ⟨r.a + 1, r.bad, r.ss ++ [stE], r.op.dropLast, r.deep⟩
    else if kd r.ss o = 73 then opened t (r.a + 1) r.bad (closeI r.ss o) r.op.dropLast r.deep
    else ⟨r.a + 1, r.bad, leaveM r.ss o, r.op.dropLast, r.deep⟩

/-- One part: a step up to its block, or a block's end. -/
def partM (t : ByteArray) (r : RS) : RS :=
  if byt t r.a = 41 then closeM t r
  else if byt t r.a = 80 then ⟨takeA t (r.a + 1) r.bad 97 104, takeB t (r.a + 1) r.bad 97 104, r.ss ++ [⟨80, takeV t (r.a + 1) r.bad 97 104 - 97, 0, none8, 0⟩], r.op, r.deep⟩
  else if byt t r.a = 67 then ⟨(nmM t (takeA t (r.a + 1) r.bad 97 104) (takeB t (r.a + 1) r.bad 97 104) 4).a, (nmM t (takeA t (r.a + 1) r.bad 97 104) (takeB t (r.a + 1) r.bad 97 104) 4).b, r.ss ++ [⟨67, takeV t (r.a + 1) r.bad 97 104 - 97, (nmM t (takeA t (r.a + 1) r.bad 97 104) (takeB t (r.a + 1) r.bad 97 104) 4).n, none8, 0⟩], r.op, r.deep⟩
  else if byt t r.a = 73 then opened t (nmM t (takeA t (r.a + 1) r.bad 97 104) (takeB t (r.a + 1) r.bad 97 104) 4).a (nmM t (takeA t (r.a + 1) r.bad 97 104) (takeB t (r.a + 1) r.bad 97 104) 4).b (r.ss ++ [⟨73, takeV t (r.a + 1) r.bad 97 104 - 97, (nmM t (takeA t (r.a + 1) r.bad 97 104) (takeB t (r.a + 1) r.bad 97 104) 4).n, none8, 0⟩]) r.op r.deep
  else if byt t r.a = 82 then ⟨(risR t (r.a + 1) r.bad).1, risB t (r.a + 1) r.bad, r.ss ++ [⟨82, 0, 0, (risR t (r.a + 1) r.bad).2, 0⟩], r.op, r.deep⟩
  else if byt t r.a = 72 then opened t (hunM t (r.a + 1) r.bad).a (hunM t (r.a + 1) r.bad).b (r.ss ++ [⟨72, 0, (hunM t (r.a + 1) r.bad).n, none8, 0⟩]) r.op r.deep
  else ⟨r.a, true, r.ss, r.op, r.deep⟩

structure Inv (t : ByteArray) (r : RS) : Prop where
  sa : r.ss.length ≤ r.a
  oa : r.op.length ≤ r.a
  at' : r.a ≤ t.size
  kk : ∀ o ∈ r.op, kd r.ss o = 72 ∨ kd r.ss o = 73 ∨ kd r.ss o = 74

theorem kd_lt {ss : List St} {o : Nat} (h : kd ss o ≠ 0) : o < ss.length := by
  unfold kd at h
  by_cases hx : o < ss.length
  · exact hx
  · rw [List.getElem?_eq_none (by omega)] at h
    simp at h
theorem kd_get {ss : List St} {o : Nat} (h : o < ss.length) : kd ss o = (ss[o]).kind := by
  unfold kd
  rw [List.getElem?_eq_getElem h]
theorem kd_append {ss xs : List St} {o : Nat} (h : o < ss.length) : kd (ss ++ xs) o = kd ss o := by
  unfold kd
  rw [List.getElem?_append_left h]
theorem kd_snoc (ss : List St) (s : St) : kd (ss ++ [s]) ss.length = s.kind := by
  unfold kd
  simp
theorem kd_leave (ss : List St) (q o : Nat) : kd (leaveM ss q) o = kd ss o := by
  unfold kd leaveM
  rw [List.getElem?_modify]
  cases ss[o]? with
  | none => rfl
  | some s =>
    by_cases h : q = o
    · simp [h, St.leaving]
    · simp [h]

theorem fits_size {t : ByteArray} {a : Nat} {bad : Bool} {lo hi : Int} (hh : hi ≤ 255) (h : fitsM t a bad lo hi = true) : a < t.size := Split.lt_of_byt (by simp [fitsM] at h; omega)
theorem takeA_size {t : ByteArray} {a : Nat} {bad : Bool} {lo hi : Int} (hh : hi ≤ 255) (h : a ≤ t.size) : takeA t a bad lo hi ≤ t.size := by
  unfold takeA
  split
  · rename_i hf
    exact fits_size hh hf
  · exact h
theorem nm_size {t : ByteArray} {a : Nat} {bad : Bool} (h : a ≤ t.size) : ∀ k, (nmM t a bad k).a ≤ t.size
  | 0 => h
  | k + 1 => takeA_size (by omega) (nm_size h k)
theorem hun_size {t : ByteArray} {a : Nat} {bad : Bool} (h : a ≤ t.size) : (hunM t a bad).a ≤ t.size := takeA_size (by omega) (takeA_size (by omega) h)
theorem riseL_size {t : ByteArray} {bad : Bool} : ∀ (k z a : Nat) (m : List Bool), a ≤ t.size → z + k ≤ 8 → (riseL t bad k z a m).1 ≤ t.size ∧ a ≤ (riseL t bad k z a m).1
  | 0, z, a, m, h, _ => ⟨h, Nat.le_refl _⟩
  | k + 1, z, a, m, h, hz => by
    unfold riseL
    split
    · rename_i hf
      have := riseL_size (bad := bad) k (z + 1) (a + 1) (m.set z true) (fits_size (by omega) hf) (by omega)
      omega
    · exact riseL_size k (z + 1) a m h (by omega)
theorem ris_bd (t : ByteArray) (a : Nat) (bad : Bool) : 97 ≤ ris1 t a bad ∧ ris1 t a bad ≤ 103 ∧ ris1 t a bad + 1 ≤ ris2 t a bad ∧ ris2 t a bad ≤ 104 := by
  have h1 := takeV_bd t a bad 97 103 (by omega)
  have h2 := takeV_bd t (takeA t a bad 97 103) (takeB t a bad 97 103) (ris1 t a bad + 1) 104 (by unfold ris1; omega)
  unfold ris2
  unfold ris1 at *
  omega
theorem ris_size {t : ByteArray} {a : Nat} {bad : Bool} (h : a ≤ t.size) : (risR t a bad).1 ≤ t.size ∧ a ≤ (risR t a bad).1 := by
  have hb := ris_bd t a bad
  have h1 := takeA_bd t a bad 97 103
  have h2 := takeA_bd t (takeA t a bad 97 103) (takeB t a bad 97 103) (ris1 t a bad + 1) 104
  have h3 : takeA t a bad 97 103 ≤ t.size := takeA_size (by omega) h
  have h4 : risA t a bad ≤ t.size := takeA_size (by omega) h3
  have := riseL_size (t := t) (bad := risB t a bad) (104 - ris2 t a bad).toNat (ris2 t a bad - 96).toNat (risA t a bad) ((Split.none8.set (ris1 t a bad - 97).toNat true).set (ris2 t a bad - 97).toNat true) h4 (by omega)
  unfold risR
  unfold risA at *
  omega
theorem openA_size {t : ByteArray} {a : Nat} {bad : Bool} (h : a ≤ t.size) : openA t a bad ≤ t.size ∧ a ≤ openA t a bad := by
  unfold openA
  split
  · rename_i hf
    have := fits_size (by omega) hf
    omega
  · omega

/-- A block opens behind the last step. -/
theorem inv_opened {t : ByteArray} {a : Nat} {bad : Bool} {ss : List St} {op : List Nat} {deep : Int} (h1 : ss.length ≤ a) (h2 : op.length ≤ a) (h3 : a ≤ t.size)
    (h4 : ∀ o ∈ op, kd ss o = 72 ∨ kd ss o = 73 ∨ kd ss o = 74) (h5 : kd ss (ss.length - 1) = 72 ∨ kd ss (ss.length - 1) = 73 ∨ kd ss (ss.length - 1) = 74) : Inv t (opened t a bad ss op deep) := by
  have ho := openA_size (bad := bad) h3
  refine ⟨by simp only [opened]; omega, ?_, ho.1, ?_⟩
  · simp only [opened, openO, openA]
    split
    · simp; omega
    · exact h2
  · simp only [opened, openO]
    intro o hm
    split at hm
    · simp at hm
      rcases hm with hm | rfl
      · exact h4 o hm
      · exact h5
    · exact h4 o hm

theorem inv_snoc {t : ByteArray} {r : RS} (h : Inv t r) (s : St) : ∀ o ∈ r.op, kd (r.ss ++ [s]) o = 72 ∨ kd (r.ss ++ [s]) o = 73 ∨ kd (r.ss ++ [s]) o = 74 := by
  intro o ho
  have := h.kk o ho
  rw [kd_append (kd_lt (by omega))]
  exact this

theorem inv_close {t : ByteArray} {r : RS} (h : Inv t r) (hlt : r.a < t.size) : Inv t (closeM t r) := by
  have h1 := h.sa
  have h2 := h.oa
  unfold closeM
  cases hl : r.op.getLast? with
  | none =>
    have : r.op = [] := List.getLast?_eq_none_iff.1 hl
    exact ⟨h1, by simp, h.at', fun o ho => by simp at ho⟩
  | some o =>
    have hmem : o ∈ r.op := List.mem_of_getLast? hl
    have hk := h.kk o hmem
    have hol : o < r.ss.length := kd_lt (by omega)
    have hd : r.op.dropLast.length ≤ r.op.length := by simp
    have hsub : ∀ x ∈ r.op.dropLast, x ∈ r.op := fun x hx => (List.dropLast_sublist r.op).subset hx
    dsimp only
    split
    · exact ⟨by simp; omega, by simp; omega, hlt, fun x hx => inv_snoc h _ x (hsub x hx)⟩
    · split
      · have hlen : (closeI r.ss o).length = r.ss.length + 1 := by simp [closeI, leaveM]
        refine inv_opened (by rw [hlen]; omega) (by omega) hlt ?_ ?_
        · intro x hx
          unfold closeI
          rw [kd_leave]
          exact inv_snoc h _ x (hsub x hx)
        · right; right
          rw [hlen]
          unfold closeI
          rw [kd_leave, Nat.add_sub_cancel, kd_snoc]
          rfl
      · refine ⟨by simp [leaveM]; omega, by dsimp only; omega, hlt, fun x hx => ?_⟩
        dsimp only
        rw [kd_leave]
        exact h.kk x (hsub x hx)

theorem inv_part {t : ByteArray} {r : RS} (h : Inv t r) (hlt : r.a < t.size) : Inv t (partM t r) := by
  have h1 := h.sa
  have h2 := h.oa
  have hta := takeA_bd t (r.a + 1) r.bad 97 104
  have hts : takeA t (r.a + 1) r.bad 97 104 ≤ t.size := takeA_size (by omega) hlt
  have hnb := nmM_bd t (takeA t (r.a + 1) r.bad 97 104) (takeB t (r.a + 1) r.bad 97 104) 4
  have hns := nm_size (bad := takeB t (r.a + 1) r.bad 97 104) hts 4
  have hrs := ris_size (bad := r.bad) (show r.a + 1 ≤ t.size from hlt)
  have hhs := hun_size (bad := r.bad) (show r.a + 1 ≤ t.size from hlt)
  have hhb : r.a + 1 ≤ (hunM t (r.a + 1) r.bad).a := by
    have q1 := takeA_bd t (r.a + 1) r.bad 48 57
    have q2 := takeA_bd t (takeA t (r.a + 1) r.bad 48 57) (takeB t (r.a + 1) r.bad 48 57) (hunLo t (r.a + 1) r.bad) 57
    simp only [hunM]
    omega
  unfold partM
  split
  · exact inv_close h hlt
  split
  · exact ⟨by simp; omega, by dsimp only; omega, hts, inv_snoc h _⟩
  split
  · exact ⟨by simp; omega, by dsimp only; omega, hns, inv_snoc h _⟩
  split
  · refine inv_opened (by simp; omega) (by omega) hns (inv_snoc h _) ?_
    right; left
    rw [List.length_append, List.length_singleton, Nat.add_sub_cancel, kd_snoc]
  split
  · exact ⟨by simp; omega, by dsimp only; omega, hrs.1, inv_snoc h _⟩
  split
  · refine inv_opened (by simp; omega) (by omega) hhs (inv_snoc h _) ?_
    left
    rw [List.length_append, List.length_singleton, Nat.add_sub_cancel, kd_snoc]
  · exact ⟨h1, h2, h.at', h.kk⟩
end Go.Proofs.Ytmdjdpofpkgffab

/- split's readAll, parse and Check. -/
namespace Go.Proofs.Ytmdjdpofpkgffab
open Go.ChangeShapes Go.WideShapes Go.ChangeAt Go.RowKit
open Split (byt dig buc digM bucM riseB riseM risM headM byt_lt byt_ge dig_t dig_f buc_t buc_f numM St stE stJ none8)
set_option linter.unusedVariables false
set_option linter.unusedSimpArgs false

def RAs (w : World) (R : Nat) (t : ByteArray) (r : RS) : Prop := RA w R t r.a r.bad r.ss r.op r.deep

theorem close_any (R : Nat) (t : ByteArray) (r : RS) (w : World) (h : RAs w R t r) (hi : Inv t r) (hs : t.size ≤ 120) :
    Calls Try.prog 99 #[.pointer (some ⟨R, 0, none⟩)] w fun e w' => e = .returned (.tuple #[]) ∧ RAs w' R t (closeM t r) ∧ Below R w w' := by
  have h1 := hi.sa
  have h2 := hi.oa
  have h3 := hi.at'
  obtain ⟨a, bad, ss, op, deep⟩ := r
  dsimp only at h1 h2 h3
  unfold closeM
  cases hl : op.getLast? with
  | none =>
    have e0 : op = [] := List.getLast?_eq_none_iff.1 hl
    subst e0
    exact close_none R t a bad ss deep w h
  | some o =>
    have hmem : o ∈ op := List.mem_of_getLast? hl
    have hk := hi.kk o hmem
    dsimp only at hk
    have hol : o < ss.length := kd_lt (by omega)
    have hop : op = op.dropLast ++ [o] := by
      have hne : op ≠ [] := fun e => by rw [e] at hmem; simp at hmem
      have := List.dropLast_concat_getLast hne
      rw [List.getLast?_eq_some_getLast hne] at hl
      simp at hl
      rw [hl] at this
      exact this.symm
    have hd : op.dropLast.length ≤ op.length := by simp
    unfold RAs at h
    dsimp only at h
    rw [hop] at h
    dsimp only
    rw [kd_get hol] at hk ⊢
    split
    · exact close_H R t a bad ss op.dropLast o deep w h (by omega) hol (by omega) (by omega) (by assumption)
    · split
      · have := close_I R t a bad ss op.dropLast o deep w h hs (by omega) hol (by omega) (by omega) (by assumption)
        refine this.mono ?_
        rintro e w' ⟨rfl, h', b'⟩
        have hlen : (closeI ss o).length = ss.length + 1 := by simp [closeI, leaveM]
        refine ⟨rfl, ?_, b'⟩
        unfold RAs opened
        dsimp only
        rw [hlen]
        exact h'
      · exact close_J R t a bad ss op.dropLast o deep w h (by omega) hol (by omega) (by omega) (by omega)

theorem opened_eq {w : World} {R : Nat} {t : ByteArray} {a : Nat} {bad : Bool} {ss : List St} {s : St} {op : List Nat} {deep : Int}
    (h : RA w R t (openA t a bad) (openB t a bad) (ss ++ [s]) (openO t a bad (ss.length + 1) op) (openD t a bad op.length deep)) : RAs w R t (opened t a bad (ss ++ [s]) op deep) := by
  unfold RAs opened
  dsimp only
  rw [List.length_append, List.length_singleton]
  exact h

theorem part_any (R : Nat) (t : ByteArray) (r : RS) (w : World) (h : RAs w R t r) (hi : Inv t r) (hs : t.size ≤ 120) (hlt : r.a < t.size) :
    Calls Try.prog 82 #[.pointer (some ⟨R, 0, none⟩), .int .u8 (byt t r.a)] w fun e w' => e = .returned (.tuple #[]) ∧ RAs w' R t (partM t r) ∧ Below R w w' := by
  have h1 := hi.sa
  have h2 := hi.oa
  have h3 := hi.at'
  unfold partM
  split
  · rename_i hc
    rw [hc]
    exact part_close R w _ (close_any R t r w h hi hs)
  split
  · rename_i hc
    rw [hc]
    exact part_P R t r.a r.bad r.ss r.op r.deep w h hs (by omega) (by omega) (by omega)
  split
  · rename_i hc
    rw [hc]
    exact part_C R t r.a r.bad r.ss r.op r.deep w h hs (by omega) (by omega) (by omega)
  split
  · rename_i hc
    rw [hc]
    refine (part_I R t r.a r.bad r.ss r.op r.deep w h hs (by omega) (by omega) (by omega)).mono ?_
    rintro e w' ⟨rfl, h', b'⟩
    exact ⟨rfl, opened_eq h', b'⟩
  split
  · rename_i hc
    rw [hc]
    exact part_R R t r.a r.bad r.ss r.op r.deep w h hs (by omega) (by omega) (by omega)
  split
  · rename_i hc
    rw [hc]
    refine (part_H R t r.a r.bad r.ss r.op r.deep w h hs (by omega) (by omega) (by omega)).mono ?_
    rintro e w' ⟨rfl, h', b'⟩
    exact ⟨rfl, opened_eq h', b'⟩
  · rename_i c1 c2 c3 c4 c5 c6
    exact part_bad R t r.a r.bad r.ss r.op r.deep _ w h c1 ⟨c2, c3, c5, c6, c4⟩

/-- The reader goes on till a byte does not fit or the text is read. -/
def runM (t : ByteArray) : Nat → RS → RS
  | 0, r => r
  | f + 1, r => if r.bad = false ∧ r.a < t.size then runM t f (partM t r) else r

/-- Each part reads a byte or finds one bad. -/
theorem part_more (t : ByteArray) (r : RS) (hb : r.bad = false) (hlt : r.a < t.size) : (partM t r).bad = true ∨ r.a < (partM t r).a := by
  have hta := takeA_bd t (r.a + 1) r.bad 97 104
  have hnb := nmM_bd t (takeA t (r.a + 1) r.bad 97 104) (takeB t (r.a + 1) r.bad 97 104) 4
  have hrs := ris_size (bad := r.bad) (show r.a + 1 ≤ t.size from hlt)
  have hhb : r.a + 1 ≤ (hunM t (r.a + 1) r.bad).a := by
    have q1 := takeA_bd t (r.a + 1) r.bad 48 57
    have q2 := takeA_bd t (takeA t (r.a + 1) r.bad 48 57) (takeB t (r.a + 1) r.bad 48 57) (hunLo t (r.a + 1) r.bad) 57
    simp only [hunM]
    omega
  have hop : ∀ a bad ss op deep, a ≤ (opened t a bad ss op deep).a := by
    intro a bad ss op deep
    simp only [opened, openA]
    split <;> omega
  unfold partM
  split
  · unfold closeM
    cases r.op.getLast? with
    | none => exact .inl rfl
    | some o =>
      right
      dsimp only
      split
      · dsimp only; omega
      · split
        · have := hop (r.a + 1) r.bad (closeI r.ss o) r.op.dropLast r.deep; omega
        · dsimp only; omega
  split
  · right; dsimp only; omega
  split
  · right; dsimp only; omega
  split
  · right
    refine Nat.lt_of_lt_of_le ?_ (hop _ _ _ _ _)
    omega
  split
  · right; dsimp only; omega
  split
  · right
    refine Nat.lt_of_lt_of_le ?_ (hop _ _ _ _ _)
    omega
  · exact .inl rfl

def meas (t : ByteArray) (r : RS) : Nat := if r.bad then 0 else t.size - r.a + 1
theorem meas_part (t : ByteArray) (r : RS) (hb : r.bad = false) (hlt : r.a < t.size) : meas t (partM t r) < meas t r := by
  have := part_more t r hb hlt
  unfold meas
  rw [hb]
  rcases this with h | h
  · simp [h]
  · split
    · simp
    · simp; omega
theorem run_stop (t : ByteArray) (f : Nat) (r : RS) (h : ¬ (r.bad = false ∧ r.a < t.size)) : runM t f r = r := by
  cases f with
  | zero => rfl
  | succ f => simp only [runM, if_neg h]

def finM (r : RS) : RS := if r.op = [] then r else ⟨r.a, true, r.ss, r.op, r.deep⟩

set_option maxHeartbeats 4000000 in
theorem readAll_any (R : Nat) (t : ByteArray) (r0 : RS) (w : World) (h : RAs w R t r0) (hi : Inv t r0) (hs : t.size ≤ 120) :
    Calls Try.prog 62 #[.pointer (some ⟨R, 0, none⟩)] w fun e w' => e = .returned (.tuple #[]) ∧ RAs w' R t (finM (runM t (meas t r0) r0)) ∧ Below R w w' := by
  have H := hide h
  have HI := hide hi
  clear h hi
  go_enter Try.func62, Try.ntmps62
  go_wp2_with fail
  go_loopg [2] (meas t r0) (fun f _ wr => ∃ r : RS, meas t r ≤ f ∧ Hid (RAs wr R t r) ∧ Hid (Inv t r) ∧ Hid (runM t (meas t r0) r0 = runM t f r) ∧ Hid (Below R w wr))
  case atStart => exact ⟨r0, Nat.le_refl _, H, HI, rfl, Below.refl _ _⟩
  case round =>
    obtain ⟨⟨a, bad, ss, op, deep⟩, hm, hr, hin, hrun, hb⟩ := hrel
    have hA := unhide hr
    obtain ⟨vs, vo, hRB, hSo, hOo⟩ := hA
    dsimp only at hRB hSo hOo
    have hRlt : R < wr.heap.size := cell_lt hRB
    have c0 := hRB.c0
    have c1 := hRB.c1
    have c2 := hRB.c2
    have c4 := hRB.c4
    have f2 := hRB.fr 2
    obtain ⟨oa, ocap, rfl, hoc, hoa⟩ := own_slice hOo
    have hla : a ≤ t.size := (unhide hin).at'
    have hol : op.length ≤ a := (unhide hin).oa
    have HRB := hide hRB
    have HSo := hide hSo
    have HOo := hide hOo
    clear hRB hSo hOo hoa
    by_cases hc : bad = false ∧ a < t.size
    · obtain ⟨rfl, hlt⟩ := hc
      obtain ⟨f', hf'⟩ : ∃ f', gk = f' + 1 := ⟨gk - 1, by simp [meas] at hm; omega⟩
      have hmp := meas_part t ⟨a, false, ss, op, deep⟩ rfl hlt
      have hrun' : Hid (runM t (meas t r0) r0 = runM t f' (partM t ⟨a, false, ss, op, deep⟩)) := by
        have := unhide hrun
        rw [hf'] at this
        simp only [runM, hlt, and_self, if_true] at this
        exact this
      have hmm : Hid (meas t (partM t ⟨a, false, ss, op, deep⟩) ≤ f' ∧ f' < gk) := ⟨by omega, by omega⟩
      have hpart := part_any R t ⟨a, false, ss, op, deep⟩
      dsimp only at hpart
      rw [byt_lt hlt] at hpart
      have HP := hide hpart
      have hin' := hide (inv_part (unhide hin) hlt)
      clear hpart hmp hf' hm hrun HRB HSo HOo f2 c4
      go_wp2_with fail
      go_quiet (fail)
      go_wp2_with fail
      go_quiet (fail)
      go_wp2_with fail
      refine (unhide HP _ (by exact unhide hr) (unhide hin) hs hlt).mono ?_
      rintro e w1 ⟨rfl, h1, b1⟩
      have H1 := hide h1
      have B1 := hide b1
      clear h1 b1
      go_wp2_with fail
      go_roundg f'
      case measure => exact (unhide hmm).2
      case rel => exact ⟨partM t ⟨a, false, ss, op, deep⟩, (unhide hmm).1, H1, hin', hrun', (below_drewN (unhide hb) _).trans (unhide B1)⟩
    · have hst := run_stop t gk ⟨a, bad, ss, op, deep⟩ hc
      have hfin : Hid (runM t (meas t r0) r0 = ⟨a, bad, ss, op, deep⟩) := (unhide hrun).trans hst
      clear hst hrun hm
      by_cases hop : op = []
      · subst hop
        have hd : Hid (finM (runM t (meas t r0) r0) = ⟨a, bad, ss, [], deep⟩) := by
          show finM (runM t (meas t r0) r0) = _
          rw [unhide hfin]; rfl
        cases bad
        · have hge : t.size ≤ a := by simp at hc; omega
          clear hc
          go_wp2_with fail
          go_quiet (fail)
          go_wp2_with fail
          go_end0
          rw [unhide hd]
          exact ⟨rfl, unhide hr, below_drewN (unhide hb) _⟩
        · clear hc
          go_wp2_with fail
          go_quiet (fail)
          go_wp2_with fail
          go_end0
          rw [unhide hd]
          exact ⟨rfl, unhide hr, below_drewN (unhide hb) _⟩
      · have hd : Hid (finM (runM t (meas t r0) r0) = ⟨a, true, ss, op, deep⟩) := by
          show finM (runM t (meas t r0) r0) = _
          rw [unhide hfin]; simp [finM, hop]
        have hpos : 0 < op.length := List.length_pos_iff.2 hop
        clear hop
        cases bad
        · have hge : t.size ≤ a := by simp at hc; omega
          clear hc
          go_wp2_with fail
          go_quiet (fail)
          go_wp2_with fail
          go_end0
          rw [unhide hd]
          refine ⟨rfl, ⟨_, _, (unhide HRB).s2 true, own_keepR (unhide HSo) (grown_set (grown_drewN (grown_refl _ _) _) 2 _), own_keepR (unhide HOo) (grown_set (grown_drewN (grown_refl _ _) _) 2 _)⟩, ?_⟩
          exact (below_drewN (unhide hb) _).setCell (p := ⟨R, 2, none⟩) (Nat.le_refl _) _
        · clear hc
          go_wp2_with fail
          go_quiet (fail)
          go_wp2_with fail
          go_end0
          rw [unhide hd]
          refine ⟨rfl, ⟨_, _, (unhide HRB).s2 true, own_keepR (unhide HSo) (grown_set (grown_drewN (grown_refl _ _) _) 2 _), own_keepR (unhide HOo) (grown_set (grown_drewN (grown_refl _ _) _) 2 _)⟩, ?_⟩
          exact (below_drewN (unhide hb) _).setCell (p := ⟨R, 2, none⟩) (Nat.le_refl _) _
end Go.Proofs.Ytmdjdpofpkgffab

/- split's parse and Check. -/
namespace Go.Proofs.Ytmdjdpofpkgffab
open Go.ChangeShapes Go.WideShapes Go.ChangeAt Go.RowKit
open Split (byt St)
set_option linter.unusedVariables false
set_option linter.unusedSimpArgs false

def rs0 : RS := ⟨0, false, [], [], -1⟩
/-- The reader behind the whole text. -/
def rsE (t : ByteArray) : RS := finM (runM t (t.size + 1) rs0)
def parE (t : ByteArray) : Int := if 120 < t.size then 1 else if (rsE t).bad = true then 2 else if 0 ≤ (rsE t).deep then 3 else 0
def parP (t : ByteArray) : Int := if 120 < t.size then 0 else if (rsE t).bad = true then (rsE t).a else if 0 ≤ (rsE t).deep then (rsE t).deep else 0

theorem inv0 (t : ByteArray) : Inv t rs0 := ⟨by simp [rs0], by simp [rs0], Nat.zero_le _, fun o ho => by simp [rs0] at ho⟩

def ParsePost (t : ByteArray) (w : World) (e : Ending) (w' : World) : Prop :=
  ∃ vs, e = .returned (.tuple #[vs, .int .i64 (parE t), .int .i64 (parP t)]) ∧ (parE t = 0 → w'.ownsRow w.heap.size 110 12 vs (rsE t).ss.length (flat (rsE t).ss)) ∧ (parE t ≠ 0 → vs = .slice none 0 0) ∧ Below w.heap.size w w'

theorem ret3_s {vs : Value} {a b c d : Int} (h : a = c) (k : b = d) : Ending.returned (.tuple #[vs, .int .i64 a, .int .i64 b]) = .returned (.tuple #[vs, .int .i64 c, .int .i64 d]) := by rw [h, k]

theorem own_less {w : World} {base base' : Nat} {e : TypeId} {size : Nat} {v : Value} {n : Nat} {xs : List Value} (h : w.ownsRow base e size v n xs) (hb : base' ≤ base) : w.ownsRow base' e size v n xs := by
  refine ⟨h.1, ?_⟩
  rcases h.2 with h0 | ⟨g, cap, cur, hv, hg, r⟩
  · exact .inl h0
  · exact .inr ⟨g, cap, cur, hv, by omega, r⟩

set_option maxHeartbeats 4000000 in
theorem parse_any (t : ByteArray) (w : World) (hs : t.size ≤ 1000000000000000) : Calls Try.prog 37 #[.string t] w (ParsePost t w) := by
  by_cases hl : 120 < t.size
  · have e1 : parE t = 1 := by simp [parE, hl]
    have e2 : parP t = 0 := by simp [parP, hl]
    have E := hide (And.intro e1 e2)
    clear e1 e2
    go_enter Try.func37, Try.ntmps37
    go_wp2_with fail
    go_ret3
    unfold ParsePost
    rw [(unhide E).1, (unhide E).2]
    exact ⟨_, rfl, fun h => by simp at h, fun _ => rfl, Below.refl _ _⟩
  · have hm : meas t rs0 = t.size + 1 := by simp [meas, rs0]
    have hread := readAll_any w.heap.size t rs0 (w.alloc (.cells #[.string t, .int .i64 0, .bool false, .slice none 0 0, .slice none 0 0, .int .i64 (-1)] 106))
      ⟨.slice none 0 0, .slice none 0 0, heap_alloc_new _ _, World.ownsRow_nil _ _ _ _, World.ownsRow_nil _ _ _ _⟩ (inv0 t) (by omega)
    rw [hm] at hread
    have hE : (rsE t).bad = true ∨ ((rsE t).bad = false ∧ 0 ≤ (rsE t).deep) ∨ ((rsE t).bad = false ∧ ¬ 0 ≤ (rsE t).deep) := by
      cases (rsE t).bad <;> simp <;> omega
    have HR := hide hread
    clear hread hm
    obtain ⟨r, hr⟩ : ∃ r, rsE t = r := ⟨_, rfl⟩
    have HRR := hide hr
    rw [hr] at hE
    clear hr
    obtain ⟨a, bad, ss, op, deep⟩ := r
    dsimp only at hE
    rcases hE with rfl | ⟨rfl, hd⟩ | ⟨rfl, hd⟩
    · have E : Hid (parE t = 2 ∧ parP t = a) := by
        show parE t = 2 ∧ parP t = a
        simp [parE, parP, hl, unhide HRR]
      go_enter Try.func37, Try.ntmps37
      go_wp2_with fail
      refine (unhide HR).mono ?_
      rintro e w1 ⟨rfl, h1, b1⟩
      have h1' : RAs w1 w.heap.size t (rsE t) := h1
      rw [unhide HRR] at h1'
      obtain ⟨vs, vo, hRB, hSo, hOo⟩ := h1'
      dsimp only at hRB hSo hOo
      have c1 := hRB.c1
      have c2 := hRB.c2
      have B1 := hide (((Below.refl _ _).alloc (Nat.le_refl _) _).trans b1)
      clear h1 b1 hRB hSo hOo
      go_wp2_with fail
      go_quiet (fail)
      go_wp2_with fail
      go_ret3
      unfold ParsePost
      rw [(unhide E).1, (unhide E).2]
      exact ⟨_, rfl, fun h => by simp at h, fun _ => rfl, below_drewN (unhide B1) _⟩
    · have E : Hid (parE t = 3 ∧ parP t = deep) := by
        show parE t = 3 ∧ parP t = deep
        simp [parE, parP, hl, unhide HRR, hd]
      go_enter Try.func37, Try.ntmps37
      go_wp2_with fail
      refine (unhide HR).mono ?_
      rintro e w1 ⟨rfl, h1, b1⟩
      have h1' : RAs w1 w.heap.size t (rsE t) := h1
      rw [unhide HRR] at h1'
      obtain ⟨vs, vo, hRB, hSo, hOo⟩ := h1'
      dsimp only at hRB hSo hOo
      have c2 := hRB.c2
      have c5 := hRB.c5
      have B1 := hide (((Below.refl _ _).alloc (Nat.le_refl _) _).trans b1)
      clear h1 b1 hRB hSo hOo
      go_wp2_with fail
      go_quiet (fail)
      go_wp2_with fail
      go_ret3
      unfold ParsePost
      rw [(unhide E).1, (unhide E).2]
      exact ⟨_, rfl, fun h => by simp at h, fun _ => rfl, below_drewN (unhide B1) _⟩
    · have E : Hid (parE t = 0 ∧ parP t = 0) := by
        show parE t = 0 ∧ parP t = 0
        simp [parE, parP, hl, unhide HRR, hd]
      go_enter Try.func37, Try.ntmps37
      go_wp2_with fail
      refine (unhide HR).mono ?_
      rintro e w1 ⟨rfl, h1, b1⟩
      have h1' : RAs w1 w.heap.size t (rsE t) := h1
      rw [unhide HRR] at h1'
      obtain ⟨vs, vo, hRB, hSo, hOo⟩ := h1'
      dsimp only at hRB hSo hOo
      have c2 := hRB.c2
      have c3 := hRB.c3
      have c5 := hRB.c5
      have B1 := hide (((Below.refl _ _).alloc (Nat.le_refl _) _).trans b1)
      obtain ⟨sa, scap, rfl, hsc, hsa⟩ := own_slice hSo
      have HS := hide hSo
      clear h1 b1 hRB hSo hOo hsa
      go_wp2_with fail
      go_ret3
      unfold ParsePost
      rw [(unhide E).1, (unhide E).2, unhide HRR]
      exact ⟨_, rfl, fun _ => own_less (unhide HS) (by omega), fun h => absurd rfl h, unhide B1⟩

end Go.Proofs.Ytmdjdpofpkgffab
