/- split's closeBlock. -/
import Derived.Test.YtbpolcnjojlkjabReader3
namespace Go.Proofs.Ytbpolcnjojlkjab
open Go.ChangeShapes Go.WideShapes Go.ChangeAt Go.RowKit
open Split (byt dig buc digM bucM riseB riseM risM headM byt_lt byt_ge dig_t dig_f buc_t buc_f numM St stE stJ)
set_option linter.unusedVariables false
set_option linter.unusedSimpArgs false
set_option maxRecDepth 4000

theorem flat_kind : ∀ (ss : List St) (o : Nat) (h : o < ss.length), (flat ss)[o * 12]? = some (.int .u8 (ss[o]).kind)
  | [], o, h => by simp at h
  | s :: ss, 0, h => by
    show (stC s ++ flat ss)[0 * 12]? = _
    rw [List.getElem?_append_left (by rw [stC_len]; omega)]
    rfl
  | s :: ss, o + 1, h => by
    show (stC s ++ flat ss)[(o + 1) * 12]? = _
    rw [List.getElem?_append_right (by rw [stC_len]; omega), stC_len, show (o + 1) * 12 - 12 = o * 12 by omega, flat_kind ss o (by simpa using h)]
    rfl

theorem close_none (R : Nat) (t : ByteArray) (a : Nat) (bad : Bool) (ss : List St) (deep : Int) (w : World) (h : RA w R t a bad ss [] deep) :
    Calls Try.prog 60 #[.pointer (some ⟨R, 0, none⟩)] w fun e w' => e = .returned (.tuple #[]) ∧ RA w' R t a true ss [] deep ∧ Below R w w' := by
  obtain ⟨vs, vo, hRB, hSo, hOo⟩ := h
  have hRlt : R < w.heap.size := cell_lt hRB
  obtain ⟨oa, ocap, rfl, hoc, _⟩ := own_slice hOo
  have c4 := hRB.c4
  have c2 := hRB.c2
  have f2 := hRB.fr 2
  have HRB := hide hRB
  have HSo := hide hSo
  have HOo := hide hOo
  clear hRB hSo hOo
  go_enter Try.func60, Try.ntmps60
  go_wp2_with fail
  refine bodyPost_ret (v := .tuple #[]) (by simp [results, Try.results60, go_sem]) rfl ?_
  refine ⟨rfl, ⟨vs, _, (unhide HRB).s2 true, own_keepR (unhide HSo) (grown_set (grown_refl _ _) 2 _), own_keepR (unhide HOo) (grown_set (grown_refl _ _) 2 _)⟩, (Below.refl _ _).setCell (p := ⟨R, 2, none⟩) (Nat.le_refl _) _⟩

/-- What closeBlock finds: the lists' heads and the cells that it reads. -/
theorem close_view {w : World} {R : Nat} {t : ByteArray} {a : Nat} {bad : Bool} {ss : List St} {op : List Nat} {o : Nat} {deep : Int} (h : RA w R t a bad ss (op ++ [o]) deep) (ho : o < ss.length) :
    ∃ gs scap go ocap, RB w R t a bad (.slice (some ⟨gs, 0, none⟩) ss.length scap) (.slice (some ⟨go, 0, none⟩) (op.length + 1) ocap) deep ∧
      w.ownsRow (R + 1) 63 12 (.slice (some ⟨gs, 0, none⟩) ss.length scap) ss.length (flat ss) ∧
      w.ownsRow (R + 1) 3 1 (.slice (some ⟨go, 0, none⟩) op.length ocap) op.length (opC op) ∧
      R + 1 ≤ gs ∧ R + 1 ≤ go ∧ op.length + 1 ≤ ocap ∧ ss.length ≤ scap ∧
      w.cell? ⟨go, op.length, none⟩ = some (.int .i64 (o : Nat)) ∧ w.cell? ⟨gs, o * 12, none⟩ = some (.int .u8 (ss[o]).kind) := by
  obtain ⟨vs, vo, hRB, hSo, hOo⟩ := h
  obtain ⟨sa, scap, rfl, hsc, hsa⟩ := own_slice hSo
  obtain ⟨gs, rfl⟩ := hsa (by omega)
  obtain ⟨oa, ocap, rfl, hoc, hoa⟩ := own_slice hOo
  obtain ⟨go, rfl⟩ := hoa (by simp)
  have hl : (op ++ [o]).length = op.length + 1 := by simp
  have hop : opC (op ++ [o]) = opC op ++ [.int .i64 (o : Nat)] := by simp [opC]
  rw [hl] at hOo hRB hoc
  rw [hop] at hOo
  refine ⟨gs, scap, go, ocap, hRB, hSo, ownsRow_pop (by simp [opC]) hOo, (hSo.lt gs rfl).1, (hOo.lt go rfl).1, hoc, hsc, ?_, ?_⟩
  · rw [hOo.cellAt _ (by omega), List.getElem?_append_right (by simp [opC])]
    simp [opC]
  · rw [hSo.cellAt _ (by omega), flat_kind ss o ho]

set_option maxHeartbeats 4000000 in
theorem close_J (R : Nat) (t : ByteArray) (a : Nat) (bad : Bool) (ss : List St) (op : List Nat) (o : Nat) (deep : Int) (w : World) (h : RA w R t a bad ss (op ++ [o]) deep) (ha : a ≤ 800) (ho : o < ss.length) (hsl : ss.length ≤ 1000) (hol : op.length ≤ 1000) (hk : (ss[o]).kind = 74) :
    Calls Try.prog 60 #[.pointer (some ⟨R, 0, none⟩)] w fun e w' => e = .returned (.tuple #[]) ∧ RA w' R t (a + 1) bad (leaveM ss o) op deep ∧ Below R w w' := by
  obtain ⟨gs, scap, go, ocap, hRB, hSo, hOo, hgs, hgo, hoc, hsc, hco, hcs⟩ := close_view h ho
  rw [hk] at hcs
  clear h hk
  have hRlt : R < w.heap.size := cell_lt hRB
  have c1 := hRB.c1
  have c3 := hRB.c3
  have c4 := hRB.c4
  have f1 := hRB.fr 1
  have f4 := hRB.fr 4
  have HRB := hide hRB
  have HSo := hide hSo
  have HOo := hide hOo
  clear hRB hSo hOo
  go_enter Try.func60, Try.ntmps60
  go_wp2_with fail
  refine (leaveOut_any R t (a + 1) bad ss op deep o _ ⟨_, _, ((unhide HRB).s1 (a + 1)).s4 _, own_keepR (unhide HSo) (grown_set (grown_set (grown_refl _ _) 1 _) 4 _), own_keepR (unhide HOo) (grown_set (grown_set (grown_refl _ _) 1 _) 4 _)⟩ ho hsl).mono ?_
  rintro e w1 ⟨rfl, h1, b1⟩
  have H1 := hide h1
  have B1 := hide b1
  clear h1 b1
  go_wp2_with fail
  go_end0
  exact ⟨rfl, unhide H1, (((Below.refl _ _).setCell (p := ⟨R, 1, none⟩) (Nat.le_refl _) _).setCell (p := ⟨R, 4, none⟩) (Nat.le_refl _) _).trans (unhide B1)⟩

theorem alloc_at {W : World} {o o' : Obj} {n : Nat} (hn : W.heap.size = n) (ho : o = o') : (W.alloc o).heap[n]? = some o' := by
  subst hn
  subst ho
  exact heap_alloc_new _ _

theorem stC_one (s : St) : ∀ u ∈ stC s, u.oneCell' = true := by
  intro u hu
  simp [stC] at hu
  rcases hu with rfl | rfl | rfl | ⟨k, _, rfl⟩ | rfl <;> rfl

/-- The cells of a new step, in a block of its own. -/
theorem news_cells {W : World} {g : Nat} {s : St} (h : W.heap[g]? = some (.cells (stC s).toArray 63 (0, 0))) : ∀ j u, (stC s)[j]? = some u → W.cell? ((⟨g, 0, none⟩ : Addr).add j) = some u := by
  intro j u hj
  rw [add_plain, Nat.zero_add, cell_of_row W g j _ _ _ h]
  simpa using hj

/-- A step is appended, and the list laid into the reader again. -/
theorem RA_append {W0 w1 : World} {R : Nat} {t : ByteArray} {a : Nat} {bad : Bool} {ss : List St} {op : List Nat} {deep : Int} {vs vo v' : Value} {s : St} {o : Obj}
    (hRB : RB W0 R t a bad vs vo deep) (hS : W0.ownsRow (R + 1) 63 12 vs ss.length (flat ss)) (hO : W0.ownsRow (R + 1) 3 1 vo op.length (opC op))
    (hown : w1.ownsRow (R + 1) 63 12 v' (ss.length + 1) (flat ss ++ stC s)) (hgrow : (W0.alloc o).grownBy w1 vs.ownBlock) :
    RA (w1.setCell ⟨R, 3, none⟩ v') R t a bad (ss ++ [s]) op deep ∧ Below R W0 (w1.setCell ⟨R, 3, none⟩ v') := by
  have hRlt : R < W0.heap.size := cell_lt hRB
  have hR1 : RB w1 R t a bad vs vo deep := RB.via hRB hgrow (own_base hS (Nat.lt_succ_self _)) (Go.heap_alloc_old _ _ hRlt)
  have hO1 := (World.ownsRow.alloc hO o).kept hgrow (own_apart hO hS (by decide))
  refine ⟨⟨v', vo, hR1.s3 v', ?_, own_keepR hO1 (grown_set (grown_refl _ _) 3 _)⟩, ?_⟩
  · rw [flat_snoc, List.length_append]
    exact own_keepR hown (grown_set (grown_refl _ _) 3 _)
  · have hb : Below R W0 w1 := ((Below.refl _ _).alloc (by omega) _).trans (below_of_grown hgrow (by simp; omega) (fun k hk => by have := (hS.lt k hk).1; omega))
    exact hb.setCell (p := ⟨R, 3, none⟩) (Nat.le_refl _) _

set_option maxHeartbeats 4000000 in
theorem close_H (R : Nat) (t : ByteArray) (a : Nat) (bad : Bool) (ss : List St) (op : List Nat) (o : Nat) (deep : Int) (w : World) (h : RA w R t a bad ss (op ++ [o]) deep) (ha : a ≤ 800) (ho : o < ss.length) (hsl : ss.length ≤ 1000) (hol : op.length ≤ 1000) (hk : (ss[o]).kind = 72) :
    Calls Try.prog 60 #[.pointer (some ⟨R, 0, none⟩)] w fun e w' => e = .returned (.tuple #[]) ∧ RA w' R t (a + 1) bad (ss ++ [stE]) op deep ∧ Below R w w' := by
  obtain ⟨gs, scap, go, ocap, hRB, hSo, hOo, hgs, hgo, hoc, hsc, hco, hcs⟩ := close_view h ho
  rw [hk] at hcs
  clear h hk
  obtain ⟨i0, hi, hz0, hz1, hz2⟩ := info_parts infoStep
  have hRlt : R < w.heap.size := cell_lt hRB
  have c1 := hRB.c1
  have c3 := hRB.c3
  have c4 := hRB.c4
  have f1 := hRB.fr 1
  have f4 := hRB.fr 4
  have HRB := hide hRB
  have HSo := hide hSo
  have HOo := hide hOo
  clear hRB hSo hOo
  go_enter Try.func60, Try.ntmps60
  go_wp2_with (at_builtin; refine wpList_append_own _ rfl (.tmp 52) (.tmp 54) 39 rfl (R + 1) 63 i0 _ 12 40 Try.underlying39 hi hz0 hz1 hz2 rfl (by decide) _ ss.length (flat ss) rfl (by exact World.ownsRow.alloc (own_keepR (unhide HSo) (grown_set (grown_set (grown_refl _ _) 1 _) 4 _)) _) ⟨w.heap.size, 0, none⟩ 1 1 (stC stE) rfl rfl (news_cells (alloc_at (by simp [World.setCell]) rfl)) (stC_one _) (by unfold maxLen; omega) (by omega) (by simp; omega) ?_; intro v' w1 hown hgrow _; have hR1 := RB.via (((unhide HRB).s1 (a + 1)).s4 (.slice (some ⟨go, 0, none⟩) op.length ocap)) hgrow (own_base (unhide HSo) (Nat.lt_succ_self _)) (by exact Go.heap_alloc_old _ _ (by simpa [World.setCell] using hRlt)); have c3' := hR1.c3; have f3' := hR1.fr 3; obtain ⟨a2, cap2, rfl, hle2, _⟩ := own_slice hown)
  go_end0
  have := RA_append (((unhide HRB).s1 (a + 1)).s4 (.slice (some ⟨go, 0, none⟩) op.length ocap)) (own_keepR (unhide HSo) (grown_set (grown_set (grown_refl _ _) 1 _) 4 _)) (own_keepR (unhide HOo) (grown_set (grown_set (grown_refl _ _) 1 _) 4 _)) hown hgrow
  exact ⟨rfl, this.1, (((Below.refl _ _).setCell (p := ⟨R, 1, none⟩) (Nat.le_refl _) _).setCell (p := ⟨R, 4, none⟩) (Nat.le_refl _) _).trans this.2⟩

/-- Behind the first block of I: J stands, I leaves it out, and the second block opens. -/
def closeI (ss : List St) (o : Nat) : List St := leaveM (ss ++ [stJ 0]) o

set_option maxHeartbeats 4000000 in
theorem close_I (R : Nat) (t : ByteArray) (a : Nat) (bad : Bool) (ss : List St) (op : List Nat) (o : Nat) (deep : Int) (w : World) (h : RA w R t a bad ss (op ++ [o]) deep) (hs : t.size ≤ 120) (ha : a ≤ 700) (ho : o < ss.length) (hsl : ss.length ≤ 900) (hol : op.length ≤ 900) (hk : (ss[o]).kind = 73) :
    Calls Try.prog 60 #[.pointer (some ⟨R, 0, none⟩)] w fun e w' => e = .returned (.tuple #[]) ∧ RA w' R t (openA t (a + 1) bad) (openB t (a + 1) bad) (closeI ss o) (openO t (a + 1) bad (ss.length + 1) op) (openD t (a + 1) bad op.length deep) ∧ Below R w w' := by
  obtain ⟨gs, scap, go, ocap, hRB, hSo, hOo, hgs, hgo, hoc, hsc, hco, hcs⟩ := close_view h ho
  rw [hk] at hcs
  clear h hk
  obtain ⟨i0, hi, hz0, hz1, hz2⟩ := info_parts infoStep
  have hRlt : R < w.heap.size := cell_lt hRB
  have c1 := hRB.c1
  have c3 := hRB.c3
  have c4 := hRB.c4
  have f1 := hRB.fr 1
  have f4 := hRB.fr 4
  have HRB := hide hRB
  have HSo := hide hSo
  have HOo := hide hOo
  clear hRB hSo hOo
  go_enter Try.func60, Try.ntmps60
  go_wp2_with (at_builtin; refine wpList_append_own _ rfl (.tmp 64) (.tmp 66) 39 rfl (R + 1) 63 i0 _ 12 40 Try.underlying39 hi hz0 hz1 hz2 rfl (by decide) _ ss.length (flat ss) rfl (by exact World.ownsRow.alloc (own_keepR (unhide HSo) (grown_set (grown_set (grown_refl _ _) 1 _) 4 _)) _) ⟨w.heap.size, 0, none⟩ 1 1 (stC (stJ 0)) rfl rfl (news_cells (alloc_at (by simp [World.setCell]) rfl)) (stC_one _) (by unfold maxLen; omega) (by omega) (by simp; omega) ?_; intro v' w1 hown hgrow _; have hR1 := RB.via (((unhide HRB).s1 (a + 1)).s4 (.slice (some ⟨go, 0, none⟩) op.length ocap)) hgrow (own_base (unhide HSo) (Nat.lt_succ_self _)) (by exact Go.heap_alloc_old _ _ (by simpa [World.setCell] using hRlt)); have c3' := hR1.c3; have f3' := hR1.fr 3; obtain ⟨a2, cap2, rfl, hle2, _⟩ := own_slice hown)
  have hA := RA_append (((unhide HRB).s1 (a + 1)).s4 (.slice (some ⟨go, 0, none⟩) op.length ocap)) (own_keepR (unhide HSo) (grown_set (grown_set (grown_refl _ _) 1 _) 4 _)) (own_keepR (unhide HOo) (grown_set (grown_set (grown_refl _ _) 1 _) 4 _)) hown hgrow
  have HA := hide hA
  clear hA hown hgrow hR1 c3' f3' c1 c3 c4 f1 f4 hi hz0 hz1 hz2
  refine (leaveOut_any R t (a + 1) bad (ss ++ [stJ 0]) op deep o _ (unhide HA).1 (by simp; omega) (by simp; omega)).mono ?_
  rintro e w2 ⟨rfl, h2, b2⟩
  have H2 := hide h2
  have B2 := hide b2
  clear h2 b2
  go_wp2_with fail
  refine (openBlock_any R t (a + 1) bad (closeI ss o) op deep _ (unhide H2) hs (by omega) (by simp [closeI, leaveM]) (by simp [closeI, leaveM]; omega) (by omega)).mono ?_
  rintro e w3 ⟨rfl, h3, b3⟩
  have hl : (closeI ss o).length = ss.length + 1 := by simp [closeI, leaveM]
  rw [hl] at h3
  have H3 := hide h3
  have B3 := hide b3
  clear h3 b3 hl
  go_wp2_with fail
  go_end0
  exact ⟨rfl, unhide H3, ((((Below.refl _ _).setCell (p := ⟨R, 1, none⟩) (Nat.le_refl _) _).setCell (p := ⟨R, 4, none⟩) (Nat.le_refl _) _).trans (unhide HA).2).trans ((unhide B2).trans (unhide B3))⟩
end Go.Proofs.Ytbpolcnjojlkjab
