/- Reader4, Thru -/
import Derived.Test.YtbpolcnjojlkjabPack4
import Derived.Test.YtbpolcnjojlkjabPack11
import Derived.Test.YtbpolcnjojlkjabPack5
import Derived.Deep.LoopGhost

/- split's closeBlock. -/
namespace Go.Proofs.Ytbpolcnjojlkjab
open Go.ChangeShapes Go.WideShapes Go.ChangeAt Go.RowKit
open Split (byt dig buc digM bucM riseB riseM risM headM byt_lt byt_ge dig_t dig_f buc_t buc_f numM St stE stJ)
set_option linter.unusedVariables false
set_option linter.unusedSimpArgs false
set_option maxRecDepth 4000

theorem flat_kind : ∀ (ss : List St) (o : Nat) (h : o < ss.length), (flat ss)[o * 12]? = some (.int .u8 (ss[o]).kind)
  | [], o, h => by simp at h
  | s :: ss, 0, h => by
    show (stC s ++ flat ss)[0 * 12]? = _
    rw [List.getElem?_append_left (by rw [stC_len]; omega)]
    rfl
  | s :: ss, o + 1, h => by
    show (stC s ++ flat ss)[(o + 1) * 12]? = _
    rw [List.getElem?_append_right (by rw [stC_len]; omega), stC_len, show (o + 1) * 12 - 12 = o * 12 by omega, flat_kind ss o (by simpa using h)]
    rfl

theorem close_none (R : Nat) (t : ByteArray) (a : Nat) (bad : Bool) (ss : List St) (deep : Int) (w : World) (h : RA w R t a bad ss [] deep) :
    Calls Try.prog 60 #[.pointer (some ⟨R, 0, none⟩)] w fun e w' => e = .returned (.tuple #[]) ∧ RA w' R t a true ss [] deep ∧ Below R w w' := by
  obtain ⟨vs, vo, hRB, hSo, hOo⟩ := h
  have hRlt : R < w.heap.size := cell_lt hRB
  obtain ⟨oa, ocap, rfl, hoc, _⟩ := own_slice hOo
  have c4 := hRB.c4
  have c2 := hRB.c2
  have f2 := hRB.fr 2
  have HRB := hide hRB
  have HSo := hide hSo
  have HOo := hide hOo
  clear hRB hSo hOo
  go_enter Try.func60, Try.ntmps60
  go_wp2_with fail
  refine bodyPost_ret (v := .tuple #[]) (by simp [results, Try.results60, go_sem]) rfl ?_
  refine ⟨rfl, ⟨vs, _, (unhide HRB).s2 true, own_keepR (unhide HSo) (grown_set (grown_refl _ _) 2 _), own_keepR (unhide HOo) (grown_set (grown_refl _ _) 2 _)⟩, (Below.refl _ _).setCell (p := ⟨R, 2, none⟩) (Nat.le_refl _) _⟩

/-- What closeBlock finds: the lists' heads and the cells that it reads. -/
theorem close_view {w : World} {R : Nat} {t : ByteArray} {a : Nat} {bad : Bool} {ss : List St} {op : List Nat} {o : Nat} {deep : Int} (h : RA w R t a bad ss (op ++ [o]) deep) (ho : o < ss.length) :
    ∃ gs scap go ocap, RB w R t a bad (.slice (some ⟨gs, 0, none⟩) ss.length scap) (.slice (some ⟨go, 0, none⟩) (op.length + 1) ocap) deep ∧
      w.ownsRow (R + 1) 63 12 (.slice (some ⟨gs, 0, none⟩) ss.length scap) ss.length (flat ss) ∧
      w.ownsRow (R + 1) 3 1 (.slice (some ⟨go, 0, none⟩) op.length ocap) op.length (opC op) ∧
      R + 1 ≤ gs ∧ R + 1 ≤ go ∧ op.length + 1 ≤ ocap ∧ ss.length ≤ scap ∧
      w.cell? ⟨go, op.length, none⟩ = some (.int .i64 (o : Nat)) ∧ w.cell? ⟨gs, o * 12, none⟩ = some (.int .u8 (ss[o]).kind) := by
  obtain ⟨vs, vo, hRB, hSo, hOo⟩ := h
  obtain ⟨sa, scap, rfl, hsc, hsa⟩ := own_slice hSo
  obtain ⟨gs, rfl⟩ := hsa (by omega)
  obtain ⟨oa, ocap, rfl, hoc, hoa⟩ := own_slice hOo
  obtain ⟨go, rfl⟩ := hoa (by simp)
  have hl : (op ++ [o]).length = op.length + 1 := by simp
  have hop : opC (op ++ [o]) = opC op ++ [.int .i64 (o : Nat)] := by simp [opC]
  rw [hl] at hOo hRB hoc
  rw [hop] at hOo
  refine ⟨gs, scap, go, ocap, hRB, hSo, ownsRow_pop (by simp [opC]) hOo, (hSo.lt gs rfl).1, (hOo.lt go rfl).1, hoc, hsc, ?_, ?_⟩
  · rw [hOo.cellAt _ (by omega), List.getElem?_append_right (by simp [opC])]
    simp [opC]
  · rw [hSo.cellAt _ (by omega), flat_kind ss o ho]

set_option maxHeartbeats 4000000 in
theorem close_J (R : Nat) (t : ByteArray) (a : Nat) (bad : Bool) (ss : List St) (op : List Nat) (o : Nat) (deep : Int) (w : World) (h : RA w R t a bad ss (op ++ [o]) deep) (ha : a ≤ 800) (ho : o < ss.length) (hsl : ss.length ≤ 1000) (hol : op.length ≤ 1000) (hk : (ss[o]).kind = 74) :
    Calls Try.prog 60 #[.pointer (some ⟨R, 0, none⟩)] w fun e w' => e = .returned (.tuple #[]) ∧ RA w' R t (a + 1) bad (leaveM ss o) op deep ∧ Below R w w' := by
  obtain ⟨gs, scap, go, ocap, hRB, hSo, hOo, hgs, hgo, hoc, hsc, hco, hcs⟩ := close_view h ho
  rw [hk] at hcs
  clear h hk
  have hRlt : R < w.heap.size := cell_lt hRB
  have c1 := hRB.c1
  have c3 := hRB.c3
  have c4 := hRB.c4
  have f1 := hRB.fr 1
  have f4 := hRB.fr 4
  have HRB := hide hRB
  have HSo := hide hSo
  have HOo := hide hOo
  clear hRB hSo hOo
  go_enter Try.func60, Try.ntmps60
  go_wp2_with fail
  refine (leaveOut_any R t (a + 1) bad ss op deep o _ ⟨_, _, ((unhide HRB).s1 (a + 1)).s4 _, own_keepR (unhide HSo) (grown_set (grown_set (grown_refl _ _) 1 _) 4 _), own_keepR (unhide HOo) (grown_set (grown_set (grown_refl _ _) 1 _) 4 _)⟩ ho hsl).mono ?_
  rintro e w1 ⟨rfl, h1, b1⟩
  have H1 := hide h1
  have B1 := hide b1
  clear h1 b1
  go_wp2_with fail
  go_end0
  exact ⟨rfl, unhide H1, (((Below.refl _ _).setCell (p := ⟨R, 1, none⟩) (Nat.le_refl _) _).setCell (p := ⟨R, 4, none⟩) (Nat.le_refl _) _).trans (unhide B1)⟩

theorem alloc_at {W : World} {o o' : Obj} {n : Nat} (hn : W.heap.size = n) (ho : o = o') : (W.alloc o).heap[n]? = some o' := by
  subst hn
  subst ho
  exact heap_alloc_new _ _

theorem stC_one (s : St) : ∀ u ∈ stC s, u.oneCell' = true := by
  intro u hu
  simp [stC] at hu
  rcases hu with rfl | rfl | rfl | ⟨k, _, rfl⟩ | rfl <;> rfl

/-- The cells of a new step, in a block of its own. -/
theorem news_cells {W : World} {g : Nat} {s : St} (h : W.heap[g]? = some (.cells (stC s).toArray 63 (0, 0))) : ∀ j u, (stC s)[j]? = some u → W.cell? ((⟨g, 0, none⟩ : Addr).add j) = some u := by
  intro j u hj
  rw [add_plain, Nat.zero_add, cell_of_row W g j _ _ _ h]
  simpa using hj

/-- A step is appended, and the list laid into the reader again. -/
theorem RA_append {W0 w1 : World} {R : Nat} {t : ByteArray} {a : Nat} {bad : Bool} {ss : List St} {op : List Nat} {deep : Int} {vs vo v' : Value} {s : St} {o : Obj}
    (hRB : RB W0 R t a bad vs vo deep) (hS : W0.ownsRow (R + 1) 63 12 vs ss.length (flat ss)) (hO : W0.ownsRow (R + 1) 3 1 vo op.length (opC op))
    (hown : w1.ownsRow (R + 1) 63 12 v' (ss.length + 1) (flat ss ++ stC s)) (hgrow : (W0.alloc o).grownBy w1 vs.ownBlock) :
    RA (w1.setCell ⟨R, 3, none⟩ v') R t a bad (ss ++ [s]) op deep ∧ Below R W0 (w1.setCell ⟨R, 3, none⟩ v') := by
  have hRlt : R < W0.heap.size := cell_lt hRB
  have hR1 : RB w1 R t a bad vs vo deep := RB.via hRB hgrow (own_base hS (Nat.lt_succ_self _)) (Go.heap_alloc_old _ _ hRlt)
  have hO1 := (World.ownsRow.alloc hO o).kept hgrow (own_apart hO hS (by decide))
  refine ⟨⟨v', vo, hR1.s3 v', ?_, own_keepR hO1 (grown_set (grown_refl _ _) 3 _)⟩, ?_⟩
  · rw [flat_snoc, List.length_append]
    exact own_keepR hown (grown_set (grown_refl _ _) 3 _)
  · have hb : Below R W0 w1 := ((Below.refl _ _).alloc (by omega) _).trans (below_of_grown hgrow (by simp; omega) (fun k hk => by have := (hS.lt k hk).1; omega))
    exact hb.setCell (p := ⟨R, 3, none⟩) (Nat.le_refl _) _

set_option maxHeartbeats 4000000 in
theorem close_H (R : Nat) (t : ByteArray) (a : Nat) (bad : Bool) (ss : List St) (op : List Nat) (o : Nat) (deep : Int) (w : World) (h : RA w R t a bad ss (op ++ [o]) deep) (ha : a ≤ 800) (ho : o < ss.length) (hsl : ss.length ≤ 1000) (hol : op.length ≤ 1000) (hk : (ss[o]).kind = 72) :
    Calls Try.prog 60 #[.pointer (some ⟨R, 0, none⟩)] w fun e w' => e = .returned (.tuple #[]) ∧ RA w' R t (a + 1) bad (ss ++ [stE]) op deep ∧ Below R w w' := by
  obtain ⟨gs, scap, go, ocap, hRB, hSo, hOo, hgs, hgo, hoc, hsc, hco, hcs⟩ := close_view h ho
  rw [hk] at hcs
  clear h hk
  obtain ⟨i0, hi, hz0, hz1, hz2⟩ := info_parts infoStep
  have hRlt : R < w.heap.size := cell_lt hRB
  have c1 := hRB.c1
  have c3 := hRB.c3
  have c4 := hRB.c4
  have f1 := hRB.fr 1
  have f4 := hRB.fr 4
  have HRB := hide hRB
  have HSo := hide hSo
  have HOo := hide hOo
  clear hRB hSo hOo
  go_enter Try.func60, Try.ntmps60
  go_wp2_with (at_builtin; refine wpList_append_own _ rfl (.tmp 52) (.tmp 54) 39 rfl (R + 1) 63 i0 _ 12 40 Try.underlying39 hi hz0 hz1 hz2 rfl (by decide) _ ss.length (flat ss) rfl (by exact World.ownsRow.alloc (own_keepR (unhide HSo) (grown_set (grown_set (grown_refl _ _) 1 _) 4 _)) _) ⟨w.heap.size, 0, none⟩ 1 1 (stC stE) rfl rfl (news_cells (alloc_at (by simp [World.setCell]) rfl)) (stC_one _) (by unfold maxLen; omega) (by omega) (by simp; omega) ?_; intro v' w1 hown hgrow _; have hR1 := RB.via (((unhide HRB).s1 (a + 1)).s4 (.slice (some ⟨go, 0, none⟩) op.length ocap)) hgrow (own_base (unhide HSo) (Nat.lt_succ_self _)) (by exact Go.heap_alloc_old _ _ (by simpa [World.setCell] using hRlt)); have c3' := hR1.c3; have f3' := hR1.fr 3; obtain ⟨a2, cap2, rfl, hle2, _⟩ := own_slice hown)
  go_end0
  have := RA_append (((unhide HRB).s1 (a + 1)).s4 (.slice (some ⟨go, 0, none⟩) op.length ocap)) (own_keepR (unhide HSo) (grown_set (grown_set (grown_refl _ _) 1 _) 4 _)) (own_keepR (unhide HOo) (grown_set (grown_set (grown_refl _ _) 1 _) 4 _)) hown hgrow
  exact ⟨rfl, this.1, (((Below.refl _ _).setCell (p := ⟨R, 1, none⟩) (Nat.le_refl _) _).setCell (p := ⟨R, 4, none⟩) (Nat.le_refl _) _).trans this.2⟩

/-- Behind the first block of I: J stands, I leaves it out, and the second block opens. -/
def closeI (ss : List St) (o : Nat) : List St := leaveM (ss ++ [stJ 0]) o

set_option maxHeartbeats 4000000 in
theorem close_I (R : Nat) (t : ByteArray) (a : Nat) (bad : Bool) (ss : List St) (op : List Nat) (o : Nat) (deep : Int) (w : World) (h : RA w R t a bad ss (op ++ [o]) deep) (hs : t.size ≤ 120) (ha : a ≤ 700) (ho : o < ss.length) (hsl : ss.length ≤ 900) (hol : op.length ≤ 900) (hk : (ss[o]).kind = 73) :
    Calls Try.prog 60 #[.pointer (some ⟨R, 0, none⟩)] w fun e w' => e = .returned (.tuple #[]) ∧ RA w' R t (openA t (a + 1) bad) (openB t (a + 1) bad) (closeI ss o) (openO t (a + 1) bad (ss.length + 1) op) (openD t (a + 1) bad op.length deep) ∧ Below R w w' := by
  obtain ⟨gs, scap, go, ocap, hRB, hSo, hOo, hgs, hgo, hoc, hsc, hco, hcs⟩ := close_view h ho
  rw [hk] at hcs
  clear h hk
  obtain ⟨i0, hi, hz0, hz1, hz2⟩ := info_parts infoStep
  have hRlt : R < w.heap.size := cell_lt hRB
  have c1 := hRB.c1
  have c3 := hRB.c3
  have c4 := hRB.c4
  have f1 := hRB.fr 1
  have f4 := hRB.fr 4
  have HRB := hide hRB
  have HSo := hide hSo
  have HOo := hide hOo
  clear hRB hSo hOo
  go_enter Try.func60, Try.ntmps60
  go_wp2_with (at_builtin; refine wpList_append_own _ rfl (.tmp 64) (.tmp 66) 39 rfl (R + 1) 63 i0 _ 12 40 Try.underlying39 hi hz0 hz1 hz2 rfl (by decide) _ ss.length (flat ss) rfl (by exact World.ownsRow.alloc (own_keepR (unhide HSo) (grown_set (grown_set (grown_refl _ _) 1 _) 4 _)) _) ⟨w.heap.size, 0, none⟩ 1 1 (stC (stJ 0)) rfl rfl (news_cells (alloc_at (by simp [World.setCell]) rfl)) (stC_one _) (by unfold maxLen; omega) (by omega) (by simp; omega) ?_; intro v' w1 hown hgrow _; have hR1 := RB.via (((unhide HRB).s1 (a + 1)).s4 (.slice (some ⟨go, 0, none⟩) op.length ocap)) hgrow (own_base (unhide HSo) (Nat.lt_succ_self _)) (by exact Go.heap_alloc_old _ _ (by simpa [World.setCell] using hRlt)); have c3' := hR1.c3; have f3' := hR1.fr 3; obtain ⟨a2, cap2, rfl, hle2, _⟩ := own_slice hown)
  have hA := RA_append (((unhide HRB).s1 (a + 1)).s4 (.slice (some ⟨go, 0, none⟩) op.length ocap)) (own_keepR (unhide HSo) (grown_set (grown_set (grown_refl _ _) 1 _) 4 _)) (own_keepR (unhide HOo) (grown_set (grown_set (grown_refl _ _) 1 _) 4 _)) hown hgrow
  have HA := hide hA
  clear hA hown hgrow hR1 c3' f3' c1 c3 c4 f1 f4 hi hz0 hz1 hz2
  refine (leaveOut_any R t (a + 1) bad (ss ++ [stJ 0]) op deep o _ (unhide HA).1 (by simp; omega) (by simp; omega)).mono ?_
  rintro e w2 ⟨rfl, h2, b2⟩
  have H2 := hide h2
  have B2 := hide b2
  clear h2 b2
  go_wp2_with fail
  refine (openBlock_any R t (a + 1) bad (closeI ss o) op deep _ (unhide H2) hs (by omega) (by simp [closeI, leaveM]) (by simp [closeI, leaveM]; omega) (by omega)).mono ?_
  rintro e w3 ⟨rfl, h3, b3⟩
  have hl : (closeI ss o).length = ss.length + 1 := by simp [closeI, leaveM]
  rw [hl] at h3
  have H3 := hide h3
  have B3 := hide b3
  clear h3 b3 hl
  go_wp2_with fail
  go_end0
  exact ⟨rfl, unhide H3, ((((Below.refl _ _).setCell (p := ⟨R, 1, none⟩) (Nat.le_refl _) _).setCell (p := ⟨R, 4, none⟩) (Nat.le_refl _) _).trans (unhide HA).2).trans ((unhide B2).trans (unhide B3))⟩
end Go.Proofs.Ytbpolcnjojlkjab

/- split's goThrough. -/
namespace Go.Proofs.Ytbpolcnjojlkjab
open Go.ChangeShapes Go.WideShapes Go.ChangeAt Go.RowKit
open Split (Pu lea paySum payM Keeps holdM backM amTo Pf propTo argTo leftM propM St SOk doM skipM execM)
set_option linter.unusedVariables false
set_option linter.unusedSimpArgs false

theorem flat_get : ∀ (ss : List St) (o j : Nat) (h : o < ss.length), j < 12 → (flat ss)[o * 12 + j]? = (stC (ss[o]))[j]?
  | [], o, j, h, _ => by simp at h
  | s :: ss, 0, j, h, hj => by
    show (stC s ++ flat ss)[0 * 12 + j]? = _
    rw [List.getElem?_append_left (by rw [stC_len]; omega), Nat.zero_mul, Nat.zero_add]
    rfl
  | s :: ss, o + 1, j, h, hj => by
    show (stC s ++ flat ss)[(o + 1) * 12 + j]? = _
    rw [List.getElem?_append_right (by rw [stC_len]; omega), stC_len, show (o + 1) * 12 + j - 12 = o * 12 + j by omega, flat_get ss o j (by simpa using h) hj]
    rfl

/-- The twelve cells of a step. -/
theorem step_cells {w : World} {base gs n cap o : Nat} {ss : List St} {k b a l : Int} {m0 m1 m2 m3 m4 m5 m6 m7 : Bool} (h : w.ownsRow base 63 12 (.slice (some ⟨gs, 0, none⟩) n cap) n (flat ss)) (hn : ss.length = n) (ho : o < ss.length) (hs : ss[o] = ⟨k, b, a, [m0, m1, m2, m3, m4, m5, m6, m7], l⟩) :
    w.cell? ⟨gs, o * 12, none⟩ = some (.int .u8 k) ∧ w.cell? ⟨gs, o * 12 + 1, none⟩ = some (.int .i64 b) ∧ w.cell? ⟨gs, o * 12 + 2, none⟩ = some (.int .i64 a) ∧ w.cell? ⟨gs, o * 12 + 3, none⟩ = some (.bool m0) ∧ w.cell? ⟨gs, o * 12 + 4, none⟩ = some (.bool m1) ∧ w.cell? ⟨gs, o * 12 + 5, none⟩ = some (.bool m2) ∧ w.cell? ⟨gs, o * 12 + 6, none⟩ = some (.bool m3) ∧ w.cell? ⟨gs, o * 12 + 7, none⟩ = some (.bool m4) ∧ w.cell? ⟨gs, o * 12 + 8, none⟩ = some (.bool m5) ∧ w.cell? ⟨gs, o * 12 + 9, none⟩ = some (.bool m6) ∧ w.cell? ⟨gs, o * 12 + 10, none⟩ = some (.bool m7) ∧ w.cell? ⟨gs, o * 12 + 11, none⟩ = some (.int .i64 l) := by
  have key : ∀ j, j < 12 → w.cell? ⟨gs, o * 12 + j, none⟩ = (stC ⟨k, b, a, [m0, m1, m2, m3, m4, m5, m6, m7], l⟩)[j]? := by
    intro j hj
    rw [h.cellAt _ (by omega), flat_get ss o j ho hj, hs]
  refine ⟨key 0 (by omega), key 1 (by omega), key 2 (by omega), key 3 (by omega), key 4 (by omega), key 5 (by omega), key 6 (by omega), key 7 (by omega), key 8 (by omega), key 9 (by omega), key 10 (by omega), key 11 (by omega)⟩

theorem exec_next (ss : List St) (f pc : Nat) (p : Pu) (h : pc < ss.length) : execM ss (f + 1) pc p = execM ss f (pc + 1 + skipM (ss[pc]) p) (doM (ss[pc]) p) := by
  simp only [execM, List.getElem?_eq_getElem h]
theorem exec_stop (ss : List St) (f pc : Nat) (p : Pu) (h : ¬ pc < ss.length) : execM ss f pc p = p := by
  cases f with
  | zero => rfl
  | succ f => simp only [execM, List.getElem?_eq_none (show ss.length ≤ pc by omega)]

set_option maxHeartbeats 8000000 in
theorem goThrough_any (P : Nat) (p0 : Pu) (M : Int) (o0 : List Int) (ss : List St) (base gs cap : Nat) (w : World) (h : PA w P p0) (hk : Keeps M o0 p0) (hh : p0.held = [])
    (hS : w.ownsRow base 63 12 (.slice (some ⟨gs, 0, none⟩) ss.length cap) ss.length (flat ss)) (hgs : gs < P) (hok : ∀ s ∈ ss, SOk s) (hl : ss.length ≤ 200) :
    Calls Try.prog 40 #[.pointer (some ⟨P, 0, none⟩), .slice (some ⟨gs, 0, none⟩) ss.length cap] w fun e w' => e = .returned (.tuple #[]) ∧ PA w' P (execM ss ss.length 0 p0) ∧ Below P w w' := by
  have HPA := hide h
  have HK := hide hk
  have HS := hide hS
  have HOK := hide hok
  have hcap : ss.length ≤ cap := by
    obtain ⟨a, c, e, hc, _⟩ := own_slice hS
    simp at e
    omega
  have HH := hide hh
  clear h hk hS hok hh
  go_enter Try.func40, Try.ntmps40
  go_wp2_with fail
  go_loopg [4, 5] ss.length (fun f at' _ wr => ∃ (pc : Nat) (p : Pu), pc ≤ 2000 ∧ ss.length - pc ≤ f ∧ at' = .int .i64 pc ∧ Hid (PA wr P p) ∧ Hid (Keeps M o0 p) ∧ Hid (p.held.length ≤ pc) ∧ Hid (execM ss ss.length 0 p0 = execM ss f pc p) ∧ Hid (Below P w wr))
  case atStart => exact ⟨0, p0, by omega, by omega, rfl, HPA, HK, by rw [unhide HH]; exact Nat.le_refl _, rfl, Below.refl _ _⟩
  case round =>
    obtain ⟨pc, p, hpc, hf, rfl, hp, hkp, hhl, hex, hb⟩ := hrel
    clear HPA HK HH
    have hPw : P < wr.heap.size := (unhide hp).lt
    by_cases hlt : pc < ss.length
    · obtain ⟨f', hf'⟩ : ∃ f', gk = f' + 1 := ⟨gk - 1, by omega⟩
      have hex' : Hid (execM ss ss.length 0 p0 = execM ss f' (pc + 1 + skipM (ss[pc]) p) (doM (ss[pc]) p)) := by
        have := unhide hex
        rw [hf', exec_next ss f' pc p hlt] at this
        exact this
      have hm : Hid (f' < gk ∧ ss.length - (pc + 1) ≤ f') := ⟨by omega, by omega⟩
      clear hf' hex hf
      have hso := unhide HOK _ (List.getElem_mem hlt)
      have hkd := Split.do_keeps (unhide hkp) hso
      have hhd := Split.do_held (ss[pc]) p
      obtain ⟨⟨kind, bucket, amount, among, leave⟩, hse⟩ : ∃ s, ss[pc] = s := ⟨_, rfl⟩
      rw [hse] at hex' hso hkd hhd
      obtain ⟨⟨b, hb8, hbe⟩, ha0, ha1, hah, ham, ⟨l, hl1, hle⟩⟩ := hso
      dsimp only at hbe ha0 ha1 hah ham hle
      subst hbe
      subst hle
      obtain ⟨m0, m1, m2, m3, m4, m5, m6, m7, hame⟩ : ∃ m0 m1 m2 m3 m4 m5 m6 m7, among = [m0, m1, m2, m3, m4, m5, m6, m7] := by
        match among, ham with
        | [m0, m1, m2, m3, m4, m5, m6, m7], _ => exact ⟨m0, m1, m2, m3, m4, m5, m6, m7, rfl⟩
      subst hame
      have hcells := step_cells (unhide HS) rfl hlt hse
      obtain ⟨d0, d1, d2, d3, d4, d5, d6, d7, d8, d9, d10, d11⟩ := hcells
      rw [← (unhide hb).cell (p := ⟨gs, _, none⟩) hgs] at d0 d1 d2 d3 d4 d5 d6 d7 d8 d9 d10 d11
      have hpn := hide ((unhide hp).grown (World.grownBy_alloc wr (.cells #[.int .u8 kind, .int .i64 (b : Nat), .int .i64 amount, .bool m0, .bool m1, .bool m2, .bool m3, .bool m4, .bool m5, .bool m6, .bool m7, .int .i64 (l : Nat)] 63) none) (by simp) (by simp))
      have hbn := hide ((unhide hb).alloc (by omega) (.cells #[.int .u8 kind, .int .i64 (b : Nat), .int .i64 amount, .bool m0, .bool m1, .bool m2, .bool m3, .bool m4, .bool m5, .bool m6, .bool m7, .int .i64 (l : Nat)] 63))
      have HKD := hide hkd
      have HHD := hide hhd
      clear hkd hhd ham hse
      by_cases k80 : kind = 80
      · subst k80
        have e1 : doM ⟨80, (b : Nat), amount, [m0, m1, m2, m3, m4, m5, m6, m7], (l : Nat)⟩ p = payM p b 1000000000 := by simp [doM]
        have e2 : skipM ⟨80, (b : Nat), amount, [m0, m1, m2, m3, m4, m5, m6, m7], (l : Nat)⟩ p = 0 := by simp [skipM]
        rw [e1] at hex' HKD HHD
        rw [e2] at hex'
        clear e1 e2
        go_wp2_with fail
        refine (pay_any P p M o0 b _ (unhide hpn) (unhide hkp) hb8).mono ?_
        rintro e w2 ⟨rfl, h2, g2⟩
        have H2 := hide h2
        have B2 := hide ((unhide hbn).trans (below_of_grown (B := P) g2 (by simp; omega) (fun k hk => by simp at hk; omega)))
        clear h2 g2
        go_wp2_with fail
        go_roundg f'
        case measure => exact (unhide hm).1
        case rel => exact ⟨pc + 1, payM p b 1000000000, by omega, (unhide hm).2, by go_num, H2, HKD, by have := unhide HHD; have := unhide hhl; show _ ≤ _; omega, hex', B2⟩
      by_cases k67 : kind = 67
      · subst k67
        have e1 : doM ⟨67, (b : Nat), amount, [m0, m1, m2, m3, m4, m5, m6, m7], (l : Nat)⟩ p = payM p b amount := by simp [doM]
        have e2 : skipM ⟨67, (b : Nat), amount, [m0, m1, m2, m3, m4, m5, m6, m7], (l : Nat)⟩ p = 0 := by simp [skipM]
        rw [e1] at hex' HKD HHD
        rw [e2] at hex'
        clear e1 e2
        go_wp2_with fail
        refine (payAtMost_any P p M o0 b amount _ (unhide hpn) (unhide hkp) hb8 ha0 (by omega)).mono ?_
        rintro e w2 ⟨rfl, h2, g2⟩
        have H2 := hide h2
        have B2 := hide ((unhide hbn).trans (below_of_grown (B := P) g2 (by simp; omega) (fun k hk => by simp at hk; omega)))
        clear h2 g2
        go_wp2_with fail
        go_roundg f'
        case measure => exact (unhide hm).1
        case rel => exact ⟨pc + 1, payM p b amount, by omega, (unhide hm).2, by go_num, H2, HKD, by have := unhide HHD; have := unhide hhl; show _ ≤ _; omega, hex', B2⟩
      by_cases k82 : kind = 82
      · subst k82
        have e1 : doM ⟨82, (b : Nat), amount, [m0, m1, m2, m3, m4, m5, m6, m7], (l : Nat)⟩ p = propM p [m0, m1, m2, m3, m4, m5, m6, m7] := by simp [doM]
        have e2 : skipM ⟨82, (b : Nat), amount, [m0, m1, m2, m3, m4, m5, m6, m7], (l : Nat)⟩ p = 0 := by simp [skipM]
        rw [e1] at hex' HKD HHD
        rw [e2] at hex'
        clear e1 e2
        go_wp2_with fail
        refine (payInProportion_any P p M o0 m0 m1 m2 m3 m4 m5 m6 m7 _ (unhide hpn) (unhide hkp)).mono ?_
        rintro e w2 ⟨rfl, h2, g2⟩
        have H2 := hide h2
        have B2 := hide ((unhide hbn).trans (below_of_grown (B := P) g2 (by simp; omega) (fun k hk => by simp at hk; omega)))
        clear h2 g2
        go_wp2_with fail
        go_roundg f'
        case measure => exact (unhide hm).1
        case rel => exact ⟨pc + 1, propM p [m0, m1, m2, m3, m4, m5, m6, m7], by omega, (unhide hm).2, by go_num, H2, HKD, by have := unhide HHD; have := unhide hhl; show _ ≤ _; omega, hex', B2⟩
      by_cases k72 : kind = 72
      · subst k72
        have h100 : amount ≤ 100 := hah rfl
        clear hah
        have e1 : doM ⟨72, (b : Nat), amount, [m0, m1, m2, m3, m4, m5, m6, m7], (l : Nat)⟩ p = holdM p amount := by simp [doM]
        have e2 : skipM ⟨72, (b : Nat), amount, [m0, m1, m2, m3, m4, m5, m6, m7], (l : Nat)⟩ p = 0 := by simp [skipM]
        rw [e1] at hex' HKD HHD
        rw [e2] at hex'
        clear e1 e2
        go_wp2_with fail
        refine (hold_any P p M o0 amount _ (unhide hpn) (unhide hkp) ha0 h100 (by have := unhide hhl; omega)).mono ?_
        rintro e w2 ⟨rfl, h2, g2⟩
        have H2 := hide h2
        have B2 := hide ((unhide hbn).trans g2)
        clear h2 g2
        go_wp2_with fail
        go_roundg f'
        case measure => exact (unhide hm).1
        case rel => exact ⟨pc + 1, holdM p amount, by omega, (unhide hm).2, by go_num, H2, HKD, by have := unhide HHD; have := unhide hhl; show _ ≤ _; omega, hex', B2⟩
      by_cases k69 : kind = 69
      · subst k69
        have e1 : doM ⟨69, (b : Nat), amount, [m0, m1, m2, m3, m4, m5, m6, m7], (l : Nat)⟩ p = backM p := by simp [doM]
        have e2 : skipM ⟨69, (b : Nat), amount, [m0, m1, m2, m3, m4, m5, m6, m7], (l : Nat)⟩ p = 0 := by simp [skipM]
        rw [e1] at hex' HKD HHD
        rw [e2] at hex'
        clear e1 e2
        go_wp2_with fail
        refine (takeBack_any P p M o0 _ (unhide hpn) (unhide hkp) (by have := unhide hhl; omega)).mono ?_
        rintro e w2 ⟨rfl, h2, g2⟩
        have H2 := hide h2
        have B2 := hide ((unhide hbn).trans g2)
        clear h2 g2
        go_wp2_with fail
        go_roundg f'
        case measure => exact (unhide hm).1
        case rel => exact ⟨pc + 1, backM p, by omega, (unhide hm).2, by go_num, H2, HKD, by have := unhide HHD; have := unhide hhl; show _ ≤ _; omega, hex', B2⟩
      by_cases k74 : kind = 74
      · subst k74
        have e1 : doM ⟨74, (b : Nat), amount, [m0, m1, m2, m3, m4, m5, m6, m7], (l : Nat)⟩ p = p := by simp [doM]
        have e2 : skipM ⟨74, (b : Nat), amount, [m0, m1, m2, m3, m4, m5, m6, m7], (l : Nat)⟩ p = l := by simp [skipM]
        rw [e1] at hex' HKD HHD
        rw [e2] at hex'
        clear e1 e2
        go_wp2_with fail
        go_roundg f'
        case measure => exact (unhide hm).1
        case rel => exact ⟨pc + 1 + l, p, by omega, by have := (unhide hm).2; omega, by go_num, hpn, HKD, by have := unhide hhl; show _ ≤ _; omega, hex', hbn⟩
      have co : wr.cell? ⟨P, 2 + b, none⟩ = some (.int .i64 (p.owed.getD b 0)) := by
        obtain ⟨vh, hP, _⟩ := unhide hp
        exact hP.owed_cell b hb8
      obtain ⟨x, hx⟩ : ∃ x, p.owed.getD b 0 = x := ⟨_, rfl⟩
      rw [hx] at co
      have HX := hide hx
      clear hx
      by_cases k73 : kind = 73
      · subst k73
        have e1 : doM ⟨73, (b : Nat), amount, [m0, m1, m2, m3, m4, m5, m6, m7], (l : Nat)⟩ p = p := by simp [doM]
        rw [e1] at hex' HKD HHD
        clear e1
        by_cases hle : x ≤ amount
        · have e2 : skipM ⟨73, (b : Nat), amount, [m0, m1, m2, m3, m4, m5, m6, m7], (l : Nat)⟩ p = l := by
            have := unhide HX
            simp only [skipM, Int.toNat_natCast, this]
            simp [hle]
          rw [e2] at hex'
          clear e2
          go_wp2_with fail
          go_quiet (fail)
          go_wp2_with fail
          go_roundg f'
          case measure => exact (unhide hm).1
          case rel => exact ⟨pc + 1 + l, p, by omega, by have := (unhide hm).2; omega, by go_num, (unhide hpn).drewN _, HKD, by have := unhide hhl; show _ ≤ _; omega, hex', below_drewN (unhide hbn) _⟩
        · have e2 : skipM ⟨73, (b : Nat), amount, [m0, m1, m2, m3, m4, m5, m6, m7], (l : Nat)⟩ p = 0 := by
            have := unhide HX
            simp only [skipM, Int.toNat_natCast, this]
            simp [hle]
          rw [e2] at hex'
          clear e2
          go_wp2_with fail
          go_quiet (fail)
          go_wp2_with fail
          go_roundg f'
          case measure => exact (unhide hm).1
          case rel => exact ⟨pc + 1, p, by omega, (unhide hm).2, by go_num, (unhide hpn).drewN _, HKD, by have := unhide hhl; show _ ≤ _; omega, hex', below_drewN (unhide hbn) _⟩
      · have e1 : doM ⟨kind, (b : Nat), amount, [m0, m1, m2, m3, m4, m5, m6, m7], (l : Nat)⟩ p = p := by simp [doM, k80, k67, k82, k72, k69]
        have e2 : skipM ⟨kind, (b : Nat), amount, [m0, m1, m2, m3, m4, m5, m6, m7], (l : Nat)⟩ p = 0 := by simp [skipM, k74, k73]
        rw [e1] at hex' HKD HHD
        rw [e2] at hex'
        have q1 : (kind == 80) = false := beq_eq_false_iff_ne.2 k80
        have q2 : (kind == 67) = false := beq_eq_false_iff_ne.2 k67
        have q3 : (kind == 82) = false := beq_eq_false_iff_ne.2 k82
        have q4 : (kind == 72) = false := beq_eq_false_iff_ne.2 k72
        have q5 : (kind == 69) = false := beq_eq_false_iff_ne.2 k69
        have q6 : (kind == 74) = false := beq_eq_false_iff_ne.2 k74
        have q7 : (kind == 73) = false := beq_eq_false_iff_ne.2 k73
        clear e1 e2 k80 k67 k82 k72 k69 k74 k73 hah
        go_wp2_with fail
        go_roundg f'
        case measure => exact (unhide hm).1
        case rel => exact ⟨pc + 1, p, by omega, (unhide hm).2, by go_num, hpn, HKD, by have := unhide hhl; show _ ≤ _; omega, hex', hbn⟩
    · have hfin : Hid (execM ss ss.length 0 p0 = p) := (unhide hex).trans (exec_stop ss gk pc p hlt)
      go_wp2_with fail
      go_end0
      rw [unhide hfin]
      exact ⟨rfl, unhide hp, unhide hb⟩
end Go.Proofs.Ytbpolcnjojlkjab
