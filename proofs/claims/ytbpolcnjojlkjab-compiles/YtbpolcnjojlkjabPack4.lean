/- Reader3, Bits -/
import Derived.Test.YtbpolcnjojlkjabPack3
import Derived.Deep.RegionLaw

/- split's reader with its two lists; openBlock, leaveOut. -/
namespace Go.Proofs.Ytbpolcnjojlkjab
open Go.ChangeShapes Go.WideShapes Go.ChangeAt Go.RowKit
open Split (byt dig buc digM bucM riseB riseM risM headM byt_lt byt_ge dig_t dig_f buc_t buc_f numM St)
set_option linter.unusedVariables false
set_option linter.unusedSimpArgs false

theorem infoStep : (Try.prog.info? 63).map (fun i => (i.zero, i.size, i.bytes)) = some (some (.agg #[.int .u8 0, .int .i64 0, .int .i64 0, .bool false, .bool false, .bool false, .bool false, .bool false, .bool false, .bool false, .bool false, .int .i64 0]), 12, 40) := by kernel_rfl

theorem wrap_small {x : Int} (h0 : -1000000 ≤ x) (h1 : x ≤ 1000000) : IntKind.i64.wrap x = x := by
  have e1 : (2 : Int) ^ IntKind.i64.bits = 18446744073709551616 := by decide
  have e2 : (2 : Int) ^ (IntKind.i64.bits - 1) = 9223372036854775808 := by decide
  have e3 : IntKind.i64.signed = true := rfl
  unfold IntKind.wrap
  rw [e1, e2, e3]
  simp only [Bool.true_and, decide_eq_true_eq]
  split <;> omega

theorem grown_undrew {a b : World} {r : Option Nat} (h : a.drew.grownBy b r) : a.grownBy b r := ⟨h.os, h.tape, h.output, h.size, h.block⟩

theorem RB.via {w W w2 : World} {R : Nat} {t : ByteArray} {a : Nat} {bad : Bool} {vs vo : Value} {deep : Int} {r : Option Nat} (h : RB w R t a bad vs vo deep) (hg : W.grownBy w2 r) (hr : some R ≠ r) (e : W.heap[R]? = w.heap[R]?) : RB w2 R t a bad vs vo deep :=
  RB.grown (w := W) (e.trans h) hg hr

/-- append to a row of the call's own, as one step of a region that draws. -/
theorem step_append_own {P : Program} {ops : Array Oper} {o : Oper} {a : Act} {w : World} {K : Act → World → Prop} {Q : Exit → Act → World → Prop} {E : Prop}
    (hg : o.guard = none) (s x : Operand) (t : TypeId) (hop : o.op = Op.call { callee := Callee.builtin Builtin.append, args := #[s, x], argTypes := #[t, t] })
    (base : Nat) (e : TypeId) (i : TypeInfo) (z : Value) (size bytes : Nat) (ht : P.underlying t = some (.slice e)) (hi : P.info? e = some i) (hz : i.zero = some z)
    (hsize : i.size = size) (hby : i.bytes = bytes) (hzs : z.cells.size = size) (hsz : 0 < size)
    (v : Value) (n : Nat) (xs : List Value) (hs : a.eval s = v) (hown : w.ownsRow base e size v n xs)
    (ad : Addr) (m c : Nat) (news : List Value) (hx : a.eval x = .slice (some ad) m c) (hl : news.length = m * size) (hnews : ∀ j u, news[j]? = some u → w.cell? (ad.add j) = some u) (h1 : ∀ u ∈ news, u.oneCell' = true)
    (h63 : n + m ≤ maxLen) (hbytes : (n + m) * bytes ≤ 140737488355328) (hbase : base ≤ w.heap.size)
    (hK : ∀ v' w', w'.ownsRow base e size v' (n + m) (xs ++ news) → w.grownBy w' v.ownBlock → K (a.put o.dst v') w') :
    if Region.wanted o (yielded ops a.tmps) = true then Oper.wp P o a w K Q else E := by
  have hw : Region.wanted o (yielded ops a.tmps) = true := by simp [Region.wanted, hg]
  rw [if_pos hw]
  obtain ⟨v', w', hrun, h2, h3, _⟩ := run_append_own (P := P) w base t o.type e i z size bytes ht hi hz hsize hby hzs hsz v n xs hown ad m c news hl hnews h1 h63 hbytes hbase
  unfold Oper.wp
  simp [execOp, hop, resolve, invoke, builtin, hs, hx, hrun, Result.andThen]
  exact hK _ _ h2 h3

def stC (s : St) : List Value := .int .u8 s.kind :: .int .i64 s.bucket :: .int .i64 s.amount :: (((List.range 8).map fun k => Value.bool (s.among.getD k false)) ++ [.int .i64 s.leave])
def flat (ss : List St) : List Value := ss.flatMap stC
def opC (op : List Nat) : List Value := op.map fun o => Value.int .i64 (o : Nat)

theorem stC_len (s : St) : (stC s).length = 12 := by simp [stC]
theorem flat_len (ss : List St) : (flat ss).length = ss.length * 12 := by
  induction ss with
  | nil => rfl
  | cons s ss ih =>
    show (stC s ++ flat ss).length = _
    rw [List.length_append, ih, stC_len, List.length_cons]
    omega
theorem flat_snoc (ss : List St) (s : St) : flat (ss ++ [s]) = flat ss ++ stC s := by simp [flat]

theorem opC_snoc (op : List Nat) (n : Nat) (h : 0 < n) : opC (op ++ [n - 1]) = opC op ++ [.int .i64 ((n : Int) - 1)] := by
  simp only [opC, List.map_append, List.map_cons, List.map_nil]
  rw [show ((n - 1 : Nat) : Int) = (n : Int) - 1 by omega]

/-- A step that has come to know how many it leaves out. -/
def leaveM (ss : List St) (o : Nat) : List St := ss.modify o fun s => s.leaving ((ss.length : Int) - 1 - o)

theorem flat_modify (n : Int) : ∀ (ss : List St) (o : Nat), o < ss.length → flat (ss.modify o fun s => s.leaving n) = (flat ss).set (o * 12 + 11) (.int .i64 n)
  | [], o, h => by simp at h
  | s :: ss, 0, h => by
    show stC (s.leaving n) ++ flat ss = (stC s ++ flat ss).set (0 * 12 + 11) _
    rw [List.set_append, if_pos (by rw [stC_len]; omega)]
    rfl
  | s :: ss, o + 1, h => by
    show stC s ++ flat (ss.modify o _) = (stC s ++ flat ss).set ((o + 1) * 12 + 11) _
    rw [List.set_append, if_neg (by rw [stC_len]; omega), stC_len, flat_modify n ss o (by simpa using h), show (o + 1) * 12 + 11 - 12 = o * 12 + 11 by omega]

/-- The reader in block R, its steps and its open blocks. -/
def RA (w : World) (R : Nat) (t : ByteArray) (a : Nat) (bad : Bool) (ss : List St) (op : List Nat) (deep : Int) : Prop :=
  ∃ vs vo, RB w R t a bad vs vo deep ∧ w.ownsRow (R + 1) 63 12 vs ss.length (flat ss) ∧ w.ownsRow (R + 1) 3 1 vo op.length (opC op)

theorem own_slice {w : World} {base : Nat} {e : TypeId} {size : Nat} {v : Value} {n : Nat} {xs : List Value} (h : w.ownsRow base e size v n xs) :
    ∃ a cap, v = .slice a n cap ∧ n ≤ cap ∧ (0 < n → ∃ g, a = some ⟨g, 0, none⟩) := by
  rcases h.2 with ⟨rfl, rfl⟩ | ⟨g, cap, cur, rfl, _, _, hc, _⟩
  · exact ⟨none, 0, rfl, Nat.le_refl _, fun h => by omega⟩
  · exact ⟨_, cap, rfl, hc, fun _ => ⟨g, rfl⟩⟩

/-- Two rows of different types lie apart. -/
theorem own_apart {w : World} {base base' : Nat} {e e' : TypeId} {size size' : Nat} {v v' : Value} {n n' : Nat} {xs xs' : List Value} (h : w.ownsRow base e size v n xs) (h' : w.ownsRow base' e' size' v' n' xs') (hne : e ≠ e') :
    v.ownBlock = none ∨ v.ownBlock ≠ v'.ownBlock := by
  rcases h.2 with ⟨rfl, rfl⟩ | ⟨g, cap, cur, rfl, _, hg, _⟩
  · exact .inl rfl
  · rcases h'.2 with ⟨rfl, rfl⟩ | ⟨g', cap', cur', rfl, _, hg', _⟩
    · right; simp [Value.ownBlock]
    · right
      simp only [Value.ownBlock, ne_eq, Option.some.injEq]
      intro e0
      subst e0
      rw [hg] at hg'
      simp at hg'
      exact hne hg'.2

theorem own_base {w : World} {base : Nat} {e : TypeId} {size : Nat} {v : Value} {n : Nat} {xs : List Value} (h : w.ownsRow base e size v n xs) {k : Nat} (hk : k < base) : some k ≠ v.ownBlock := by
  intro e0
  have := (h.lt k e0.symm).1
  omega
theorem own_ne {w : World} {base : Nat} {e : TypeId} {size : Nat} {v : Value} {n : Nat} {xs : List Value} (h : w.ownsRow base e size v n xs) {k : Nat} (hk : k < base) : v.ownBlock = none ∨ v.ownBlock ≠ some k :=
  .inr fun e0 => own_base h hk e0.symm

theorem below_of_grown {w w' : World} {r : Option Nat} {B : Nat} (h : w.grownBy w' r) (hB : B ≤ w.heap.size) (hr : ∀ k, r = some k → B ≤ k) : Below B w w' := (Below.refl _ _).grown h hB hr

section
variable {w : World} {R : Nat} {t : ByteArray} {a : Nat} {bad : Bool} {ss : List St} {op : List Nat} {deep : Int}
/-- What turns the reader's own block alone turns no list. -/
theorem own_keepR {w' : World} {e : TypeId} {size : Nat} {v : Value} {n : Nat} {xs : List Value} (h : w.ownsRow (R + 1) e size v n xs) (hg : w.grownBy w' (some R)) : w'.ownsRow (R + 1) e size v n xs :=
  h.kept hg (own_ne h (by omega))
end

def openA (t : ByteArray) (a : Nat) (bad : Bool) : Nat := if fitsM t a bad 40 40 then a + 1 else a
def openB (t : ByteArray) (a : Nat) (bad : Bool) : Bool := !fitsM t a bad 40 40
def openO (t : ByteArray) (a : Nat) (bad : Bool) (n : Nat) (op : List Nat) : List Nat := if fitsM t a bad 40 40 then op ++ [n - 1] else op
def openD (t : ByteArray) (a : Nat) (bad : Bool) (n : Nat) (deep : Int) : Int := if fitsM t a bad 40 40 ∧ 5 ≤ n ∧ deep < 0 then a else deep

set_option maxHeartbeats 4000000 in
theorem openBlock_any (R : Nat) (t : ByteArray) (a : Nat) (bad : Bool) (ss : List St) (op : List Nat) (deep : Int) (w : World) (h : RA w R t a bad ss op deep) (hs : t.size ≤ 120) (ha : a ≤ 800)
    (hss : 0 < ss.length) (hsl : ss.length ≤ 1000) (hol : op.length ≤ 1000) :
    Calls Try.prog 66 #[.pointer (some ⟨R, 0, none⟩)] w fun e w' => e = .returned (.tuple #[]) ∧ RA w' R t (openA t a bad) (openB t a bad) ss (openO t a bad ss.length op) (openD t a bad op.length deep) ∧ Below R w w' := by
  obtain ⟨vs, vo, hRB, hSo, hOo⟩ := h
  have hRlt : R < w.heap.size := cell_lt hRB
  have c1 := hRB.c1
  have HRB := hide hRB
  have HSo := hide hSo
  have HOo := hide hOo
  clear hRB hSo hOo
  cases hf : fitsM t a bad 40 40
  · have e1 : openA t a bad = a := by simp [openA, hf]
    have e2 : openB t a bad = true := by simp [openB, hf]
    have e3 : openO t a bad ss.length op = op := by simp [openO, hf]
    have e4 : openD t a bad op.length deep = deep := by simp [openD, hf]
    rw [e1, e2, e3, e4]
    have t1 : takeA t a bad 40 40 = a := by simp [takeA, hf]
    have t2 : takeB t a bad 40 40 = true := by simp [takeB, hf]
    have T := hide (And.intro t1 t2)
    clear e1 e2 e3 e4 t1 t2 hf
    go_enter Try.func66, Try.ntmps66
    go_wp2_with fail
    refine (take_any R t a bad vs vo deep 40 40 _ (unhide HRB) hs (by omega) (by omega)).mono ?_
    rintro e w1 ⟨rfl, h1, g1⟩
    rw [(unhide T).1, (unhide T).2] at h1
    have H1 := hide h1
    have G1 := hide g1
    have c2 := h1.c2
    clear h1 g1 c1
    go_wp2_with fail
    refine bodyPost_ret (v := .tuple #[]) (by simp [results, Try.results66, go_sem]) rfl ?_
    refine ⟨rfl, ⟨vs, vo, unhide H1, own_keepR (unhide HSo) (unhide G1), own_keepR (unhide HOo) (unhide G1)⟩, below_of_grown (unhide G1) (by omega) (fun k hk => by simp at hk; omega)⟩
  · have e1 : openA t a bad = a + 1 := by simp [openA, hf]
    have e2 : openB t a bad = false := by simp [openB, hf]
    have e3 : openO t a bad ss.length op = op ++ [ss.length - 1] := by simp [openO, hf]
    have e4 : openD t a bad op.length deep = if 5 ≤ op.length ∧ deep < 0 then (a : Int) else deep := by simp [openD, hf]
    rw [e1, e2, e3, e4]
    have t1 : takeA t a bad 40 40 = a + 1 := by simp [takeA, hf]
    have t2 : takeB t a bad 40 40 = false := by simp [takeB, hf]
    have T := hide (And.intro t1 t2)
    clear e1 e2 e3 e4 t1 t2 hf
    obtain ⟨ao, ocap, rfl, hoc, hoa⟩ := own_slice (unhide HOo)
    obtain ⟨sa, scap, rfl, hsc, hsa⟩ := own_slice (unhide HSo)
    obtain ⟨i0, hi, hz0, hz1, hz2⟩ := info_parts infoInt
    go_enter Try.func66, Try.ntmps66
    go_wp2_with fail
    refine (take_any R t a bad _ _ deep 40 40 _ (unhide HRB) hs (by omega) (by omega)).mono ?_
    rintro e w1 ⟨rfl, h1, g1⟩
    rw [(unhide T).1, (unhide T).2] at h1
    have H1 := hide h1
    have HB1 := hide (below_of_grown (B := R) g1 (by omega) (fun k hk => by simp at hk; omega))
    have hSo1 := own_keepR (unhide HSo) g1
    have hOo1 := own_keepR (unhide HOo) g1
    have HS1 := hide hSo1
    have HO1 := hide hOo1
    have hz1' : R < w1.heap.size := cell_lt h1
    have c2 := h1.c2
    have c3 := h1.c3
    have c4 := h1.c4
    have f4 := h1.fr 4
    have hwr : IntKind.i64.wrap ((ss.length : Int) - 1) = (ss.length : Int) - 1 := wrap_small (by omega) (by omega)
    clear h1 g1 hSo1 hOo1 c1 HSo HOo HRB hoa hsa
    go_wp2_with fail
    go_region_law (refine step_append_own rfl (.tmp 17) (.tmp 24) 22 rfl (R + 1) 3 i0 (.int .i64 0) 1 8 Try.underlying22 hi hz0 hz1 hz2 rfl (by decide) (.slice ao op.length ocap) op.length (opC op) (by simp [Act.eval, Act.put]) (by exact World.ownsRow.alloc (World.ownsRow.drew (unhide HO1)) _) ⟨w1.heap.size, 0, none⟩ 1 1 [.int .i64 ((ss.length : Int) - 1)] (by simp [Act.eval, Act.put]) rfl (by intro j u hj; match j, hj with | 0, hj => simp at hj; subst hj; simp [Addr.add]) (by intro u hu; simp at hu; subst hu; rfl) (by unfold maxLen; omega) (by omega) (by simp; omega) ?_; intro v' w2 hown hgrow; have hR2 := RB.via (unhide H1) hgrow (own_base (unhide HO1) (Nat.lt_succ_self _)) (by exact Go.heap_alloc_old _ _ hz1'); have f4' := hR2.fr 4; have c4' := hR2.c4; obtain ⟨a2, cap2, rfl, hle2, _⟩ := own_slice hown)
    all_goals
      have hS2 := World.ownsRow.kept (World.ownsRow.alloc (unhide HS1) _) (grown_undrew hgrow) (own_apart (unhide HS1) (unhide HO1) (by decide))
      have hB2 := (unhide HB1).trans (((Below.refl _ w1).alloc (by omega) _).trans (below_of_grown (B := R) (grown_undrew hgrow) (by simp; omega) (fun k hk => by have := (unhide HO1).lt k hk; omega)))
      have HS2 := hide hS2
      have HB2 := hide hB2
      have HR2 := hide hR2
      have HOWN := hide hown
      have c5' := hR2.c5
      have f5' := hR2.fr 5
      clear hS2 hB2 hR2 hown hgrow HS1 HO1 H1 HB1 hi hz0 hz1 hz2 c2 c3 c4 f4 hwr
      by_cases h5 : 5 ≤ op.length
      · by_cases hdp : deep < 0
        · go_wp2_with fail
          go_end0
          refine ⟨rfl, ⟨_, _, ((unhide HR2).s4 _).s5 a, ?_, ?_⟩, ?_⟩
          · exact own_keepR (unhide HS2) (grown_set (grown_set (grown_refl _ _) 4 _) 5 _)
          · refine own_keepR ?_ (grown_set (grown_set (grown_refl _ _) 4 _) 5 _)
            rw [opC_snoc _ _ hss]
            simpa using unhide HOWN
          · exact ((unhide HB2).setCell (p := ⟨R, 4, none⟩) (Nat.le_refl _) _).setCell (p := ⟨R, 5, none⟩) (Nat.le_refl _) _
        · go_wp2_with fail
          go_end0
          refine ⟨rfl, ⟨_, _, (unhide HR2).s4 _, ?_, ?_⟩, ?_⟩
          · exact own_keepR (unhide HS2) (grown_set (grown_refl _ _) 4 _)
          · refine own_keepR ?_ (grown_set (grown_refl _ _) 4 _)
            rw [opC_snoc _ _ hss]
            simpa using unhide HOWN
          · exact (unhide HB2).setCell (p := ⟨R, 4, none⟩) (Nat.le_refl _) _
      · go_wp2_with fail
        go_end0
        refine ⟨rfl, ⟨_, _, (unhide HR2).s4 _, ?_, ?_⟩, ?_⟩
        · exact own_keepR (unhide HS2) (grown_set (grown_refl _ _) 4 _)
        · refine own_keepR ?_ (grown_set (grown_refl _ _) 4 _)
          rw [opC_snoc _ _ hss]
          simpa using unhide HOWN
        · exact (unhide HB2).setCell (p := ⟨R, 4, none⟩) (Nat.le_refl _) _

set_option maxHeartbeats 4000000 in
theorem leaveOut_any (R : Nat) (t : ByteArray) (a : Nat) (bad : Bool) (ss : List St) (op : List Nat) (deep : Int) (o : Nat) (w : World) (h : RA w R t a bad ss op deep) (ho : o < ss.length) (hsl : ss.length ≤ 1000) :
    Calls Try.prog 73 #[.pointer (some ⟨R, 0, none⟩), .int .i64 o] w fun e w' => e = .returned (.tuple #[]) ∧ RA w' R t a bad (leaveM ss o) op deep ∧ Below R w w' := by
  obtain ⟨vs, vo, hRB, hSo, hOo⟩ := h
  have hRlt : R < w.heap.size := cell_lt hRB
  obtain ⟨sa, scap, rfl, hsc, hsa⟩ := own_slice hSo
  obtain ⟨g, rfl⟩ := hsa (by omega)
  have hgR : R + 1 ≤ g := (hSo.lt g rfl).1
  have c3 := hRB.c3
  have hcell : ∃ u, w.cell? ⟨g, o * 12 + 11, none⟩ = some u := by
    rw [hSo.cellAt _ (by omega)]
    exact ⟨_, List.getElem?_eq_getElem (by rw [flat_len]; omega)⟩
  obtain ⟨u, hcell⟩ := hcell
  have hfr := hSo.frozenAt (o * 12 + 11)
  have HRB := hide hRB
  have HSo := hide hSo
  have HOo := hide hOo
  clear hRB hSo hOo hsa
  go_enter Try.func73, Try.ntmps73
  go_wp2_with fail
  go_region
  go_end0
  have hst := (unhide HSo).stored (o * 12 + 11) (.int .i64 ((ss.length : Int) - 1 - o))
  have hap := own_apart (unhide HOo) (unhide HSo) (by decide)
  refine ⟨rfl, ⟨.slice (some ⟨g, 0, none⟩) ss.length scap, vo, ?_, ?_, ?_⟩, ?_⟩
  · exact (unhide HRB).grown (grown_drewN hst.2 1) (by simp; omega)
  · have := hst.1
    rw [← flat_modify _ _ _ ho] at this
    have hl : (leaveM ss o).length = ss.length := by simp [leaveM]
    rw [hl]
    exact this
  · exact (unhide HOo).kept (grown_drewN hst.2 1) hap
  · exact below_of_grown (grown_drewN hst.2 1) (by omega) (fun k hk => by simp at hk; omega)
end Go.Proofs.Ytbpolcnjojlkjab

/- split's bucketsOf. -/
namespace Go.Proofs.Ytbpolcnjojlkjab
open Go.ChangeShapes Go.WideShapes Go.ChangeAt Go.RowKit
set_option linter.unusedVariables false
set_option linter.unusedSimpArgs false

def bitM (a : Int) (j : Nat) : Bool := a / 2 ^ j % 2 == 1
def bfill (a : Int) (k : Nat) : List Bool := (List.range 8).map fun j => if j < k then bitM a j else false
/-- The buckets whose bits are in a number. -/
def bitsM (a : Int) : List Bool := (List.range 8).map fun j => bitM a j

theorem bfill_len (a : Int) (k : Nat) : (bfill a k).length = 8 := by simp [bfill]
theorem bfill_zero (a : Int) : bfill a 0 = Split.none8 := by
  simp [bfill, Split.none8, List.map_const']
theorem bfill_all (a : Int) : bfill a 8 = bitsM a := by
  unfold bfill bitsM
  apply List.map_congr_left
  intro j hj
  rw [if_pos (by simpa using hj)]
theorem bfill_set (a : Int) (k : Nat) (hk : k < 8) : (bfill a k).set k (bitM a k) = bfill a (k + 1) := by
  apply List.ext_getElem?
  intro j
  rw [List.getElem?_set]
  simp only [bfill, List.getElem?_map, List.length_map, List.length_range]
  by_cases h1 : k = j
  · subst h1
    rw [if_pos rfl, if_pos hk, List.getElem?_range hk]
    simp
  · rw [if_neg h1]
    by_cases h : j < 8
    · rw [List.getElem?_range h]
      simp only [Option.map_some]
      by_cases h2 : j < k
      · rw [if_pos h2, if_pos (by omega)]
      · rw [if_neg h2, if_neg (by omega)]
    · rw [List.getElem?_eq_none (by simp; omega)]; rfl

theorem half_next (a : Int) (k : Nat) : a / 2 ^ (k + 1) = a / 2 ^ k / 2 := by
  rw [Int.pow_succ, Int.ediv_ediv_of_nonneg (Int.pow_nonneg (by omega))]
theorem half_bd {a : Int} (h0 : 0 ≤ a) (h1 : a ≤ 255) (k : Nat) : 0 ≤ a / 2 ^ k ∧ a / 2 ^ k ≤ 255 := by
  induction k with
  | zero => simp; omega
  | succ k ih => rw [half_next]; omega

set_option maxHeartbeats 2000000 in
theorem bucketsOf_any (a : Int) (h0 : 0 ≤ a) (h1 : a ≤ 255) (w : World) :
    Calls Try.prog 50 #[.int .i64 a] w fun e w' => e = .returned (.agg ((bitsM a).map Value.bool).toArray) ∧ Below w.heap.size w w' := by
  go_enter Try.func50, Try.ntmps50
  go_wp2_with fail
  go_loopw [0, 4] (fun bb ii wr => ∃ k : Nat, k ≤ 8 ∧ ii = .int .i64 k ∧ bb = .int .i64 (a / 2 ^ k) ∧ Hid (Bl wr (w.heap.size + 1) (bfill a k)) ∧ Hid (Bl wr w.heap.size Split.none8) ∧ Hid (Below w.heap.size w wr)) (fun _ ii _ => 8 - (intOf ii).toNat)
  case atStart =>
    refine ⟨0, by omega, rfl, by simp, ?_, ?_, ?_⟩
    · rw [bfill_zero]
      have := bl_new (w.alloc (.cells #[.bool false, .bool false, .bool false, .bool false, .bool false, .bool false, .bool false, .bool false] 61))
      show Bl _ _ _
      simpa using this
    · exact (bl_new w).grown (World.grownBy_alloc _ _ none) (by simp)
    · exact ((Below.refl _ _).alloc (Nat.le_refl _) _).alloc (by simp) _
  case round =>
    obtain ⟨k, hk, rfl, rfl, hB, hB0, hb⟩ := hrel
    have hq := half_bd h0 h1 k
    have hn := half_next a k
    have hbit : bitM a k = (a / 2 ^ k % 2 == 1) := rfl
    obtain ⟨q, hqe⟩ : ∃ q, a / 2 ^ k = q := ⟨_, rfl⟩
    rw [hqe] at hq hn hbit ⊢
    clear hqe
    have HN := hide hn
    have HBIT := hide hbit
    clear hn hbit
    have hzr : w.heap.size + 1 < wr.heap.size := cell_lt (unhide hB).2
    by_cases hlt : k < 8
    · have cb := (unhide hB).cell k (by omega)
      have fb := (unhide hB).fr k
      go_wp2_with fail
      go_roundw
      case rel =>
        refine ⟨k + 1, by omega, by go_num, ?_, ?_, ?_, ?_⟩
        · rw [unhide HN]
        · show Bl _ _ _
          rw [← bfill_set a k hlt, unhide HBIT]
          exact (unhide hB).set k _
        · exact (unhide hB0).grown (grown_set (grown_refl _ _) k _) (by simp)
        · exact (unhide hb).setCell (p := ⟨w.heap.size + 1, k, none⟩) (by simp) _
      case measure => simp [intOf]; omega
    · have hk8 : k = 8 := by omega
      subst hk8
      rw [bfill_all] at hB
      have hml := (unhide hB).1
      have hBB := unhide hB
      obtain ⟨m, hm⟩ : ∃ m, bitsM a = m := ⟨_, rfl⟩
      rw [hm] at hml hBB
      have HM := hide hm
      clear hB hm
      match m, hml with
      | [m0, m1, m2, m3, m4, m5, m6, m7], _ =>
        have d0 := hBB.cell 0 (by omega)
        have d1 := hBB.cell 1 (by omega)
        have d2 := hBB.cell 2 (by omega)
        have d3 := hBB.cell 3 (by omega)
        have d4 := hBB.cell 4 (by omega)
        have d5 := hBB.cell 5 (by omega)
        have d6 := hBB.cell 6 (by omega)
        have d7 := hBB.cell 7 (by omega)
        simp at d0 d1 d2 d3 d4 d5 d6 d7
        have r0 := (unhide hB0).cell 0 (by omega)
        have g0 := (unhide hB0).fr 0
        have r1 := (unhide hB0).cell 1 (by omega)
        have g1 := (unhide hB0).fr 1
        have r2 := (unhide hB0).cell 2 (by omega)
        have g2 := (unhide hB0).fr 2
        have r3 := (unhide hB0).cell 3 (by omega)
        have g3 := (unhide hB0).fr 3
        have r4 := (unhide hB0).cell 4 (by omega)
        have g4 := (unhide hB0).fr 4
        have r5 := (unhide hB0).cell 5 (by omega)
        have g5 := (unhide hB0).fr 5
        have r6 := (unhide hB0).cell 6 (by omega)
        have g6 := (unhide hB0).fr 6
        have r7 := (unhide hB0).cell 7 (by omega)
        have g7 := (unhide hB0).fr 7
        simp [Split.none8] at r0 r1 r2 r3 r4 r5 r6 r7
        clear hBB
        go_wp2_with fail
        refine bodyPost_ret (v := .agg #[.bool m0, .bool m1, .bool m2, .bool m3, .bool m4, .bool m5, .bool m6, .bool m7]) (by simp [results, Try.results50, go_sem, r0, r1, r2, r3, r4, r5, r6, r7]) rfl ?_
        rw [unhide HM]
        refine ⟨rfl, (unhide hb).trans (below_of_grown (r := some w.heap.size) ?_ (by omega) (fun k hk => by simp at hk; omega))⟩
        iterate 8 refine grown_set ?_ _ _
        exact grown_refl _ _
end Go.Proofs.Ytbpolcnjojlkjab
