/- ReadAll, Parse -/
import Derived.Test.YtbpolcnjojlkjabPack20
import Derived.Deep.LoopGhost

/- split's readAll, parse and Check. -/
namespace Go.Proofs.Ytbpolcnjojlkjab
open Go.ChangeShapes Go.WideShapes Go.ChangeAt Go.RowKit
open Split (byt dig buc digM bucM riseB riseM risM headM byt_lt byt_ge dig_t dig_f buc_t buc_f numM St stE stJ none8)
set_option linter.unusedVariables false
set_option linter.unusedSimpArgs false

def RAs (w : World) (R : Nat) (t : ByteArray) (r : RS) : Prop := RA w R t r.a r.bad r.ss r.op r.deep

theorem close_any (R : Nat) (t : ByteArray) (r : RS) (w : World) (h : RAs w R t r) (hi : Inv t r) (hs : t.size ≤ 120) :
    Calls Try.prog 60 #[.pointer (some ⟨R, 0, none⟩)] w fun e w' => e = .returned (.tuple #[]) ∧ RAs w' R t (closeM t r) ∧ Below R w w' := by
  have h1 := hi.sa
  have h2 := hi.oa
  have h3 := hi.at'
  obtain ⟨a, bad, ss, op, deep⟩ := r
  dsimp only at h1 h2 h3
  unfold closeM
  cases hl : op.getLast? with
  | none =>
    have e0 : op = [] := List.getLast?_eq_none_iff.1 hl
    subst e0
    exact close_none R t a bad ss deep w h
  | some o =>
    have hmem : o ∈ op := List.mem_of_getLast? hl
    have hk := hi.kk o hmem
    dsimp only at hk
    have hol : o < ss.length := kd_lt (by omega)
    have hop : op = op.dropLast ++ [o] := by
      have hne : op ≠ [] := fun e => by rw [e] at hmem; simp at hmem
      have := List.dropLast_concat_getLast hne
      rw [List.getLast?_eq_some_getLast hne] at hl
      simp at hl
      rw [hl] at this
      exact this.symm
    have hd : op.dropLast.length ≤ op.length := by simp
    unfold RAs at h
    dsimp only at h
    rw [hop] at h
    dsimp only
    rw [kd_get hol] at hk ⊢
    split
    · exact close_H R t a bad ss op.dropLast o deep w h (by omega) hol (by omega) (by omega) (by assumption)
    · split
      · have := close_I R t a bad ss op.dropLast o deep w h hs (by omega) hol (by omega) (by omega) (by assumption)
        refine this.mono ?_
        rintro e w' ⟨rfl, h', b'⟩
        have hlen : (closeI ss o).length = ss.length + 1 := by simp [closeI, leaveM]
        refine ⟨rfl, ?_, b'⟩
        unfold RAs opened
        dsimp only
        rw [hlen]
        exact h'
      · exact close_J R t a bad ss op.dropLast o deep w h (by omega) hol (by omega) (by omega) (by omega)

theorem opened_eq {w : World} {R : Nat} {t : ByteArray} {a : Nat} {bad : Bool} {ss : List St} {s : St} {op : List Nat} {deep : Int}
    (h : RA w R t (openA t a bad) (openB t a bad) (ss ++ [s]) (openO t a bad (ss.length + 1) op) (openD t a bad op.length deep)) : RAs w R t (opened t a bad (ss ++ [s]) op deep) := by
  unfold RAs opened
  dsimp only
  rw [List.length_append, List.length_singleton]
  exact h

theorem part_any (R : Nat) (t : ByteArray) (r : RS) (w : World) (h : RAs w R t r) (hi : Inv t r) (hs : t.size ≤ 120) (hlt : r.a < t.size) :
    Calls Try.prog 42 #[.pointer (some ⟨R, 0, none⟩), .int .u8 (byt t r.a)] w fun e w' => e = .returned (.tuple #[]) ∧ RAs w' R t (partM t r) ∧ Below R w w' := by
  have h1 := hi.sa
  have h2 := hi.oa
  have h3 := hi.at'
  unfold partM
  split
  · rename_i hc
    rw [hc]
    exact part_close R w _ (close_any R t r w h hi hs)
  split
  · rename_i hc
    rw [hc]
    exact part_P R t r.a r.bad r.ss r.op r.deep w h hs (by omega) (by omega) (by omega)
  split
  · rename_i hc
    rw [hc]
    exact part_C R t r.a r.bad r.ss r.op r.deep w h hs (by omega) (by omega) (by omega)
  split
  · rename_i hc
    rw [hc]
    refine (part_I R t r.a r.bad r.ss r.op r.deep w h hs (by omega) (by omega) (by omega)).mono ?_
    rintro e w' ⟨rfl, h', b'⟩
    exact ⟨rfl, opened_eq h', b'⟩
  split
  · rename_i hc
    rw [hc]
    exact part_R R t r.a r.bad r.ss r.op r.deep w h hs (by omega) (by omega) (by omega)
  split
  · rename_i hc
    rw [hc]
    refine (part_H R t r.a r.bad r.ss r.op r.deep w h hs (by omega) (by omega) (by omega)).mono ?_
    rintro e w' ⟨rfl, h', b'⟩
    exact ⟨rfl, opened_eq h', b'⟩
  · rename_i c1 c2 c3 c4 c5 c6
    exact part_bad R t r.a r.bad r.ss r.op r.deep _ w h c1 ⟨c2, c3, c5, c6, c4⟩

/-- The reader goes on till a byte does not fit or the text is read. -/
def runM (t : ByteArray) : Nat → RS → RS
  | 0, r => r
  | f + 1, r => if r.bad = false ∧ r.a < t.size then runM t f (partM t r) else r

/-- Each part reads a byte or finds one bad. -/
theorem part_more (t : ByteArray) (r : RS) (hb : r.bad = false) (hlt : r.a < t.size) : (partM t r).bad = true ∨ r.a < (partM t r).a := by
  have hta := takeA_bd t (r.a + 1) r.bad 97 104
  have hnb := nmM_bd t (takeA t (r.a + 1) r.bad 97 104) (takeB t (r.a + 1) r.bad 97 104) 4
  have hrs := ris_size (bad := r.bad) (show r.a + 1 ≤ t.size from hlt)
  have hhb : r.a + 1 ≤ (hunM t (r.a + 1) r.bad).a := by
    have q1 := takeA_bd t (r.a + 1) r.bad 48 57
    have q2 := takeA_bd t (takeA t (r.a + 1) r.bad 48 57) (takeB t (r.a + 1) r.bad 48 57) (hunLo t (r.a + 1) r.bad) 57
    simp only [hunM]
    omega
  have hop : ∀ a bad ss op deep, a ≤ (opened t a bad ss op deep).a := by
    intro a bad ss op deep
    simp only [opened, openA]
    split <;> omega
  unfold partM
  split
  · unfold closeM
    cases r.op.getLast? with
    | none => exact .inl rfl
    | some o =>
      right
      dsimp only
      split
      · dsimp only; omega
      · split
        · have := hop (r.a + 1) r.bad (closeI r.ss o) r.op.dropLast r.deep; omega
        · dsimp only; omega
  split
  · right; dsimp only; omega
  split
  · right; dsimp only; omega
  split
  · right
    refine Nat.lt_of_lt_of_le ?_ (hop _ _ _ _ _)
    omega
  split
  · right; dsimp only; omega
  split
  · right
    refine Nat.lt_of_lt_of_le ?_ (hop _ _ _ _ _)
    omega
  · exact .inl rfl

def meas (t : ByteArray) (r : RS) : Nat := if r.bad then 0 else t.size - r.a + 1
theorem meas_part (t : ByteArray) (r : RS) (hb : r.bad = false) (hlt : r.a < t.size) : meas t (partM t r) < meas t r := by
  have := part_more t r hb hlt
  unfold meas
  rw [hb]
  rcases this with h | h
  · simp [h]
  · split
    · simp
    · simp; omega
theorem run_stop (t : ByteArray) (f : Nat) (r : RS) (h : ¬ (r.bad = false ∧ r.a < t.size)) : runM t f r = r := by
  cases f with
  | zero => rfl
  | succ f => simp only [runM, if_neg h]

def finM (r : RS) : RS := if r.op = [] then r else ⟨r.a, true, r.ss, r.op, r.deep⟩

set_option maxHeartbeats 4000000 in
theorem readAll_any (R : Nat) (t : ByteArray) (r0 : RS) (w : World) (h : RAs w R t r0) (hi : Inv t r0) (hs : t.size ≤ 120) :
    Calls Try.prog 28 #[.pointer (some ⟨R, 0, none⟩)] w fun e w' => e = .returned (.tuple #[]) ∧ RAs w' R t (finM (runM t (meas t r0) r0)) ∧ Below R w w' := by
  have H := hide h
  have HI := hide hi
  clear h hi
  go_enter Try.func28, Try.ntmps28
  go_wp2_with fail
  go_loopg [2] (meas t r0) (fun f _ wr => ∃ r : RS, meas t r ≤ f ∧ Hid (RAs wr R t r) ∧ Hid (Inv t r) ∧ Hid (runM t (meas t r0) r0 = runM t f r) ∧ Hid (Below R w wr))
  case atStart => exact ⟨r0, Nat.le_refl _, H, HI, rfl, Below.refl _ _⟩
  case round =>
    obtain ⟨⟨a, bad, ss, op, deep⟩, hm, hr, hin, hrun, hb⟩ := hrel
    have hA := unhide hr
    obtain ⟨vs, vo, hRB, hSo, hOo⟩ := hA
    dsimp only at hRB hSo hOo
    have hRlt : R < wr.heap.size := cell_lt hRB
    have c0 := hRB.c0
    have c1 := hRB.c1
    have c2 := hRB.c2
    have c4 := hRB.c4
    have f2 := hRB.fr 2
    obtain ⟨oa, ocap, rfl, hoc, hoa⟩ := own_slice hOo
    have hla : a ≤ t.size := (unhide hin).at'
    have hol : op.length ≤ a := (unhide hin).oa
    have HRB := hide hRB
    have HSo := hide hSo
    have HOo := hide hOo
    clear hRB hSo hOo hoa
    by_cases hc : bad = false ∧ a < t.size
    · obtain ⟨rfl, hlt⟩ := hc
      obtain ⟨f', hf'⟩ : ∃ f', gk = f' + 1 := ⟨gk - 1, by simp [meas] at hm; omega⟩
      have hmp := meas_part t ⟨a, false, ss, op, deep⟩ rfl hlt
      have hrun' : Hid (runM t (meas t r0) r0 = runM t f' (partM t ⟨a, false, ss, op, deep⟩)) := by
        have := unhide hrun
        rw [hf'] at this
        simp only [runM, hlt, and_self, if_true] at this
        exact this
      have hmm : Hid (meas t (partM t ⟨a, false, ss, op, deep⟩) ≤ f' ∧ f' < gk) := ⟨by omega, by omega⟩
      have hpart := part_any R t ⟨a, false, ss, op, deep⟩
      dsimp only at hpart
      rw [byt_lt hlt] at hpart
      have HP := hide hpart
      have hin' := hide (inv_part (unhide hin) hlt)
      clear hpart hmp hf' hm hrun HRB HSo HOo f2 c4
      go_wp2_with fail
      go_quiet (fail)
      go_wp2_with fail
      go_quiet (fail)
      go_wp2_with fail
      refine (unhide HP _ (by exact unhide hr) (unhide hin) hs hlt).mono ?_
      rintro e w1 ⟨rfl, h1, b1⟩
      have H1 := hide h1
      have B1 := hide b1
      clear h1 b1
      go_wp2_with fail
      go_roundg f'
      case measure => exact (unhide hmm).2
      case rel => exact ⟨partM t ⟨a, false, ss, op, deep⟩, (unhide hmm).1, H1, hin', hrun', (below_drewN (unhide hb) _).trans (unhide B1)⟩
    · have hst := run_stop t gk ⟨a, bad, ss, op, deep⟩ hc
      have hfin : Hid (runM t (meas t r0) r0 = ⟨a, bad, ss, op, deep⟩) := (unhide hrun).trans hst
      clear hst hrun hm
      by_cases hop : op = []
      · subst hop
        have hd : Hid (finM (runM t (meas t r0) r0) = ⟨a, bad, ss, [], deep⟩) := by
          show finM (runM t (meas t r0) r0) = _
          rw [unhide hfin]; rfl
        cases bad
        · have hge : t.size ≤ a := by simp at hc; omega
          clear hc
          go_wp2_with fail
          go_quiet (fail)
          go_wp2_with fail
          go_end0
          rw [unhide hd]
          exact ⟨rfl, unhide hr, below_drewN (unhide hb) _⟩
        · clear hc
          go_wp2_with fail
          go_quiet (fail)
          go_wp2_with fail
          go_end0
          rw [unhide hd]
          exact ⟨rfl, unhide hr, below_drewN (unhide hb) _⟩
      · have hd : Hid (finM (runM t (meas t r0) r0) = ⟨a, true, ss, op, deep⟩) := by
          show finM (runM t (meas t r0) r0) = _
          rw [unhide hfin]; simp [finM, hop]
        have hpos : 0 < op.length := List.length_pos_iff.2 hop
        clear hop
        cases bad
        · have hge : t.size ≤ a := by simp at hc; omega
          clear hc
          go_wp2_with fail
          go_quiet (fail)
          go_wp2_with fail
          go_end0
          rw [unhide hd]
          refine ⟨rfl, ⟨_, _, (unhide HRB).s2 true, own_keepR (unhide HSo) (grown_set (grown_drewN (grown_refl _ _) _) 2 _), own_keepR (unhide HOo) (grown_set (grown_drewN (grown_refl _ _) _) 2 _)⟩, ?_⟩
          exact (below_drewN (unhide hb) _).setCell (p := ⟨R, 2, none⟩) (Nat.le_refl _) _
        · clear hc
          go_wp2_with fail
          go_quiet (fail)
          go_wp2_with fail
          go_end0
          rw [unhide hd]
          refine ⟨rfl, ⟨_, _, (unhide HRB).s2 true, own_keepR (unhide HSo) (grown_set (grown_drewN (grown_refl _ _) _) 2 _), own_keepR (unhide HOo) (grown_set (grown_drewN (grown_refl _ _) _) 2 _)⟩, ?_⟩
          exact (below_drewN (unhide hb) _).setCell (p := ⟨R, 2, none⟩) (Nat.le_refl _) _
end Go.Proofs.Ytbpolcnjojlkjab

/- split's parse and Check. -/
namespace Go.Proofs.Ytbpolcnjojlkjab
open Go.ChangeShapes Go.WideShapes Go.ChangeAt Go.RowKit
open Split (byt St)
set_option linter.unusedVariables false
set_option linter.unusedSimpArgs false

def rs0 : RS := ⟨0, false, [], [], -1⟩
/-- The reader behind the whole text. -/
def rsE (t : ByteArray) : RS := finM (runM t (t.size + 1) rs0)
def parE (t : ByteArray) : Int := if 120 < t.size then 1 else if (rsE t).bad = true then 2 else if 0 ≤ (rsE t).deep then 3 else 0
def parP (t : ByteArray) : Int := if 120 < t.size then 0 else if (rsE t).bad = true then (rsE t).a else if 0 ≤ (rsE t).deep then (rsE t).deep else 0

theorem inv0 (t : ByteArray) : Inv t rs0 := ⟨by simp [rs0], by simp [rs0], Nat.zero_le _, fun o ho => by simp [rs0] at ho⟩

def ParsePost (t : ByteArray) (w : World) (e : Ending) (w' : World) : Prop :=
  ∃ vs, e = .returned (.tuple #[vs, .int .i64 (parE t), .int .i64 (parP t)]) ∧ (parE t = 0 → w'.ownsRow w.heap.size 63 12 vs (rsE t).ss.length (flat (rsE t).ss)) ∧ (parE t ≠ 0 → vs = .slice none 0 0) ∧ Below w.heap.size w w'

theorem ret3_s {vs : Value} {a b c d : Int} (h : a = c) (k : b = d) : Ending.returned (.tuple #[vs, .int .i64 a, .int .i64 b]) = .returned (.tuple #[vs, .int .i64 c, .int .i64 d]) := by rw [h, k]

theorem own_less {w : World} {base base' : Nat} {e : TypeId} {size : Nat} {v : Value} {n : Nat} {xs : List Value} (h : w.ownsRow base e size v n xs) (hb : base' ≤ base) : w.ownsRow base' e size v n xs := by
  refine ⟨h.1, ?_⟩
  rcases h.2 with h0 | ⟨g, cap, cur, hv, hg, r⟩
  · exact .inl h0
  · exact .inr ⟨g, cap, cur, hv, by omega, r⟩

set_option maxHeartbeats 4000000 in
theorem parse_any (t : ByteArray) (w : World) (hs : t.size ≤ 1000000000000000) : Calls Try.prog 17 #[.string t] w (ParsePost t w) := by
  by_cases hl : 120 < t.size
  · have e1 : parE t = 1 := by simp [parE, hl]
    have e2 : parP t = 0 := by simp [parP, hl]
    have E := hide (And.intro e1 e2)
    clear e1 e2
    go_enter Try.func17, Try.ntmps17
    go_wp2_with fail
    go_ret3
    unfold ParsePost
    rw [(unhide E).1, (unhide E).2]
    exact ⟨_, rfl, fun h => by simp at h, fun _ => rfl, Below.refl _ _⟩
  · have hm : meas t rs0 = t.size + 1 := by simp [meas, rs0]
    have hread := readAll_any w.heap.size t rs0 (w.alloc (.cells #[.string t, .int .i64 0, .bool false, .slice none 0 0, .slice none 0 0, .int .i64 (-1)] 59))
      ⟨.slice none 0 0, .slice none 0 0, heap_alloc_new _ _, World.ownsRow_nil _ _ _ _, World.ownsRow_nil _ _ _ _⟩ (inv0 t) (by omega)
    rw [hm] at hread
    have hE : (rsE t).bad = true ∨ ((rsE t).bad = false ∧ 0 ≤ (rsE t).deep) ∨ ((rsE t).bad = false ∧ ¬ 0 ≤ (rsE t).deep) := by
      cases (rsE t).bad <;> simp <;> omega
    have HR := hide hread
    clear hread hm
    obtain ⟨r, hr⟩ : ∃ r, rsE t = r := ⟨_, rfl⟩
    have HRR := hide hr
    rw [hr] at hE
    clear hr
    obtain ⟨a, bad, ss, op, deep⟩ := r
    dsimp only at hE
    rcases hE with rfl | ⟨rfl, hd⟩ | ⟨rfl, hd⟩
    · have E : Hid (parE t = 2 ∧ parP t = a) := by
        show parE t = 2 ∧ parP t = a
        simp [parE, parP, hl, unhide HRR]
      go_enter Try.func17, Try.ntmps17
      go_wp2_with fail
      refine (unhide HR).mono ?_
      rintro e w1 ⟨rfl, h1, b1⟩
      have h1' : RAs w1 w.heap.size t (rsE t) := h1
      rw [unhide HRR] at h1'
      obtain ⟨vs, vo, hRB, hSo, hOo⟩ := h1'
      dsimp only at hRB hSo hOo
      have c1 := hRB.c1
      have c2 := hRB.c2
      have B1 := hide (((Below.refl _ _).alloc (Nat.le_refl _) _).trans b1)
      clear h1 b1 hRB hSo hOo
      go_wp2_with fail
      go_quiet (fail)
      go_wp2_with fail
      go_ret3
      unfold ParsePost
      rw [(unhide E).1, (unhide E).2]
      exact ⟨_, rfl, fun h => by simp at h, fun _ => rfl, below_drewN (unhide B1) _⟩
    · have E : Hid (parE t = 3 ∧ parP t = deep) := by
        show parE t = 3 ∧ parP t = deep
        simp [parE, parP, hl, unhide HRR, hd]
      go_enter Try.func17, Try.ntmps17
      go_wp2_with fail
      refine (unhide HR).mono ?_
      rintro e w1 ⟨rfl, h1, b1⟩
      have h1' : RAs w1 w.heap.size t (rsE t) := h1
      rw [unhide HRR] at h1'
      obtain ⟨vs, vo, hRB, hSo, hOo⟩ := h1'
      dsimp only at hRB hSo hOo
      have c2 := hRB.c2
      have c5 := hRB.c5
      have B1 := hide (((Below.refl _ _).alloc (Nat.le_refl _) _).trans b1)
      clear h1 b1 hRB hSo hOo
      go_wp2_with fail
      go_quiet (fail)
      go_wp2_with fail
      go_ret3
      unfold ParsePost
      rw [(unhide E).1, (unhide E).2]
      exact ⟨_, rfl, fun h => by simp at h, fun _ => rfl, below_drewN (unhide B1) _⟩
    · have E : Hid (parE t = 0 ∧ parP t = 0) := by
        show parE t = 0 ∧ parP t = 0
        simp [parE, parP, hl, unhide HRR, hd]
      go_enter Try.func17, Try.ntmps17
      go_wp2_with fail
      refine (unhide HR).mono ?_
      rintro e w1 ⟨rfl, h1, b1⟩
      have h1' : RAs w1 w.heap.size t (rsE t) := h1
      rw [unhide HRR] at h1'
      obtain ⟨vs, vo, hRB, hSo, hOo⟩ := h1'
      dsimp only at hRB hSo hOo
      have c2 := hRB.c2
      have c3 := hRB.c3
      have c5 := hRB.c5
      have B1 := hide (((Below.refl _ _).alloc (Nat.le_refl _) _).trans b1)
      obtain ⟨sa, scap, rfl, hsc, hsa⟩ := own_slice hSo
      have HS := hide hSo
      clear h1 b1 hRB hSo hOo hsa
      go_wp2_with fail
      go_ret3
      unfold ParsePost
      rw [(unhide E).1, (unhide E).2, unhide HRR]
      exact ⟨_, rfl, fun _ => own_less (unhide HS) (by omega), fun h => absurd rfl h, unhide B1⟩

end Go.Proofs.Ytbpolcnjojlkjab
