/- RunM -/
import Derived.Test.YtbpolcnjojlkjabPack19

/- split's reader as a plain machine. -/
namespace Go.Proofs.Ytbpolcnjojlkjab
open Split (byt dig buc digM bucM riseB riseM risM headM byt_lt byt_ge dig_t dig_f buc_t buc_f numM St stE stJ none8)
set_option linter.unusedVariables false
set_option linter.unusedSimpArgs false

structure RS where
  a : Nat
  bad : Bool
  ss : List St
  op : List Nat
  deep : Int

def kd (ss : List St) (o : Nat) : Int := match ss[o]? with
  | some s => s.kind
  | none => 0

def opened (t : ByteArray) (a : Nat) (bad : Bool) (ss : List St) (op : List Nat) (deep : Int) : RS :=
  ⟨openA t a bad, openB t a bad, ss, openO t a bad ss.length op, openD t a bad op.length deep⟩

def closeM (t : ByteArray) (r : RS) : RS :=
  match r.op.getLast? with
  | none => ⟨r.a, true, r.ss, [], r.deep⟩
  | some o =>
    if kd r.ss o = 72 then ⟨r.a + 1, r.bad, r.ss ++ [stE], r.op.dropLast, r.deep⟩
    else if kd r.ss o = 73 then opened t (r.a + 1) r.bad (closeI r.ss o) r.op.dropLast r.deep
    else ⟨r.a + 1, r.bad, leaveM r.ss o, r.op.dropLast, r.deep⟩

/-- One part: a step up to its block, or a block's end. -/
def partM (t : ByteArray) (r : RS) : RS :=
  if byt t r.a = 41 then closeM t r
  else if byt t r.a = 80 then ⟨takeA t (r.a + 1) r.bad 97 104, takeB t (r.a + 1) r.bad 97 104, r.ss ++ [⟨80, takeV t (r.a + 1) r.bad 97 104 - 97, 0, none8, 0⟩], r.op, r.deep⟩
  else if byt t r.a = 67 then ⟨(nmM t (takeA t (r.a + 1) r.bad 97 104) (takeB t (r.a + 1) r.bad 97 104) 4).a, (nmM t (takeA t (r.a + 1) r.bad 97 104) (takeB t (r.a + 1) r.bad 97 104) 4).b, r.ss ++ [⟨67, takeV t (r.a + 1) r.bad 97 104 - 97, (nmM t (takeA t (r.a + 1) r.bad 97 104) (takeB t (r.a + 1) r.bad 97 104) 4).n, none8, 0⟩], r.op, r.deep⟩
  else if byt t r.a = 73 then opened t (nmM t (takeA t (r.a + 1) r.bad 97 104) (takeB t (r.a + 1) r.bad 97 104) 4).a (nmM t (takeA t (r.a + 1) r.bad 97 104) (takeB t (r.a + 1) r.bad 97 104) 4).b (r.ss ++ [⟨73, takeV t (r.a + 1) r.bad 97 104 - 97, (nmM t (takeA t (r.a + 1) r.bad 97 104) (takeB t (r.a + 1) r.bad 97 104) 4).n, none8, 0⟩]) r.op r.deep
  else if byt t r.a = 82 then ⟨(risR t (r.a + 1) r.bad).1, risB t (r.a + 1) r.bad, r.ss ++ [⟨82, 0, 0, (risR t (r.a + 1) r.bad).2, 0⟩], r.op, r.deep⟩
  else if byt t r.a = 72 then opened t (hunM t (r.a + 1) r.bad).a (hunM t (r.a + 1) r.bad).b (r.ss ++ [⟨72, 0, (hunM t (r.a + 1) r.bad).n, none8, 0⟩]) r.op r.deep
  else ⟨r.a, true, r.ss, r.op, r.deep⟩

structure Inv (t : ByteArray) (r : RS) : Prop where
  sa : r.ss.length ≤ r.a
  oa : r.op.length ≤ r.a
  at' : r.a ≤ t.size
  kk : ∀ o ∈ r.op, kd r.ss o = 72 ∨ kd r.ss o = 73 ∨ kd r.ss o = 74

theorem kd_lt {ss : List St} {o : Nat} (h : kd ss o ≠ 0) : o < ss.length := by
  unfold kd at h
  by_cases hx : o < ss.length
  · exact hx
  · rw [List.getElem?_eq_none (by omega)] at h
    simp at h
theorem kd_get {ss : List St} {o : Nat} (h : o < ss.length) : kd ss o = (ss[o]).kind := by
  unfold kd
  rw [List.getElem?_eq_getElem h]
theorem kd_append {ss xs : List St} {o : Nat} (h : o < ss.length) : kd (ss ++ xs) o = kd ss o := by
  unfold kd
  rw [List.getElem?_append_left h]
theorem kd_snoc (ss : List St) (s : St) : kd (ss ++ [s]) ss.length = s.kind := by
  unfold kd
  simp
theorem kd_leave (ss : List St) (q o : Nat) : kd (leaveM ss q) o = kd ss o := by
  unfold kd leaveM
  rw [List.getElem?_modify]
  cases ss[o]? with
  | none => rfl
  | some s =>
    by_cases h : q = o
    · simp [h, St.leaving]
    · simp [h]

theorem fits_size {t : ByteArray} {a : Nat} {bad : Bool} {lo hi : Int} (hh : hi ≤ 255) (h : fitsM t a bad lo hi = true) : a < t.size := Split.lt_of_byt (by simp [fitsM] at h; omega)
theorem takeA_size {t : ByteArray} {a : Nat} {bad : Bool} {lo hi : Int} (hh : hi ≤ 255) (h : a ≤ t.size) : takeA t a bad lo hi ≤ t.size := by
  unfold takeA
  split
  · rename_i hf
    exact fits_size hh hf
  · exact h
theorem nm_size {t : ByteArray} {a : Nat} {bad : Bool} (h : a ≤ t.size) : ∀ k, (nmM t a bad k).a ≤ t.size
  | 0 => h
  | k + 1 => takeA_size (by omega) (nm_size h k)
theorem hun_size {t : ByteArray} {a : Nat} {bad : Bool} (h : a ≤ t.size) : (hunM t a bad).a ≤ t.size := takeA_size (by omega) (takeA_size (by omega) h)
theorem riseL_size {t : ByteArray} {bad : Bool} : ∀ (k z a : Nat) (m : List Bool), a ≤ t.size → z + k ≤ 8 → (riseL t bad k z a m).1 ≤ t.size ∧ a ≤ (riseL t bad k z a m).1
  | 0, z, a, m, h, _ => ⟨h, Nat.le_refl _⟩
  | k + 1, z, a, m, h, hz => by
    unfold riseL
    split
    · rename_i hf
      have := riseL_size (bad := bad) k (z + 1) (a + 1) (m.set z true) (fits_size (by omega) hf) (by omega)
      omega
    · exact riseL_size k (z + 1) a m h (by omega)
theorem ris_bd (t : ByteArray) (a : Nat) (bad : Bool) : 97 ≤ ris1 t a bad ∧ ris1 t a bad ≤ 103 ∧ ris1 t a bad + 1 ≤ ris2 t a bad ∧ ris2 t a bad ≤ 104 := by
  have h1 := takeV_bd t a bad 97 103 (by omega)
  have h2 := takeV_bd t (takeA t a bad 97 103) (takeB t a bad 97 103) (ris1 t a bad + 1) 104 (by unfold ris1; omega)
  unfold ris2
  unfold ris1 at *
  omega
theorem ris_size {t : ByteArray} {a : Nat} {bad : Bool} (h : a ≤ t.size) : (risR t a bad).1 ≤ t.size ∧ a ≤ (risR t a bad).1 := by
  have hb := ris_bd t a bad
  have h1 := takeA_bd t a bad 97 103
  have h2 := takeA_bd t (takeA t a bad 97 103) (takeB t a bad 97 103) (ris1 t a bad + 1) 104
  have h3 : takeA t a bad 97 103 ≤ t.size := takeA_size (by omega) h
  have h4 : risA t a bad ≤ t.size := takeA_size (by omega) h3
  have := riseL_size (t := t) (bad := risB t a bad) (104 - ris2 t a bad).toNat (ris2 t a bad - 96).toNat (risA t a bad) ((Split.none8.set (ris1 t a bad - 97).toNat true).set (ris2 t a bad - 97).toNat true) h4 (by omega)
  unfold risR
  unfold risA at *
  omega
theorem openA_size {t : ByteArray} {a : Nat} {bad : Bool} (h : a ≤ t.size) : openA t a bad ≤ t.size ∧ a ≤ openA t a bad := by
  unfold openA
  split
  · rename_i hf
    have := fits_size (by omega) hf
    omega
  · omega

/-- A block opens behind the last step. -/
theorem inv_opened {t : ByteArray} {a : Nat} {bad : Bool} {ss : List St} {op : List Nat} {deep : Int} (h1 : ss.length ≤ a) (h2 : op.length ≤ a) (h3 : a ≤ t.size)
    (h4 : ∀ o ∈ op, kd ss o = 72 ∨ kd ss o = 73 ∨ kd ss o = 74) (h5 : kd ss (ss.length - 1) = 72 ∨ kd ss (ss.length - 1) = 73 ∨ kd ss (ss.length - 1) = 74) : Inv t (opened t a bad ss op deep) := by
  have ho := openA_size (bad := bad) h3
  refine ⟨by simp only [opened]; omega, ?_, ho.1, ?_⟩
  · simp only [opened, openO, openA]
    split
    · simp; omega
    · exact h2
  · simp only [opened, openO]
    intro o hm
    split at hm
    · simp at hm
      rcases hm with hm | rfl
      · exact h4 o hm
      · exact h5
    · exact h4 o hm

theorem inv_snoc {t : ByteArray} {r : RS} (h : Inv t r) (s : St) : ∀ o ∈ r.op, kd (r.ss ++ [s]) o = 72 ∨ kd (r.ss ++ [s]) o = 73 ∨ kd (r.ss ++ [s]) o = 74 := by
  intro o ho
  have := h.kk o ho
  rw [kd_append (kd_lt (by omega))]
  exact this

theorem inv_close {t : ByteArray} {r : RS} (h : Inv t r) (hlt : r.a < t.size) : Inv t (closeM t r) := by
  have h1 := h.sa
  have h2 := h.oa
  unfold closeM
  cases hl : r.op.getLast? with
  | none =>
    have : r.op = [] := List.getLast?_eq_none_iff.1 hl
    exact ⟨h1, by simp, h.at', fun o ho => by simp at ho⟩
  | some o =>
    have hmem : o ∈ r.op := List.mem_of_getLast? hl
    have hk := h.kk o hmem
    have hol : o < r.ss.length := kd_lt (by omega)
    have hd : r.op.dropLast.length ≤ r.op.length := by simp
    have hsub : ∀ x ∈ r.op.dropLast, x ∈ r.op := fun x hx => (List.dropLast_sublist r.op).subset hx
    dsimp only
    split
    · exact ⟨by simp; omega, by simp; omega, hlt, fun x hx => inv_snoc h _ x (hsub x hx)⟩
    · split
      · have hlen : (closeI r.ss o).length = r.ss.length + 1 := by simp [closeI, leaveM]
        refine inv_opened (by rw [hlen]; omega) (by omega) hlt ?_ ?_
        · intro x hx
          unfold closeI
          rw [kd_leave]
          exact inv_snoc h _ x (hsub x hx)
        · right; right
          rw [hlen]
          unfold closeI
          rw [kd_leave, Nat.add_sub_cancel, kd_snoc]
          rfl
      · refine ⟨by simp [leaveM]; omega, by dsimp only; omega, hlt, fun x hx => ?_⟩
        dsimp only
        rw [kd_leave]
        exact h.kk x (hsub x hx)

theorem inv_part {t : ByteArray} {r : RS} (h : Inv t r) (hlt : r.a < t.size) : Inv t (partM t r) := by
  have h1 := h.sa
  have h2 := h.oa
  have hta := takeA_bd t (r.a + 1) r.bad 97 104
  have hts : takeA t (r.a + 1) r.bad 97 104 ≤ t.size := takeA_size (by omega) hlt
  have hnb := nmM_bd t (takeA t (r.a + 1) r.bad 97 104) (takeB t (r.a + 1) r.bad 97 104) 4
  have hns := nm_size (bad := takeB t (r.a + 1) r.bad 97 104) hts 4
  have hrs := ris_size (bad := r.bad) (show r.a + 1 ≤ t.size from hlt)
  have hhs := hun_size (bad := r.bad) (show r.a + 1 ≤ t.size from hlt)
  have hhb : r.a + 1 ≤ (hunM t (r.a + 1) r.bad).a := by
    have q1 := takeA_bd t (r.a + 1) r.bad 48 57
    have q2 := takeA_bd t (takeA t (r.a + 1) r.bad 48 57) (takeB t (r.a + 1) r.bad 48 57) (hunLo t (r.a + 1) r.bad) 57
    simp only [hunM]
    omega
  unfold partM
  split
  · exact inv_close h hlt
  split
  · exact ⟨by simp; omega, by dsimp only; omega, hts, inv_snoc h _⟩
  split
  · exact ⟨by simp; omega, by dsimp only; omega, hns, inv_snoc h _⟩
  split
  · refine inv_opened (by simp; omega) (by omega) hns (inv_snoc h _) ?_
    right; left
    rw [List.length_append, List.length_singleton, Nat.add_sub_cancel, kd_snoc]
  split
  · exact ⟨by simp; omega, by dsimp only; omega, hrs.1, inv_snoc h _⟩
  split
  · refine inv_opened (by simp; omega) (by omega) hhs (inv_snoc h _) ?_
    left
    rw [List.length_append, List.length_singleton, Nat.add_sub_cancel, kd_snoc]
  · exact ⟨h1, h2, h.at', h.kk⟩
end Go.Proofs.Ytbpolcnjojlkjab
