/- Agree: Tok, Sim -/
import Derived.Test.YtmdjdpofpkgffabParsing
import Derived.Test.YtmdjdpofpkgffabRefRead

/- A part of split's reader is a head of the document's. -/
namespace Go.Proofs.Ytmdjdpofpkgffab
open Split
set_option linter.unusedVariables false
set_option linter.unusedSimpArgs false

theorem fits_f (t : ByteArray) (a : Nat) (lo hi : Int) : fitsM t a true lo hi = false := by simp [fitsM]
theorem fits_t {t : ByteArray} {a : Nat} {lo hi : Int} : fitsM t a false lo hi = true ↔ lo ≤ byt t a ∧ byt t a ≤ hi := by simp [fitsM]
theorem fits_n {t : ByteArray} {a : Nat} {lo hi : Int} : fitsM t a false lo hi = false ↔ ¬ (lo ≤ byt t a ∧ byt t a ≤ hi) := by
  rw [← fits_t]; simp
theorem take_stuck (t : ByteArray) (a : Nat) (lo hi : Int) : takeA t a true lo hi = a ∧ takeB t a true lo hi = true ∧ takeV t a true lo hi = lo := by simp [takeA, takeB, takeV, fits_f]
theorem take_yes {t : ByteArray} {a : Nat} {lo hi : Int} (h : lo ≤ byt t a ∧ byt t a ≤ hi) : takeA t a false lo hi = a + 1 ∧ takeB t a false lo hi = false ∧ takeV t a false lo hi = byt t a := by
  have := fits_t.2 h
  simp [takeA, takeB, takeV, this]
theorem take_no {t : ByteArray} {a : Nat} {lo hi : Int} (h : ¬ (lo ≤ byt t a ∧ byt t a ≤ hi)) : takeA t a false lo hi = a ∧ takeB t a false lo hi = true ∧ takeV t a false lo hi = lo := by
  have := fits_n.2 h
  simp [takeA, takeB, takeV, this]

theorem nm_stuck (t : ByteArray) (a : Nat) : ∀ k, (nmM t a true k).a = a ∧ (nmM t a true k).b = true
  | 0 => ⟨rfl, rfl⟩
  | k + 1 => by
    have h := nm_stuck t a k
    simp only [nmM, h.1, h.2]
    have := take_stuck t a 48 57
    exact ⟨this.1, this.2.1⟩

theorem digM_next (t : ByteArray) : ∀ (k i : Nat), digM t i k = i + k → digM t i (k + 1) = (if dig (byt t (i + k)) then i + k + 1 else i + k)
  | 0, i, _ => by simp [digM]
  | k + 1, i, h => by
    have hd : dig (byt t i) = true := by
      cases hx : dig (byt t i)
      · simp [digM, hx] at h
      · rfl
    have h' : digM t (i + 1) k = i + 1 + k := by
      simp only [digM, hd, if_true] at h
      omega
    have := digM_next t k (i + 1) h'
    show (if dig (byt t i) then digM t (i + 1) (k + 1) else i) = _
    rw [hd, if_pos rfl, this, show i + 1 + k = i + (k + 1) by omega]
theorem digM_stop (t : ByteArray) : ∀ (k i : Nat), digM t i k ≠ i + k → digM t i (k + 1) = digM t i k
  | 0, i, h => by simp [digM] at h
  | k + 1, i, h => by
    cases hx : dig (byt t i)
    · simp [digM, hx]
    · have h' : digM t (i + 1) k ≠ i + 1 + k := by
        simp only [digM, hx, if_true] at h
        omega
      have := digM_stop t k (i + 1) h'
      show (if dig (byt t i) then digM t (i + 1) (k + 1) else i) = (if dig (byt t i) then digM t (i + 1) k else i)
      rw [hx, if_pos rfl, if_pos rfl, this]

theorem nm_dig (t : ByteArray) (a : Nat) : ∀ k, (digM t a k = a + k → nmM t a false k = ⟨a + k, false, numM t a k⟩) ∧ (digM t a k ≠ a + k → (nmM t a false k).a = digM t a k ∧ (nmM t a false k).b = true)
  | 0 => ⟨fun _ => rfl, fun h => by simp [digM] at h⟩
  | k + 1 => by
    have ih := nm_dig t a k
    by_cases h : digM t a k = a + k
    · have e := ih.1 h
      have hn := digM_next t k a h
      cases hx : dig (byt t (a + k))
      · rw [hx] at hn
        simp at hn
        refine ⟨fun h' => by omega, fun _ => ?_⟩
        simp only [nmM, e]
        have := take_no (t := t) (a := a + k) (lo := 48) (hi := 57) (by rw [dig_f] at hx; omega)
        rw [this.1, this.2.1, hn]
        exact ⟨rfl, rfl⟩
      · rw [hx] at hn
        simp at hn
        refine ⟨fun _ => ?_, fun h' => absurd (by rw [hn]; omega) h'⟩
        simp only [nmM, e]
        have := take_yes (t := t) (a := a + k) (lo := 48) (hi := 57) (by rw [dig_t] at hx; omega)
        rw [this.1, this.2.1, this.2.2]
        rfl
    · have e := ih.2 h
      have hs := digM_stop t k a h
      have hl := digM_le t k a
      refine ⟨fun h' => by omega, fun _ => ?_⟩
      simp only [nmM, e.1, e.2]
      have := take_stuck t (digM t a k) 48 57
      rw [this.1, this.2.1, hs]
      exact ⟨rfl, rfl⟩

/-- The hundredths. -/
theorem hun_dig (t : ByteArray) (a : Nat) :
    (digM t a 2 = a + 2 ∧ ¬ (byt t a = 48 ∧ byt t (a + 1) = 48) → hunM t a false = ⟨a + 2, false, numM t a 2⟩) ∧
    (digM t a 2 = a + 2 ∧ (byt t a = 48 ∧ byt t (a + 1) = 48) → (hunM t a false).a = a + 1 ∧ (hunM t a false).b = true) ∧
    (digM t a 2 ≠ a + 2 → (hunM t a false).a = digM t a 2 ∧ (hunM t a false).b = true) := by
  cases h1 : dig (byt t a)
  · have hd : digM t a 2 = a := by simp [digM, h1]
    have t1 := take_no (t := t) (a := a) (lo := 48) (hi := 57) (by rw [dig_f] at h1; omega)
    refine ⟨fun h => by omega, fun h => by omega, fun _ => ?_⟩
    unfold hunM
    rw [t1.1, t1.2.1]
    have t2 := take_stuck t a (hunLo t a false) 57
    rw [t2.1, t2.2.1, hd]
    exact ⟨rfl, rfl⟩
  · have t1 := take_yes (t := t) (a := a) (lo := 48) (hi := 57) (by rw [dig_t] at h1; omega)
    have hv : hunV1 t a false = byt t a := t1.2.2
    have hlo : hunLo t a false = if byt t a = 48 then 49 else 48 := by unfold hunLo; rw [hv]
    have hdig : digM t a 2 = if dig (byt t (a + 1)) then a + 2 else a + 1 := by
      simp [digM, h1]
    have e : hunM t a false = ⟨takeA t (a + 1) false (hunLo t a false) 57, takeB t (a + 1) false (hunLo t a false) 57, 10 * (byt t a - 48) + (takeV t (a + 1) false (hunLo t a false) 57 - 48)⟩ := by
      unfold hunM
      rw [t1.1, t1.2.1, hv]
    rw [e, hlo]
    cases h2 : dig (byt t (a + 1))
    · rw [h2] at hdig
      simp at hdig
      have t2 := take_no (t := t) (a := a + 1) (lo := if byt t a = 48 then 49 else 48) (hi := 57) (by rw [dig_f] at h2; split <;> omega)
      rw [t2.1, t2.2.1, hdig]
      exact ⟨fun h => by omega, fun h => by omega, fun _ => ⟨rfl, rfl⟩⟩
    · rw [h2] at hdig
      simp at hdig
      rw [dig_t] at h1 h2
      by_cases h00 : byt t a = 48 ∧ byt t (a + 1) = 48
      · have t2 := take_no (t := t) (a := a + 1) (lo := if byt t a = 48 then 49 else 48) (hi := 57) (by rw [if_pos h00.1]; omega)
        rw [t2.1, t2.2.1]
        exact ⟨fun h => absurd h00 h.2, fun _ => ⟨rfl, rfl⟩, fun h => absurd hdig h⟩
      · have t2 := take_yes (t := t) (a := a + 1) (lo := if byt t a = 48 then 49 else 48) (hi := 57) (by split <;> omega)
        rw [t2.1, t2.2.1, t2.2.2]
        refine ⟨fun _ => ?_, fun h => absurd h.2 h00, fun h => absurd hdig h⟩
        have e2 : numM t a 2 = 10 * (byt t a - 48) + (byt t (a + 1) - 48) := by
          simp only [numM, Nat.add_zero]
          omega
        rw [e2]

/-- Which letters stand from place i to place j. -/
theorem among_snoc (t : ByteArray) (i j z : Nat) (hij : i ≤ j) (hz : z < 8) (hb : byt t j = (z : Int) + 97) : amongM t i (j + 1) = (amongM t i j).set z true := by
  apply List.ext_getElem?
  intro k
  rw [List.getElem?_set]
  simp only [amongM, List.getElem?_map, List.length_map, List.length_range]
  by_cases hk : k < 8
  · rw [List.getElem?_range hk]
    simp only [Option.map_some]
    rw [show j + 1 - i = (j - i) + 1 by omega, List.range_succ, List.any_append]
    simp only [List.any_cons, List.any_nil, Bool.or_false]
    rw [show i + (j - i) = j by omega, hb]
    by_cases hzk : z = k
    · subst hzk
      have : ((z : Int) + 97 == 97 + (z : Int)) = true := by rw [beq_iff_eq]; omega
      rw [this, Bool.or_true, if_pos rfl, if_pos hz]
    · have : ((z : Int) + 97 == 97 + (k : Int)) = false := by rw [beq_eq_false_iff_ne]; omega
      rw [this, Bool.or_false, if_neg hzk]
  · rw [List.getElem?_eq_none (by simp; omega)]
    simp only [Option.map_none]
    rw [if_neg (by omega)]
theorem among_zero (t : ByteArray) (i : Nat) : amongM t i i = none8 := by
  apply List.ext_getElem?
  intro k
  simp only [amongM, none8, List.getElem?_map, Nat.sub_self, List.range_zero, List.any_nil]
  rw [List.getElem?_replicate]
  by_cases hk : k < 8
  · rw [List.getElem?_range hk, if_pos hk]; rfl
  · rw [List.getElem?_eq_none (by simp; omega), if_neg hk]; rfl

/-- The letters behind the second one. -/
theorem riseL_eq (t : ByteArray) (i : Nat) : ∀ (k z a f : Nat), z + k = 8 → i < a → a ≤ t.size → t.size - a ≤ f → byt t (a - 1) < (z : Int) + 97 → 97 ≤ byt t (a - 1) → ¬ (byt t (a - 1) < byt t a ∧ byt t a < (z : Int) + 97) →
    riseL t false k z a (amongM t i a) = (riseM t f a, amongM t i (riseM t f a))
  | 0, z, a, f, hz, hia, has, hf, h1, h2, h3 => by
    have hr : riseB t a = false := by
      cases hx : riseB t a
      · rfl
      · simp [riseB, buc_t] at hx
        omega
    have : riseM t f a = a := by
      cases f with
      | zero => rfl
      | succ f => simp [riseM, hr]
    rw [this]
    rfl
  | k + 1, z, a, f, hz, hia, has, hf, h1, h2, h3 => by
    unfold riseL
    cases hx : fitsM t a false ((z : Int) + 97) ((z : Int) + 97)
    · rw [fits_n] at hx
      simp only [if_false, Bool.false_eq_true]
      exact riseL_eq t i k (z + 1) a f (by omega) hia has hf (by omega) h2 (by omega)
    · rw [fits_t] at hx
      simp only [if_true]
      have hb : byt t a = (z : Int) + 97 := by omega
      have hlt : a < t.size := lt_of_byt (by omega)
      have hr : riseB t a = true := by
        simp only [riseB, Bool.and_eq_true, buc_t, decide_eq_true_eq]
        omega
      obtain ⟨f', rfl⟩ : ∃ f', f = f' + 1 := ⟨f - 1, by omega⟩
      have e : riseM t (f' + 1) a = riseM t f' (a + 1) := by simp [riseM, hr]
      rw [e, ← among_snoc t i a z (by omega) (by omega) hb]
      exact riseL_eq t i k (z + 1) (a + 1) f' (by omega) (by omega) hlt (by omega) (by rw [Nat.add_sub_cancel]; omega) (by rw [Nat.add_sub_cancel]; omega) (by rw [Nat.add_sub_cancel]; omega)

theorem riseM_fuel (t : ByteArray) : ∀ (f g j : Nat), t.size - j ≤ f → t.size - j ≤ g → riseM t f j = riseM t g j
  | 0, g, j, h1, h2 => by
    have hr : riseB t j = false := by
      cases hx : riseB t j
      · rfl
      · have : j < t.size := lt_of_byt (by simp [riseB, buc_t] at hx; omega)
        omega
    cases g with
    | zero => rfl
    | succ g => simp [riseM, hr]
  | f + 1, g, j, h1, h2 => by
    cases hx : riseB t j
    · cases g with
      | zero => simp [riseM, hx]
      | succ g => simp [riseM, hx]
    · have hlt : j < t.size := lt_of_byt (by simp [riseB, buc_t] at hx; omega)
      cases g with
      | zero => omega
      | succ g =>
        simp only [riseM, hx, if_true]
        exact riseM_fuel t f g (j + 1) (by omega) (by omega)

/-- The step R. -/
theorem ris_eq (t : ByteArray) (a : Nat) :
    (byt t a ≠ 104 ∧ a + 2 ≤ risM t a → risR t a false = (risM t a, amongM t a (risM t a)) ∧ risB t a false = false) ∧
    (byt t a = 104 → (risR t a false).1 = a ∧ risB t a false = true) ∧
    (byt t a ≠ 104 ∧ ¬ a + 2 ≤ risM t a → (risR t a false).1 = risM t a ∧ risB t a false = true) := by
  have stuck : ∀ (k z a : Nat) (m : List Bool), (riseL t true k z a m).1 = a := by
    intro k
    induction k with
    | zero => intro z a m; rfl
    | succ k ih =>
      intro z a m
      unfold riseL
      rw [fits_f]
      simp only [Bool.false_eq_true, if_false]
      exact ih _ _ _
  by_cases h1 : 97 ≤ byt t a ∧ byt t a ≤ 103
  · have t1 := take_yes h1
    have hbuc : buc (byt t a) = true := buc_t.2 (by omega)
    have hlt : a < t.size := lt_of_byt (by omega)
    have hris : risM t a = riseM t t.size (a + 1) := by simp [risM, hbuc]
    have q1 : ris1 t a false = byt t a := t1.2.2
    by_cases h2 : byt t a + 1 ≤ byt t (a + 1) ∧ byt t (a + 1) ≤ 104
    · have t2 := take_yes h2
      have q2 : ris2 t a false = byt t (a + 1) := by unfold ris2; rw [t1.1, t1.2.1, q1]; exact t2.2.2
      have qA : risA t a false = a + 2 := by unfold risA; rw [t1.1, t1.2.1, q1]; exact t2.1
      have qB : risB t a false = false := by unfold risB; rw [t1.1, t1.2.1, q1]; exact t2.2.1
      have hlt2 : a + 1 < t.size := lt_of_byt (by omega)
      have hr : riseB t (a + 1) = true := by
        simp only [riseB, Bool.and_eq_true, buc_t, decide_eq_true_eq, Nat.add_sub_cancel]
        omega
      obtain ⟨s, hs⟩ : ∃ s, t.size = s + 1 := ⟨t.size - 1, by omega⟩
      have e1 : riseM t t.size (a + 1) = riseM t s (a + 2) := by rw [hs]; simp [riseM, hr]
      have e2 : riseM t s (a + 2) = riseM t t.size (a + 2) := riseM_fuel t _ _ _ (by omega) (by omega)
      have hm1 : amongM t a (a + 1) = none8.set (byt t a - 97).toNat true := by
        rw [among_snoc t a a (byt t a - 97).toNat (Nat.le_refl _) (by omega) (by omega), among_zero]
      have hm2 : amongM t a (a + 2) = (none8.set (byt t a - 97).toNat true).set (byt t (a + 1) - 97).toNat true := by
        rw [among_snoc t a (a + 1) (byt t (a + 1) - 97).toNat (by omega) (by omega) (by omega), hm1]
      have hmain : risR t a false = (riseM t t.size (a + 2), amongM t a (riseM t t.size (a + 2))) := by
        unfold risR
        rw [q1, q2, qA, qB, ← hm2]
        refine riseL_eq t a _ _ (a + 2) t.size (by omega) (by omega) (by omega) (by omega) ?_ ?_ ?_
        · rw [show a + 2 - 1 = a + 1 by omega]; omega
        · rw [show a + 2 - 1 = a + 1 by omega]; omega
        · rw [show a + 2 - 1 = a + 1 by omega]; omega
      have hge := riseM_le t t.size (a + 2)
      rw [hris, e1, e2]
      refine ⟨fun _ => ⟨hmain, qB⟩, fun h => by omega, fun h => by omega⟩
    · have t2 := take_no h2
      have qA : risA t a false = a + 1 := by unfold risA; rw [t1.1, t1.2.1, q1]; exact t2.1
      have qB : risB t a false = true := by unfold risB; rw [t1.1, t1.2.1, q1]; exact t2.2.1
      have hr : riseB t (a + 1) = false := by
        cases hx : riseB t (a + 1)
        · rfl
        · simp only [riseB, Bool.and_eq_true, buc_t, decide_eq_true_eq, Nat.add_sub_cancel] at hx
          omega
      have e1 : riseM t t.size (a + 1) = a + 1 := by
        cases hs : t.size with
        | zero => rfl
        | succ s => simp [riseM, hr]
      rw [hris, e1]
      refine ⟨fun h => by omega, fun h => by omega, fun _ => ⟨?_, qB⟩⟩
      unfold risR
      rw [qA, qB]
      exact stuck _ _ _ _
  · have t1 := take_no h1
    have q1 : ris1 t a false = 97 := t1.2.2
    have t2 := take_stuck t a (97 + 1) 104
    have qA : risA t a false = a := by unfold risA; rw [t1.1, t1.2.1, q1]; exact t2.1
    have qB : risB t a false = true := by unfold risB; rw [t1.1, t1.2.1, q1]; exact t2.2.1
    have hR : (risR t a false).1 = a := by
      unfold risR
      rw [qA, qB]
      exact stuck _ _ _ _
    refine ⟨fun h => ?_, fun _ => ⟨hR, qB⟩, fun h => ?_⟩
    · have : risM t a = a := by
        unfold risM
        rw [if_neg]
        rw [Bool.not_eq_true, buc_f]
        omega
      omega
    · have : risM t a = a := by
        unfold risM
        rw [if_neg]
        rw [Bool.not_eq_true, buc_f]
        omega
      rw [this]
      exact ⟨hR, qB⟩
end Go.Proofs.Ytmdjdpofpkgffab

/- split's reader reads what the document's scan reads. -/
namespace Go.Proofs.Ytmdjdpofpkgffab
open Split
set_option linter.unusedVariables false
set_option linter.unusedSimpArgs false

theorem open_stuck (t : ByteArray) (a : Nat) (ss : List St) (op : List Nat) (deep : Int) : opened t a true ss op deep = ⟨a, true, ss, op, deep⟩ := by
  simp [opened, openA, openB, openO, openD, fits_f]
theorem open_yes {t : ByteArray} {a : Nat} (ss : List St) (op : List Nat) (deep : Int) (h : byt t a = 40) :
    opened t a false ss op deep = ⟨a + 1, false, ss, op ++ [ss.length - 1], if 5 ≤ op.length ∧ deep < 0 then a else deep⟩ := by
  have : fitsM t a false 40 40 = true := fits_t.2 (by omega)
  simp [opened, openA, openB, openO, openD, this]
theorem open_no {t : ByteArray} {a : Nat} (ss : List St) (op : List Nat) (deep : Int) (h : byt t a ≠ 40) : opened t a false ss op deep = ⟨a, true, ss, op, deep⟩ := by
  have : fitsM t a false 40 40 = false := fits_n.2 (by omega)
  simp [opened, openA, openB, openO, openD, this]

/-- One part of the reader, by the head that stands there. -/
theorem part_head (t : ByteArray) (a : Nat) (ss : List St) (op : List Nat) (deep : Int) (hlt : a < t.size) (h41 : byt t a ≠ 41) :
    ((headM t a).2.2 = false → (partM t ⟨a, false, ss, op, deep⟩).bad = true ∧ (partM t ⟨a, false, ss, op, deep⟩).a = (headM t a).1) ∧
    ((headM t a).2.2 = true → (headM t a).2.1 = 0 → partM t ⟨a, false, ss, op, deep⟩ = ⟨(headM t a).1, false, ss ++ [Split.stM t a], op, deep⟩) ∧
    ((headM t a).2.2 = true → (headM t a).2.1 ≠ 0 → partM t ⟨a, false, ss, op, deep⟩ = opened t (headM t a).1 false (ss ++ [Split.stM t a]) op deep) := by
  have hbk : (buc (byt t (a + 1)) = true → takeA t (a + 1) false 97 104 = a + 2 ∧ takeB t (a + 1) false 97 104 = false ∧ takeV t (a + 1) false 97 104 = byt t (a + 1) ∧ bucM t (a + 1) = a + 2) ∧
      (buc (byt t (a + 1)) = false → takeA t (a + 1) false 97 104 = a + 1 ∧ takeB t (a + 1) false 97 104 = true ∧ bucM t (a + 1) = a + 1) := by
    constructor
    · intro h
      have := take_yes (t := t) (a := a + 1) (buc_t.1 h)
      exact ⟨this.1, this.2.1, this.2.2, bucM_t h⟩
    · intro h
      have := take_no (t := t) (a := a + 1) (lo := 97) (hi := 104) (by rw [buc_f] at h; omega)
      exact ⟨this.1, this.2.1, bucM_f h⟩
  by_cases h80 : byt t a = 80
  · have e : partM t ⟨a, false, ss, op, deep⟩ = ⟨takeA t (a + 1) false 97 104, takeB t (a + 1) false 97 104, ss ++ [⟨80, takeV t (a + 1) false 97 104 - 97, 0, none8, 0⟩], op, deep⟩ := by
      simp [partM, h80]
    have hh : headM t a = (bucM t (a + 1), 0, decide (bucM t (a + 1) = a + 2)) := by simp [headM, h80]
    rw [e, hh]
    cases hb : buc (byt t (a + 1))
    · obtain ⟨p1, p2, p3⟩ := hbk.2 hb
      rw [p1, p2, p3]
      simp
    · obtain ⟨p1, p2, p3, p4⟩ := hbk.1 hb
      rw [p1, p2, p3, p4]
      simp [Split.stM, h80]
  by_cases h67 : byt t a = 67 ∨ byt t a = 73
  · -- C and I
    have e : partM t ⟨a, false, ss, op, deep⟩ = (if byt t a = 73 then opened t (nmM t (takeA t (a + 1) false 97 104) (takeB t (a + 1) false 97 104) 4).a (nmM t (takeA t (a + 1) false 97 104) (takeB t (a + 1) false 97 104) 4).b (ss ++ [⟨byt t a, takeV t (a + 1) false 97 104 - 97, (nmM t (takeA t (a + 1) false 97 104) (takeB t (a + 1) false 97 104) 4).n, none8, 0⟩]) op deep
        else ⟨(nmM t (takeA t (a + 1) false 97 104) (takeB t (a + 1) false 97 104) 4).a, (nmM t (takeA t (a + 1) false 97 104) (takeB t (a + 1) false 97 104) 4).b, ss ++ [⟨byt t a, takeV t (a + 1) false 97 104 - 97, (nmM t (takeA t (a + 1) false 97 104) (takeB t (a + 1) false 97 104) 4).n, none8, 0⟩], op, deep⟩) := by
      rcases h67 with h | h <;> simp [partM, h]
    have hh : headM t a = (if bucM t (a + 1) = a + 2 then (digM t (a + 2) 4, if byt t a = 73 then 2 else 0, decide (digM t (a + 2) 4 = a + 6)) else (bucM t (a + 1), 0, false)) := by
      simp only [headM, if_neg h80, if_pos h67]
    rw [e, hh]
    cases hb : buc (byt t (a + 1))
    · obtain ⟨p1, p2, p3⟩ := hbk.2 hb
      rw [p1, p2, p3, if_neg (by omega)]
      have hst := nm_stuck t (a + 1) 4
      rw [hst.1, hst.2]
      split
      · rw [open_stuck]; simp
      · simp
    · obtain ⟨p1, p2, p3, p4⟩ := hbk.1 hb
      rw [p1, p2, p3, p4, if_pos rfl]
      have hnd := nm_dig t (a + 2) 4
      by_cases hd : digM t (a + 2) 4 = a + 6
      · have hq := hnd.1 (by omega)
        rw [hq, hd]
        dsimp only
        have hst : Split.stM t a = ⟨byt t a, byt t (a + 1) - 97, numM t (a + 2) 4, none8, 0⟩ := by simp only [Split.stM, if_neg h80, if_pos h67]
        rw [hst]
        by_cases h73 : byt t a = 73
        · simp only [h73, if_true]
          simp
        · simp only [if_neg h73]
          simp
      · have hq := hnd.2 (by omega)
        rw [hq.1, hq.2]
        split
        · rw [open_stuck]; simp [hd]
        · simp [hd]
  have h67' : byt t a ≠ 67 := fun h => h67 (.inl h)
  have h73' : byt t a ≠ 73 := fun h => h67 (.inr h)
  by_cases h82 : byt t a = 82
  · have e : partM t ⟨a, false, ss, op, deep⟩ = ⟨(risR t (a + 1) false).1, risB t (a + 1) false, ss ++ [⟨82, 0, 0, (risR t (a + 1) false).2, 0⟩], op, deep⟩ := by simp [partM, h82]
    have hh : headM t a = (if byt t (a + 1) = 104 then (a + 1, 0, false) else (risM t (a + 1), 0, decide (a + 3 ≤ risM t (a + 1)))) := by simp [headM, h82]
    have hr := ris_eq t (a + 1)
    rw [e, hh]
    by_cases h104 : byt t (a + 1) = 104
    · have := hr.2.1 h104
      rw [if_pos h104, this.1, this.2]
      simp
    · rw [if_neg h104]
      by_cases h3 : a + 3 ≤ risM t (a + 1)
      · have := hr.1 ⟨h104, by omega⟩
        rw [this.1, this.2]
        simp [h3, Split.stM, h82]
      · have := hr.2.2 ⟨h104, by omega⟩
        rw [this.1, this.2]
        simp [h3]
  by_cases h72 : byt t a = 72
  · have e : partM t ⟨a, false, ss, op, deep⟩ = opened t (hunM t (a + 1) false).a (hunM t (a + 1) false).b (ss ++ [⟨72, 0, (hunM t (a + 1) false).n, none8, 0⟩]) op deep := by simp [partM, h72]
    have hh : headM t a = (if digM t (a + 1) 2 = a + 3 ∧ byt t (a + 1) = 48 ∧ byt t (a + 2) = 48 then (a + 2, 1, false) else (digM t (a + 1) 2, 1, decide (digM t (a + 1) 2 = a + 3))) := by simp [headM, h72]
    have hu := hun_dig t (a + 1)
    rw [e, hh]
    by_cases hd : digM t (a + 1) 2 = a + 3
    · by_cases h00 : byt t (a + 1) = 48 ∧ byt t (a + 2) = 48
      · have := hu.2.1 ⟨by omega, h00⟩
        rw [this.1, this.2, if_pos ⟨hd, h00⟩, open_stuck]
        simp
      · have := hu.1 ⟨by omega, h00⟩
        rw [this, if_neg (fun h => h00 h.2), hd]
        have hst : Split.stM t a = ⟨72, 0, numM t (a + 1) 2, none8, 0⟩ := by simp [Split.stM, h72]
        rw [hst]
        simp
    · have := hu.2.2 (by omega)
      rw [this.1, this.2, if_neg (fun h => hd h.1), open_stuck]
      simp [hd]
  · have e : partM t ⟨a, false, ss, op, deep⟩ = ⟨a, true, ss, op, deep⟩ := by simp [partM, h41, h80, h67', h73', h82, h72]
    have hh : headM t a = (a, 0, false) := by simp [headM, h80, h67', h73', h82, h72]
    rw [e, hh]
    simp

/-- Two readings alike but for the first block too many. -/
def Eq3 (a b : Rd) : Prop := a.j = b.j ∧ a.ok = b.ok ∧ a.code = b.code
def DeepOk (d : Int) : Prop := d = -1 ∨ 0 ≤ d

/-- What a reading says of depth is only handed on. -/
def Dp (t : ByteArray) (i : Nat) : Prop := ∀ dep deep, DeepOk deep → Eq3 (scanF t i dep deep) (scanF t i dep (-1)) ∧ (0 ≤ deep → (scanF t i dep deep).deep = deep) ∧ DeepOk (scanF t i dep deep).deep

theorem blk_deep {t : ByteArray} {j dep : Nat} {deep : Int} (hj : j ≤ t.size) (ih : byt t j = 40 → Dp t (j + 1)) (hd : DeepOk deep) :
    Eq3 (blkM t (scanF t) j dep deep) (blkM t (scanF t) j dep (-1)) ∧ (0 ≤ deep → (blkM t (scanF t) j dep deep).deep = deep) ∧ DeepOk (blkM t (scanF t) j dep deep).deep := by
  unfold blkM
  by_cases h : byt t j = 40
  · have hi := ih h (dep + 1) (-1) (.inl rfl)
    rw [if_pos h, if_pos h]
    dsimp only
    generalize scanF t (j + 1) (dep + 1) (-1) = r at *
    have hdo := hi.2.2
    split
    · refine ⟨⟨rfl, rfl, rfl⟩, fun h0 => ?_, ?_⟩
      · dsimp only
        rw [if_neg (by omega : ¬ (deep < 0 ∧ 5 ≤ dep)), if_neg (by omega)]
      · dsimp only
        by_cases q : deep < 0 ∧ 5 ≤ dep
        · simp only [if_pos q]
          rw [if_neg (by omega)]
          right; omega
        · simp only [if_neg q]
          split
          · exact hdo
          · exact hd
    · refine ⟨⟨rfl, rfl, rfl⟩, fun h0 => ?_, ?_⟩
      · dsimp only
        rw [if_neg (by omega : ¬ (deep < 0 ∧ 5 ≤ dep)), if_neg (by omega)]
      · dsimp only
        by_cases q : deep < 0 ∧ 5 ≤ dep
        · simp only [if_pos q]
          rw [if_neg (by omega)]
          right; omega
        · simp only [if_neg q]
          split
          · exact hdo
          · exact hd
  · rw [if_neg h, if_neg h]
    exact ⟨⟨rfl, rfl, rfl⟩, fun _ => rfl, hd⟩

theorem deep_step (t : ByteArray) (i : Nat) (hi : i ≤ t.size) (ih : ∀ i', i < i' → i' ≤ t.size → Dp t i') : Dp t i := by
  intro dep deep hd
  rw [scan_eq t i dep deep hi, scan_eq t i dep (-1) hi]
  unfold bodyM
  split
  · rename_i hc
    have hr := head_rng hc.1
    split
    · rename_i ho
      have hl := head_lt hc.1 ho
      split
      · have h1 := ih (headM t i).1 (by omega) hr.2 dep deep hd
        dsimp only
        exact ⟨⟨h1.1.1, h1.1.2.1, by rw [h1.1.2.2]⟩, h1.2.1, h1.2.2⟩
      · have hb := blk_deep (dep := dep) (deep := deep) hr.2 (fun h40 => ih _ (by omega) (lt_of_byt (by rw [h40]; decide))) hd
        have hb0 := blk_deep (t := t) (j := (headM t i).1) (dep := dep) (deep := -1) hr.2 (fun h40 => ih _ (by omega) (lt_of_byt (by rw [h40]; decide))) (.inl rfl)
        have hbr := blk_rng (scanF_rng t) (dep := dep) (deep := deep) hr.2
        dsimp only
        generalize blkM t (scanF t) (headM t i).1 dep deep = b at *
        generalize blkM t (scanF t) (headM t i).1 dep (-1) = b0 at *
        obtain ⟨⟨e1, e2, e3⟩, d1, d2⟩ := hb
        rw [← e2]
        by_cases hbo : b.ok = true
        · rw [if_pos hbo, if_pos hbo]
          split
          · have h1 := ih b.j (by omega) hbr.2.1 dep b.deep d2
            have h0 := ih b.j (by omega) hbr.2.1 dep b0.deep hb0.2.2
            dsimp only
            rw [← e1, ← e3]
            refine ⟨⟨h1.1.1.trans h0.1.1.symm, h1.1.2.1.trans h0.1.2.1.symm, ?_⟩, fun h => ?_, h1.2.2⟩
            · rw [h1.1.2.2, h0.1.2.2]
            · rw [h1.2.1 (by rw [d1 h]; exact h), d1 h]
          · rw [← e1]
            have hc1 := blk_deep (dep := dep) (deep := b.deep) hbr.2.1 (fun h40 => ih _ (by omega) (lt_of_byt (by rw [h40]; decide))) d2
            have hc0 := blk_deep (t := t) (j := b.j) (dep := dep) (deep := b0.deep) hbr.2.1 (fun h40 => ih _ (by omega) (lt_of_byt (by rw [h40]; decide))) hb0.2.2
            have hcr := blk_rng (scanF_rng t) (dep := dep) (deep := b.deep) hbr.2.1
            generalize blkM t (scanF t) b.j dep b.deep = c at *
            generalize blkM t (scanF t) b.j dep b0.deep = c0 at *
            obtain ⟨⟨f1, f2, f3⟩, g1, g2⟩ := hc1
            obtain ⟨⟨f1', f2', f3'⟩, g1', g2'⟩ := hc0
            have k1 : c.j = c0.j := f1.trans f1'.symm
            have k2 : c.ok = c0.ok := f2.trans f2'.symm
            have k3 : c.code = c0.code := f3.trans f3'.symm
            rw [← k2]
            by_cases hco : c.ok = true
            · rw [if_pos hco, if_pos hco]
              have h1 := ih c.j (by omega) hcr.2.1 dep c.deep g2
              have h0 := ih c.j (by omega) hcr.2.1 dep c0.deep g2'
              dsimp only
              rw [← k1, ← k3, ← e3]
              refine ⟨⟨h1.1.1.trans h0.1.1.symm, h1.1.2.1.trans h0.1.2.1.symm, ?_⟩, fun h => ?_, h1.2.2⟩
              · rw [h1.1.2.2, h0.1.2.2]
              · have q : c.deep = deep := by rw [g1 (by rw [d1 h]; exact h), d1 h]
                rw [h1.2.1 (by rw [q]; exact h), q]
            · rw [if_neg hco, if_neg hco]
              dsimp only
              exact ⟨⟨k1, rfl, rfl⟩, fun h => by rw [g1 (by rw [d1 h]; exact h), d1 h], g2⟩
        · rw [if_neg hbo, if_neg hbo]
          dsimp only
          exact ⟨⟨e1, rfl, rfl⟩, d1, d2⟩
    · exact ⟨⟨rfl, rfl, rfl⟩, fun _ => rfl, hd⟩
  · exact ⟨⟨rfl, rfl, rfl⟩, fun _ => rfl, hd⟩

theorem deep_any (t : ByteArray) : ∀ (m i : Nat), t.size - i ≤ m → i ≤ t.size → Dp t i
  | 0, i, hm, hi => deep_step t i hi fun i' h1 h2 => by omega
  | m + 1, i, hm, hi => deep_step t i hi fun i' h1 h2 => deep_any t m i' (by omega) h2

/-- The reader has come to its end, and the text is no policy: the place. -/
def Dead (t : ByteArray) (q : RS) (j : Nat) : Prop := (q.bad = true ∨ (q.a = t.size ∧ q.op ≠ [])) ∧ q.a = j

/-- From r the reader comes to r'. -/
def Goes (t : ByteArray) (r r' : RS) : Prop := ∃ k, ∀ g, runM t (k + g) r = runM t g r'
/-- From r the reader ends at place j. -/
def Ends (t : ByteArray) (r : RS) (j : Nat) : Prop := ∃ k, ∀ g, Dead t (runM t (k + g) r) j

theorem Goes.refl (t : ByteArray) (r : RS) : Goes t r r := ⟨0, fun g => by rw [Nat.zero_add]⟩
theorem Goes.trans {t : ByteArray} {a b c : RS} (h : Goes t a b) (k : Goes t b c) : Goes t a c := by
  obtain ⟨m, hm⟩ := h
  obtain ⟨n, hn⟩ := k
  exact ⟨m + n, fun g => by rw [Nat.add_assoc, hm, hn]⟩
theorem Goes.ends {t : ByteArray} {a b : RS} {j : Nat} (h : Goes t a b) (k : Ends t b j) : Ends t a j := by
  obtain ⟨m, hm⟩ := h
  obtain ⟨n, hn⟩ := k
  exact ⟨m + n, fun g => by rw [Nat.add_assoc, hm]; exact hn g⟩
theorem goes_part {t : ByteArray} {r : RS} (hb : r.bad = false) (hl : r.a < t.size) : Goes t r (partM t r) :=
  ⟨1, fun g => by rw [Nat.add_comm]; simp only [runM]; rw [if_pos ⟨hb, hl⟩]⟩
theorem ends_of {t : ByteArray} {r : RS} {j : Nat} (h : Dead t r j) : Ends t r j := by
  refine ⟨0, fun g => ?_⟩
  rw [Nat.zero_add, run_stop t g r]
  · exact h
  · rcases h.1 with h | ⟨h, _⟩
    · simp [h]
    · simp; omega

/-- What the reader does of a reading s, from the state with these lists. -/
def SimOk (t : ByteArray) (i : Nat) (ss : List St) (op : List Nat) (deep : Int) (s : Rd) : Prop :=
  (s.ok = true → Goes t ⟨i, false, ss, op, deep⟩ ⟨s.j, false, ss ++ s.code, op, s.deep⟩ ∧ (s.j < t.size → byt t s.j = 41)) ∧
  (s.ok = false → Ends t ⟨i, false, ss, op, deep⟩ s.j)

def Sim (t : ByteArray) (i : Nat) : Prop := ∀ ss op deep, DeepOk deep → SimOk t i ss op deep (scanF t i op.length deep)

/-- A block, from its bracket to its end. -/
theorem blk_sim {t : ByteArray} {j : Nat} {ss : List St} {op : List Nat} {deep : Int} (hj : j ≤ t.size) (hs : 0 < ss.length) (hd : DeepOk deep) (hD : byt t j = 40 → Dp t (j + 1)) (ih : byt t j = 40 → Sim t (j + 1)) :
    ((blkM t (scanF t) j op.length deep).ok = true → Goes t (opened t j false ss op deep) ⟨(blkM t (scanF t) j op.length deep).j - 1, false, ss ++ (blkM t (scanF t) j op.length deep).code, op ++ [ss.length - 1], (blkM t (scanF t) j op.length deep).deep⟩ ∧
        byt t ((blkM t (scanF t) j op.length deep).j - 1) = 41 ∧ (blkM t (scanF t) j op.length deep).j - 1 < t.size ∧ 0 < (blkM t (scanF t) j op.length deep).j) ∧
    ((blkM t (scanF t) j op.length deep).ok = false → Ends t (opened t j false ss op deep) (blkM t (scanF t) j op.length deep).j) := by
  by_cases h : byt t j = 40
  · have hlt : j < t.size := lt_of_byt (by rw [h]; decide)
    rw [open_yes ss op deep h]
    obtain ⟨d1, hd1⟩ : ∃ d1 : Int, d1 = if 5 ≤ op.length ∧ deep < 0 then (j : Int) else deep := ⟨_, rfl⟩
    have hd1o : DeepOk d1 := by
      rw [hd1]
      split
      · right; omega
      · exact hd
    rw [← hd1]
    have hdd := hD h (op.length + 1) d1 hd1o
    have hsim := ih h ss (op ++ [ss.length - 1]) d1 hd1o
    rw [List.length_append, List.length_singleton] at hsim
    have hblk : blkM t (scanF t) j op.length deep = (if (scanF t (j + 1) (op.length + 1) d1).ok = true ∧ (scanF t (j + 1) (op.length + 1) d1).j < t.size then ⟨(scanF t (j + 1) (op.length + 1) d1).j + 1, (scanF t (j + 1) (op.length + 1) d1).deep, true, (scanF t (j + 1) (op.length + 1) d1).code⟩ else ⟨(scanF t (j + 1) (op.length + 1) d1).j, (scanF t (j + 1) (op.length + 1) d1).deep, false, []⟩) := by
      obtain ⟨⟨e1, e2, e3⟩, e4, e5⟩ := hdd
      have hq : (if deep < 0 ∧ 5 ≤ op.length then (j : Int) else deep) = d1 := by
        rw [hd1]
        by_cases q : deep < 0 ∧ 5 ≤ op.length
        · rw [if_pos q, if_pos ⟨q.2, q.1⟩]
        · rw [if_neg q, if_neg (fun x => q ⟨x.2, x.1⟩)]
      unfold blkM
      rw [if_pos h]
      dsimp only
      rw [hq, e1, e2, e3]
      have hdeep : (if d1 < 0 then (scanF t (j + 1) (op.length + 1) (-1)).deep else d1) = (scanF t (j + 1) (op.length + 1) d1).deep := by
        rcases hd1o with q | q
        · rw [q]; simp
        · rw [if_neg (by omega), e4 q]
      rw [hdeep]
    have hrng := scanF_rng t (j + 1) (op.length + 1) d1 hlt
    rw [hblk]
    generalize scanF t (j + 1) (op.length + 1) d1 = s at *
    obtain ⟨s1, s2⟩ := hsim
    by_cases hc : s.ok = true ∧ s.j < t.size
    · rw [if_pos hc]
      dsimp only
      refine ⟨fun _ => ?_, fun q => by simp at q⟩
      rw [Nat.add_sub_cancel]
      exact ⟨(s1 hc.1).1, (s1 hc.1).2 hc.2, hc.2, by omega⟩
    · rw [if_neg hc]
      dsimp only
      refine ⟨fun q => by simp at q, fun _ => ?_⟩
      cases hok : s.ok
      · exact s2 hok
      · have hge : ¬ s.j < t.size := fun q => hc ⟨hok, q⟩
        exact (s1 hok).1.ends (ends_of ⟨.inr ⟨by dsimp only; omega, by simp⟩, rfl⟩)
  · rw [open_no ss op deep h]
    have : blkM t (scanF t) j op.length deep = ⟨j, deep, false, []⟩ := by simp [blkM, h]
    rw [this]
    exact ⟨fun q => by simp at q, fun _ => ends_of ⟨.inl rfl, rfl⟩⟩

theorem head_kind {t : ByteArray} {i : Nat} (hn : (headM t i).2.1 ≠ 0) (ho : (headM t i).2.2 = true) : ((headM t i).2.1 = 1 ∧ (Split.stM t i).kind = 72) ∨ ((headM t i).2.1 = 2 ∧ (Split.stM t i).kind = 73) := by
  unfold headM at *
  by_cases h80 : byt t i = 80
  · simp [h80] at hn
  rw [if_neg h80] at hn ho ⊢
  by_cases h67 : byt t i = 67 ∨ byt t i = 73
  · rw [if_pos h67] at hn ho ⊢
    by_cases hb : bucM t (i + 1) = i + 2
    · rw [if_pos hb] at hn ho ⊢
      dsimp only at hn ho ⊢
      by_cases h73 : byt t i = 73
      · right
        simp [h73, Split.stM, h80]
      · simp [h73] at hn
    · rw [if_neg hb] at hn
      simp at hn
  rw [if_neg h67] at hn ho ⊢
  have h67' : byt t i ≠ 67 := fun h => h67 (.inl h)
  have h73' : byt t i ≠ 73 := fun h => h67 (.inr h)
  by_cases h82 : byt t i = 82
  · rw [if_pos h82] at hn
    split at hn <;> simp at hn
  rw [if_neg h82] at hn ho ⊢
  by_cases h72 : byt t i = 72
  · rw [if_pos h72] at hn ho ⊢
    left
    split
    · simp [Split.stM, h80, h67', h73', h82]
    · simp [Split.stM, h80, h67', h73', h82]
  · rw [if_neg h72] at hn
    simp at hn

theorem kd_mid (ss : List St) (s : St) (xs : List St) : kd (ss ++ [s] ++ xs) ss.length = s.kind := by
  rw [kd_append (by simp), kd_snoc]

theorem close_last (t : ByteArray) (j : Nat) (S : List St) (op : List Nat) (o : Nat) (deep : Int) (hb : byt t j = 41) :
    partM t ⟨j, false, S, op ++ [o], deep⟩ = (if kd S o = 72 then ⟨j + 1, false, S ++ [stE], op, deep⟩ else if kd S o = 73 then opened t (j + 1) false (closeI S o) op deep else ⟨j + 1, false, leaveM S o, op, deep⟩) := by
  simp only [partM, hb, if_true, closeM, List.getLast?_concat, List.dropLast_concat]

/-- The end of a block: the last one that is open is H's. -/
theorem close_at_H {t : ByteArray} {j : Nat} {ss xs : List St} {s : St} {op : List Nat} {deep : Int} (hb : byt t j = 41) (hk : s.kind = 72) :
    partM t ⟨j, false, ss ++ [s] ++ xs, op ++ [ss.length], deep⟩ = ⟨j + 1, false, ss ++ [s] ++ xs ++ [stE], op, deep⟩ := by
  rw [close_last _ _ _ _ _ _ hb, if_pos (by rw [kd_mid, hk])]

theorem modify_mid (f : St → St) (s : St) (xs : List St) : ∀ ss : List St, (ss ++ [s] ++ xs).modify ss.length f = ss ++ [f s] ++ xs
  | [] => rfl
  | a :: ss => by
    have := modify_mid f s xs ss
    show a :: (ss ++ [s] ++ xs).modify ss.length f = a :: (ss ++ [f s] ++ xs)
    rw [this]

theorem leave_mid (ss : List St) (s : St) (xs : List St) : leaveM (ss ++ [s] ++ xs) ss.length = ss ++ [s.leaving xs.length] ++ xs := by
  unfold leaveM
  rw [modify_mid]
  have : (((ss ++ [s] ++ xs).length : Int) - 1 - ss.length) = xs.length := by simp; omega
  rw [this]

theorem close_at_I {t : ByteArray} {j : Nat} {ss xs : List St} {s : St} {op : List Nat} {deep : Int} (hb : byt t j = 41) (hk : s.kind = 73) :
    partM t ⟨j, false, ss ++ [s] ++ xs, op ++ [ss.length], deep⟩ = opened t (j + 1) false (ss ++ [s.leaving (xs.length + 1)] ++ xs ++ [stJ 0]) op deep := by
  rw [close_last _ _ _ _ _ _ hb, if_neg (by rw [kd_mid, hk]; decide), if_pos (by rw [kd_mid, hk])]
  have : closeI (ss ++ [s] ++ xs) ss.length = ss ++ [s.leaving (xs.length + 1)] ++ xs ++ [stJ 0] := by
    unfold closeI
    have := leave_mid ss s (xs ++ [stJ 0])
    simp only [← List.append_assoc] at this
    rw [this]
    simp
  rw [this]

theorem close_at_J {t : ByteArray} {j : Nat} {ss xs : List St} {op : List Nat} {deep : Int} (hb : byt t j = 41) :
    partM t ⟨j, false, ss ++ [stJ 0] ++ xs, op ++ [ss.length], deep⟩ = ⟨j + 1, false, ss ++ [stJ xs.length] ++ xs, op, deep⟩ := by
  have hk : kd (ss ++ [stJ 0] ++ xs) ss.length = 74 := by rw [kd_mid]; rfl
  rw [close_last _ _ _ _ _ _ hb, if_neg (by rw [hk]; decide), if_neg (by rw [hk]; decide), leave_mid]
  rfl

theorem sim_step (t : ByteArray) (i : Nat) (hi : i ≤ t.size) (ih : ∀ i', i < i' → i' ≤ t.size → Sim t i') : Sim t i := by
  have hDp : ∀ i', i' ≤ t.size → Dp t i' := fun i' h => deep_any t t.size i' (by omega) h
  intro ss op deep hd
  rw [scan_eq t i op.length deep hi]
  unfold bodyM
  by_cases hc : i < t.size ∧ byt t i ≠ 41
  · rw [if_pos hc]
    have hr := head_rng hc.1
    have hp := part_head t i ss op deep hc.1 hc.2
    have hg : Goes t ⟨i, false, ss, op, deep⟩ (partM t ⟨i, false, ss, op, deep⟩) := goes_part rfl hc.1
    by_cases ho : (headM t i).2.2 = true
    · rw [if_pos ho]
      have hl := head_lt hc.1 ho
      by_cases hn : (headM t i).2.1 = 0
      · rw [if_pos hn]
        have h1 := ih (headM t i).1 (by omega) hr.2 (ss ++ [Split.stM t i]) op deep hd
        rw [hp.2.1 ho hn] at hg
        dsimp only
        generalize scanF t (headM t i).1 op.length deep = s at *
        refine ⟨fun hok => ⟨hg.trans ?_, (h1.1 hok).2⟩, fun hok => hg.ends (h1.2 hok)⟩
        have := (h1.1 hok).1
        rw [List.append_assoc] at this
        exact this
      · rw [if_neg hn]
        rw [hp.2.2 ho hn] at hg
        have hkind := head_kind hn ho
        have hb := blk_sim (t := t) (j := (headM t i).1) (ss := ss ++ [Split.stM t i]) (op := op) (deep := deep) hr.2 (by simp) hd
          (fun h40 => hDp _ (lt_of_byt (by rw [h40]; decide))) (fun h40 => ih _ (by omega) (lt_of_byt (by rw [h40]; decide)))
        have hbd := blk_deep (t := t) (j := (headM t i).1) (dep := op.length) (deep := deep) hr.2 (fun h40 => hDp _ (lt_of_byt (by rw [h40]; decide))) hd
        have hbr := blk_rng (scanF_rng t) (dep := op.length) (deep := deep) hr.2
        rw [List.length_append, List.length_singleton, Nat.add_sub_cancel] at hb
        dsimp only
        generalize blkM t (scanF t) (headM t i).1 op.length deep = b at *
        obtain ⟨bj, bd, bo, bc⟩ := b
        dsimp only at hb hbr hbd ⊢
        cases bo
        · rw [if_neg (by simp)]
          exact ⟨fun q => by simp at q, fun _ => hg.ends (hb.2 rfl)⟩
        · rw [if_pos rfl]
          obtain ⟨hgb, h41, hlt, hpos⟩ := hb.1 rfl
          have hg2 := hg.trans (hgb.trans (goes_part (r := ⟨bj - 1, false, ss ++ [Split.stM t i] ++ bc, op ++ [ss.length], bd⟩) rfl hlt))
          have hbi : i < bj := by omega
          rcases hkind with ⟨hn1, hk⟩ | ⟨hn2, hk⟩
          · rw [if_pos hn1]
            rw [close_at_H h41 hk, show bj - 1 + 1 = bj by omega] at hg2
            have h1 := ih bj hbi hbr.2.1 (ss ++ [Split.stM t i] ++ bc ++ [stE]) op bd hbd.2.2
            generalize scanF t bj op.length bd = s at *
            refine ⟨fun hok => ⟨hg2.trans ?_, (h1.1 hok).2⟩, fun hok => hg2.ends (h1.2 hok)⟩
            have := (h1.1 hok).1
            simp only [List.append_assoc, List.singleton_append] at this ⊢
            exact this
          · rw [if_neg (by omega)]
            rw [close_at_I h41 hk, show bj - 1 + 1 = bj by omega] at hg2
            have hc2 := blk_sim (t := t) (j := bj) (ss := ss ++ [(Split.stM t i).leaving (bc.length + 1)] ++ bc ++ [stJ 0]) (op := op) (deep := bd) hbr.2.1 (by simp; omega) hbd.2.2
              (fun h40 => hDp _ (lt_of_byt (by rw [h40]; decide))) (fun h40 => ih _ (by omega) (lt_of_byt (by rw [h40]; decide)))
            have hcd := blk_deep (t := t) (j := bj) (dep := op.length) (deep := bd) hbr.2.1 (fun h40 => hDp _ (lt_of_byt (by rw [h40]; decide))) hbd.2.2
            have hcr := blk_rng (scanF_rng t) (dep := op.length) (deep := bd) hbr.2.1
            rw [List.length_append, List.length_singleton, Nat.add_sub_cancel] at hc2
            generalize blkM t (scanF t) bj op.length bd = c at *
            obtain ⟨cj, cd, co, cc⟩ := c
            dsimp only at hc2 hcr hcd ⊢
            cases co
            · rw [if_neg (by simp)]
              exact ⟨fun q => by simp at q, fun _ => hg2.ends (hc2.2 rfl)⟩
            · rw [if_pos rfl]
              obtain ⟨hgc, h41c, hltc, hposc⟩ := hc2.1 rfl
              have hg3 := hg2.trans (hgc.trans (goes_part (r := ⟨cj - 1, false, ss ++ [(Split.stM t i).leaving (bc.length + 1)] ++ bc ++ [stJ 0] ++ cc, op ++ [(ss ++ [(Split.stM t i).leaving (bc.length + 1)] ++ bc).length], cd⟩) rfl hltc))
              rw [close_at_J h41c, show cj - 1 + 1 = cj by omega] at hg3
              have h1 := ih cj (by omega) hcr.2.1 (ss ++ [(Split.stM t i).leaving (bc.length + 1)] ++ bc ++ [stJ cc.length] ++ cc) op cd hcd.2.2
              generalize scanF t cj op.length cd = s at *
              refine ⟨fun hok => ⟨hg3.trans ?_, (h1.1 hok).2⟩, fun hok => hg3.ends (h1.2 hok)⟩
              have := (h1.1 hok).1
              simp only [List.append_assoc, List.singleton_append] at this ⊢
              exact this
    · rw [if_neg ho]
      have hf : (headM t i).2.2 = false := by simpa using ho
      have := hp.1 hf
      exact ⟨fun q => by simp at q, fun _ => hg.ends (ends_of ⟨.inl this.1, this.2⟩)⟩
  · rw [if_neg hc]
    refine ⟨fun _ => ⟨?_, fun hlt => ?_⟩, fun q => by simp at q⟩
    · rw [List.append_nil]
      exact Goes.refl _ _
    · dsimp only at hlt ⊢
      by_cases h41 : byt t i = 41
      · exact h41
      · exact absurd ⟨hlt, h41⟩ hc

theorem sim_any (t : ByteArray) : ∀ (m i : Nat), t.size - i ≤ m → i ≤ t.size → Sim t i
  | 0, i, hm, hi => sim_step t i hi fun i' h1 h2 => by omega
  | m + 1, i, hm, hi => sim_step t i hi fun i' h1 h2 => sim_any t m i' (by omega) h2

theorem run_fuel (t : ByteArray) : ∀ (f g : Nat) (r : RS), meas t r ≤ f → meas t r ≤ g → runM t f r = runM t g r
  | 0, g, r, h1, h2 => by
    have hst : ¬ (r.bad = false ∧ r.a < t.size) := by
      intro hc
      simp [meas, hc.1] at h1
    rw [run_stop t 0 r hst, run_stop t g r hst]
  | f + 1, g, r, h1, h2 => by
    by_cases hc : r.bad = false ∧ r.a < t.size
    · have hm := meas_part t r hc.1 hc.2
      obtain ⟨g', rfl⟩ : ∃ g', g = g' + 1 := ⟨g - 1, by omega⟩
      simp only [runM, if_pos hc]
      exact run_fuel t f g' (partM t r) (by omega) (by omega)
    · rw [run_stop t _ r hc, run_stop t _ r hc]

/-- What the reader ends with, and what the document's scan comes to. -/
theorem rs_end (t : ByteArray) :
    ((scanF t 0 0 (-1)).ok = true ∧ ¬ (scanF t 0 0 (-1)).j < t.size → rsE t = ⟨t.size, false, (scanF t 0 0 (-1)).code, [], (scanF t 0 0 (-1)).deep⟩) ∧
    (¬ ((scanF t 0 0 (-1)).ok = true ∧ ¬ (scanF t 0 0 (-1)).j < t.size) → (rsE t).bad = true ∧ (rsE t).a = (scanF t 0 0 (-1)).j) := by
  have hs := sim_any t t.size 0 (by omega) (Nat.zero_le _) [] [] (-1) (.inl rfl)
  have hr := scanF_rng t 0 0 (-1) (Nat.zero_le _)
  have hm : meas t rs0 = t.size + 1 := by simp [meas, rs0]
  have hlen : ([] : List Nat).length = 0 := rfl
  rw [hlen] at hs
  generalize scanF t 0 0 (-1) = s at *
  obtain ⟨h1, h2⟩ := hs
  have hrun : ∀ F, t.size + 1 ≤ F → rsE t = finM (runM t F rs0) := by
    intro F hF
    unfold rsE
    rw [run_fuel t (t.size + 1) F rs0 (by omega) (by omega)]
  cases hok : s.ok
  · refine ⟨fun h => by simp at h, fun _ => ?_⟩
    obtain ⟨k, hk⟩ := h2 hok
    have hd := hk (t.size + 1)
    have he := hrun (k + (t.size + 1)) (by omega)
    rw [he]
    have hrs : (⟨0, false, [], [], -1⟩ : RS) = rs0 := rfl
    rw [hrs] at hd
    generalize runM t (k + (t.size + 1)) rs0 = q at *
    obtain ⟨hd1, hd2⟩ := hd
    unfold finM
    split
    · rename_i hop
      rcases hd1 with hb | ⟨_, hne⟩
      · exact ⟨hb, hd2⟩
      · exact absurd hop hne
    · exact ⟨rfl, hd2⟩
  · obtain ⟨⟨k, hk⟩, h41⟩ := h1 hok
    have hrs : (⟨0, false, [], [], -1⟩ : RS) = rs0 := rfl
    rw [hrs] at hk
    have he := hrun (k + (t.size + 1)) (by omega)
    rw [hk] at he
    by_cases hlt : s.j < t.size
    · refine ⟨fun h => absurd hlt h.2, fun _ => ?_⟩
      have hb := h41 hlt
      have e1 : runM t (t.size + 1) ⟨s.j, false, [] ++ s.code, [], s.deep⟩ = ⟨s.j, true, s.code, [], s.deep⟩ := by
        simp only [runM]
        rw [if_pos (by simpa using hlt)]
        have e2 : partM t ⟨s.j, false, [] ++ s.code, [], s.deep⟩ = ⟨s.j, true, s.code, [], s.deep⟩ := by
          simp [partM, hb, closeM]
        rw [e2, run_stop]
        simp
      rw [he, e1]
      exact ⟨rfl, rfl⟩
    · refine ⟨fun _ => ?_, fun h => absurd ⟨rfl, hlt⟩ h⟩
      have e1 : runM t (t.size + 1) ⟨s.j, false, [] ++ s.code, [], s.deep⟩ = ⟨s.j, false, s.code, [], s.deep⟩ := by
        rw [run_stop t _ _ (by simp; omega)]
        rfl
      rw [he, e1]
      have : s.j = t.size := by omega
      rw [this]
      rfl

theorem par_check (t : ByteArray) : parE t = checkE t ∧ parP t = checkP t := by
  have h := rs_end t
  unfold parE parP checkE checkP
  by_cases hl : 120 < t.size
  · simp [hl]
  · rw [if_neg hl, if_neg hl, if_neg hl, if_neg hl]
    by_cases hc : (scanF t 0 0 (-1)).ok = true ∧ ¬ (scanF t 0 0 (-1)).j < t.size
    · rw [h.1 hc, if_pos hc, if_pos hc]
      simp
    · have := h.2 hc
      rw [if_neg hc, if_neg hc, if_pos this.1, if_pos this.1, this.2]
      exact ⟨rfl, rfl⟩
end Go.Proofs.Ytmdjdpofpkgffab
