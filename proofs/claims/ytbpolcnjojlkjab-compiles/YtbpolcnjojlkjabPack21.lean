/- Tok -/
import Derived.Test.YtbpolcnjojlkjabPack20

/- A part of split's reader is a head of the document's. -/
namespace Go.Proofs.Ytbpolcnjojlkjab
open Split
set_option linter.unusedVariables false
set_option linter.unusedSimpArgs false

theorem fits_f (t : ByteArray) (a : Nat) (lo hi : Int) : fitsM t a true lo hi = false := by simp [fitsM]
theorem fits_t {t : ByteArray} {a : Nat} {lo hi : Int} : fitsM t a false lo hi = true ↔ lo ≤ byt t a ∧ byt t a ≤ hi := by simp [fitsM]
theorem fits_n {t : ByteArray} {a : Nat} {lo hi : Int} : fitsM t a false lo hi = false ↔ ¬ (lo ≤ byt t a ∧ byt t a ≤ hi) := by
  rw [← fits_t]; simp
theorem take_stuck (t : ByteArray) (a : Nat) (lo hi : Int) : takeA t a true lo hi = a ∧ takeB t a true lo hi = true ∧ takeV t a true lo hi = lo := by simp [takeA, takeB, takeV, fits_f]
theorem take_yes {t : ByteArray} {a : Nat} {lo hi : Int} (h : lo ≤ byt t a ∧ byt t a ≤ hi) : takeA t a false lo hi = a + 1 ∧ takeB t a false lo hi = false ∧ takeV t a false lo hi = byt t a := by
  have := fits_t.2 h
  simp [takeA, takeB, takeV, this]
theorem take_no {t : ByteArray} {a : Nat} {lo hi : Int} (h : ¬ (lo ≤ byt t a ∧ byt t a ≤ hi)) : takeA t a false lo hi = a ∧ takeB t a false lo hi = true ∧ takeV t a false lo hi = lo := by
  have := fits_n.2 h
  simp [takeA, takeB, takeV, this]

theorem nm_stuck (t : ByteArray) (a : Nat) : ∀ k, (nmM t a true k).a = a ∧ (nmM t a true k).b = true
  | 0 => ⟨rfl, rfl⟩
  | k + 1 => by
    have h := nm_stuck t a k
    simp only [nmM, h.1, h.2]
    have := take_stuck t a 48 57
    exact ⟨this.1, this.2.1⟩

theorem digM_next (t : ByteArray) : ∀ (k i : Nat), digM t i k = i + k → digM t i (k + 1) = (if dig (byt t (i + k)) then i + k + 1 else i + k)
  | 0, i, _ => by simp [digM]
  | k + 1, i, h => by
    have hd : dig (byt t i) = true := by
      cases hx : dig (byt t i)
      · simp [digM, hx] at h
      · rfl
    have h' : digM t (i + 1) k = i + 1 + k := by
      simp only [digM, hd, if_true] at h
      omega
    have := digM_next t k (i + 1) h'
    show (if dig (byt t i) then digM t (i + 1) (k + 1) else i) = _
    rw [hd, if_pos rfl, this, show i + 1 + k = i + (k + 1) by omega]
theorem digM_stop (t : ByteArray) : ∀ (k i : Nat), digM t i k ≠ i + k → digM t i (k + 1) = digM t i k
  | 0, i, h => by simp [digM] at h
  | k + 1, i, h => by
    cases hx : dig (byt t i)
    · simp [digM, hx]
    · have h' : digM t (i + 1) k ≠ i + 1 + k := by
        simp only [digM, hx, if_true] at h
        omega
      have := digM_stop t k (i + 1) h'
      show (if dig (byt t i) then digM t (i + 1) (k + 1) else i) = (if dig (byt t i) then digM t (i + 1) k else i)
      rw [hx, if_pos rfl, if_pos rfl, this]

theorem nm_dig (t : ByteArray) (a : Nat) : ∀ k, (digM t a k = a + k → nmM t a false k = ⟨a + k, false, numM t a k⟩) ∧ (digM t a k ≠ a + k → (nmM t a false k).a = digM t a k ∧ (nmM t a false k).b = true)
  | 0 => ⟨fun _ => rfl, fun h => by simp [digM] at h⟩
  | k + 1 => by
    have ih := nm_dig t a k
    by_cases h : digM t a k = a + k
    · have e := ih.1 h
      have hn := digM_next t k a h
      cases hx : dig (byt t (a + k))
      · rw [hx] at hn
        simp at hn
        refine ⟨fun h' => by omega, fun _ => ?_⟩
        simp only [nmM, e]
        have := take_no (t := t) (a := a + k) (lo := 48) (hi := 57) (by rw [dig_f] at hx; omega)
        rw [this.1, this.2.1, hn]
        exact ⟨rfl, rfl⟩
      · rw [hx] at hn
        simp at hn
        refine ⟨fun _ => ?_, fun h' => absurd (by rw [hn]; omega) h'⟩
        simp only [nmM, e]
        have := take_yes (t := t) (a := a + k) (lo := 48) (hi := 57) (by rw [dig_t] at hx; omega)
        rw [this.1, this.2.1, this.2.2]
        rfl
    · have e := ih.2 h
      have hs := digM_stop t k a h
      have hl := digM_le t k a
      refine ⟨fun h' => by omega, fun _ => ?_⟩
      simp only [nmM, e.1, e.2]
      have := take_stuck t (digM t a k) 48 57
      rw [this.1, this.2.1, hs]
      exact ⟨rfl, rfl⟩

/-- The hundredths. -/
theorem hun_dig (t : ByteArray) (a : Nat) :
    (digM t a 2 = a + 2 ∧ ¬ (byt t a = 48 ∧ byt t (a + 1) = 48) → hunM t a false = ⟨a + 2, false, numM t a 2⟩) ∧
    (digM t a 2 = a + 2 ∧ (byt t a = 48 ∧ byt t (a + 1) = 48) → (hunM t a false).a = a + 1 ∧ (hunM t a false).b = true) ∧
    (digM t a 2 ≠ a + 2 → (hunM t a false).a = digM t a 2 ∧ (hunM t a false).b = true) := by
  cases h1 : dig (byt t a)
  · have hd : digM t a 2 = a := by simp [digM, h1]
    have t1 := take_no (t := t) (a := a) (lo := 48) (hi := 57) (by rw [dig_f] at h1; omega)
    refine ⟨fun h => by omega, fun h => by omega, fun _ => ?_⟩
    unfold hunM
    rw [t1.1, t1.2.1]
    have t2 := take_stuck t a (hunLo t a false) 57
    rw [t2.1, t2.2.1, hd]
    exact ⟨rfl, rfl⟩
  · have t1 := take_yes (t := t) (a := a) (lo := 48) (hi := 57) (by rw [dig_t] at h1; omega)
    have hv : hunV1 t a false = byt t a := t1.2.2
    have hlo : hunLo t a false = if byt t a = 48 then 49 else 48 := by unfold hunLo; rw [hv]
    have hdig : digM t a 2 = if dig (byt t (a + 1)) then a + 2 else a + 1 := by
      simp [digM, h1]
    have e : hunM t a false = ⟨takeA t (a + 1) false (hunLo t a false) 57, takeB t (a + 1) false (hunLo t a false) 57, 10 * (byt t a - 48) + (takeV t (a + 1) false (hunLo t a false) 57 - 48)⟩ := by
      unfold hunM
      rw [t1.1, t1.2.1, hv]
    rw [e, hlo]
    cases h2 : dig (byt t (a + 1))
    · rw [h2] at hdig
      simp at hdig
      have t2 := take_no (t := t) (a := a + 1) (lo := if byt t a = 48 then 49 else 48) (hi := 57) (by rw [dig_f] at h2; split <;> omega)
      rw [t2.1, t2.2.1, hdig]
      exact ⟨fun h => by omega, fun h => by omega, fun _ => ⟨rfl, rfl⟩⟩
    · rw [h2] at hdig
      simp at hdig
      rw [dig_t] at h1 h2
      by_cases h00 : byt t a = 48 ∧ byt t (a + 1) = 48
      · have t2 := take_no (t := t) (a := a + 1) (lo := if byt t a = 48 then 49 else 48) (hi := 57) (by rw [if_pos h00.1]; omega)
        rw [t2.1, t2.2.1]
        exact ⟨fun h => absurd h00 h.2, fun _ => ⟨rfl, rfl⟩, fun h => absurd hdig h⟩
      · have t2 := take_yes (t := t) (a := a + 1) (lo := if byt t a = 48 then 49 else 48) (hi := 57) (by split <;> omega)
        rw [t2.1, t2.2.1, t2.2.2]
        refine ⟨fun _ => ?_, fun h => absurd h.2 h00, fun h => absurd hdig h⟩
        have e2 : numM t a 2 = 10 * (byt t a - 48) + (byt t (a + 1) - 48) := by
          simp only [numM, Nat.add_zero]
          omega
        rw [e2]

/-- Which letters stand from place i to place j. -/
theorem among_snoc (t : ByteArray) (i j z : Nat) (hij : i ≤ j) (hz : z < 8) (hb : byt t j = (z : Int) + 97) : amongM t i (j + 1) = (amongM t i j).set z true := by
  apply List.ext_getElem?
  intro k
  rw [List.getElem?_set]
  simp only [amongM, List.getElem?_map, List.length_map, List.length_range]
  by_cases hk : k < 8
  · rw [List.getElem?_range hk]
    simp only [Option.map_some]
    rw [show j + 1 - i = (j - i) + 1 by omega, List.range_succ, List.any_append]
    simp only [List.any_cons, List.any_nil, Bool.or_false]
    rw [show i + (j - i) = j by omega, hb]
    by_cases hzk : z = k
    · subst hzk
      have : ((z : Int) + 97 == 97 + (z : Int)) = true := by rw [beq_iff_eq]; omega
      rw [this, Bool.or_true, if_pos rfl, if_pos hz]
    · have : ((z : Int) + 97 == 97 + (k : Int)) = false := by rw [beq_eq_false_iff_ne]; omega
      rw [this, Bool.or_false, if_neg hzk]
  · rw [List.getElem?_eq_none (by simp; omega)]
    simp only [Option.map_none]
    rw [if_neg (by omega)]
theorem among_zero (t : ByteArray) (i : Nat) : amongM t i i = none8 := by
  apply List.ext_getElem?
  intro k
  simp only [amongM, none8, List.getElem?_map, Nat.sub_self, List.range_zero, List.any_nil]
  rw [List.getElem?_replicate]
  by_cases hk : k < 8
  · rw [List.getElem?_range hk, if_pos hk]; rfl
  · rw [List.getElem?_eq_none (by simp; omega), if_neg hk]; rfl

/-- The letters behind the second one. -/
theorem riseL_eq (t : ByteArray) (i : Nat) : ∀ (k z a f : Nat), z + k = 8 → i < a → a ≤ t.size → t.size - a ≤ f → byt t (a - 1) < (z : Int) + 97 → 97 ≤ byt t (a - 1) → ¬ (byt t (a - 1) < byt t a ∧ byt t a < (z : Int) + 97) →
    riseL t false k z a (amongM t i a) = (riseM t f a, amongM t i (riseM t f a))
  | 0, z, a, f, hz, hia, has, hf, h1, h2, h3 => by
    have hr : riseB t a = false := by
      cases hx : riseB t a
      · rfl
      · simp [riseB, buc_t] at hx
        omega
    have : riseM t f a = a := by
      cases f with
      | zero => rfl
      | succ f => simp [riseM, hr]
    rw [this]
    rfl
  | k + 1, z, a, f, hz, hia, has, hf, h1, h2, h3 => by
    unfold riseL
    cases hx : fitsM t a false ((z : Int) + 97) ((z : Int) + 97)
    · rw [fits_n] at hx
      simp only [if_false, Bool.false_eq_true]
      exact riseL_eq t i k (z + 1) a f (by omega) hia has hf (by omega) h2 (by omega)
    · rw [fits_t] at hx
      simp only [if_true]
      have hb : byt t a = (z : Int) + 97 := by omega
      have hlt : a < t.size := lt_of_byt (by omega)
      have hr : riseB t a = true := by
        simp only [riseB, Bool.and_eq_true, buc_t, decide_eq_true_eq]
        omega
      obtain ⟨f', rfl⟩ : ∃ f', f = f' + 1 := ⟨f - 1, by omega⟩
      have e : riseM t (f' + 1) a = riseM t f' (a + 1) := by simp [riseM, hr]
      rw [e, ← among_snoc t i a z (by omega) (by omega) hb]
      exact riseL_eq t i k (z + 1) (a + 1) f' (by omega) (by omega) hlt (by omega) (by rw [Nat.add_sub_cancel]; omega) (by rw [Nat.add_sub_cancel]; omega) (by rw [Nat.add_sub_cancel]; omega)

theorem riseM_fuel (t : ByteArray) : ∀ (f g j : Nat), t.size - j ≤ f → t.size - j ≤ g → riseM t f j = riseM t g j
  | 0, g, j, h1, h2 => by
    have hr : riseB t j = false := by
      cases hx : riseB t j
      · rfl
      · have : j < t.size := lt_of_byt (by simp [riseB, buc_t] at hx; omega)
        omega
    cases g with
    | zero => rfl
    | succ g => simp [riseM, hr]
  | f + 1, g, j, h1, h2 => by
    cases hx : riseB t j
    · cases g with
      | zero => simp [riseM, hx]
      | succ g => simp [riseM, hx]
    · have hlt : j < t.size := lt_of_byt (by simp [riseB, buc_t] at hx; omega)
      cases g with
      | zero => omega
      | succ g =>
        simp only [riseM, hx, if_true]
        exact riseM_fuel t f g (j + 1) (by omega) (by omega)

/-- The step R. -/
theorem ris_eq (t : ByteArray) (a : Nat) :
    (byt t a ≠ 104 ∧ a + 2 ≤ risM t a → risR t a false = (risM t a, amongM t a (risM t a)) ∧ risB t a false = false) ∧
    (byt t a = 104 → (risR t a false).1 = a ∧ risB t a false = true) ∧
    (byt t a ≠ 104 ∧ ¬ a + 2 ≤ risM t a → (risR t a false).1 = risM t a ∧ risB t a false = true) := by
  have stuck : ∀ (k z a : Nat) (m : List Bool), (riseL t true k z a m).1 = a := by
    intro k
    induction k with
    | zero => intro z a m; rfl
    | succ k ih =>
      intro z a m
      unfold riseL
      rw [fits_f]
      simp only [Bool.false_eq_true, if_false]
      exact ih _ _ _
  by_cases h1 : 97 ≤ byt t a ∧ byt t a ≤ 103
  · have t1 := take_yes h1
    have hbuc : buc (byt t a) = true := buc_t.2 (by omega)
    have hlt : a < t.size := lt_of_byt (by omega)
    have hris : risM t a = riseM t t.size (a + 1) := by simp [risM, hbuc]
    have q1 : ris1 t a false = byt t a := t1.2.2
    by_cases h2 : byt t a + 1 ≤ byt t (a + 1) ∧ byt t (a + 1) ≤ 104
    · have t2 := take_yes h2
      have q2 : ris2 t a false = byt t (a + 1) := by unfold ris2; rw [t1.1, t1.2.1, q1]; exact t2.2.2
      have qA : risA t a false = a + 2 := by unfold risA; rw [t1.1, t1.2.1, q1]; exact t2.1
      have qB : risB t a false = false := by unfold risB; rw [t1.1, t1.2.1, q1]; exact t2.2.1
      have hlt2 : a + 1 < t.size := lt_of_byt (by omega)
      have hr : riseB t (a + 1) = true := by
        simp only [riseB, Bool.and_eq_true, buc_t, decide_eq_true_eq, Nat.add_sub_cancel]
        omega
      obtain ⟨s, hs⟩ : ∃ s, t.size = s + 1 := ⟨t.size - 1, by omega⟩
      have e1 : riseM t t.size (a + 1) = riseM t s (a + 2) := by rw [hs]; simp [riseM, hr]
      have e2 : riseM t s (a + 2) = riseM t t.size (a + 2) := riseM_fuel t _ _ _ (by omega) (by omega)
      have hm1 : amongM t a (a + 1) = none8.set (byt t a - 97).toNat true := by
        rw [among_snoc t a a (byt t a - 97).toNat (Nat.le_refl _) (by omega) (by omega), among_zero]
      have hm2 : amongM t a (a + 2) = (none8.set (byt t a - 97).toNat true).set (byt t (a + 1) - 97).toNat true := by
        rw [among_snoc t a (a + 1) (byt t (a + 1) - 97).toNat (by omega) (by omega) (by omega), hm1]
      have hmain : risR t a false = (riseM t t.size (a + 2), amongM t a (riseM t t.size (a + 2))) := by
        unfold risR
        rw [q1, q2, qA, qB, ← hm2]
        refine riseL_eq t a _ _ (a + 2) t.size (by omega) (by omega) (by omega) (by omega) ?_ ?_ ?_
        · rw [show a + 2 - 1 = a + 1 by omega]; omega
        · rw [show a + 2 - 1 = a + 1 by omega]; omega
        · rw [show a + 2 - 1 = a + 1 by omega]; omega
      have hge := riseM_le t t.size (a + 2)
      rw [hris, e1, e2]
      refine ⟨fun _ => ⟨hmain, qB⟩, fun h => by omega, fun h => by omega⟩
    · have t2 := take_no h2
      have qA : risA t a false = a + 1 := by unfold risA; rw [t1.1, t1.2.1, q1]; exact t2.1
      have qB : risB t a false = true := by unfold risB; rw [t1.1, t1.2.1, q1]; exact t2.2.1
      have hr : riseB t (a + 1) = false := by
        cases hx : riseB t (a + 1)
        · rfl
        · simp only [riseB, Bool.and_eq_true, buc_t, decide_eq_true_eq, Nat.add_sub_cancel] at hx
          omega
      have e1 : riseM t t.size (a + 1) = a + 1 := by
        cases hs : t.size with
        | zero => rfl
        | succ s => simp [riseM, hr]
      rw [hris, e1]
      refine ⟨fun h => by omega, fun h => by omega, fun _ => ⟨?_, qB⟩⟩
      unfold risR
      rw [qA, qB]
      exact stuck _ _ _ _
  · have t1 := take_no h1
    have q1 : ris1 t a false = 97 := t1.2.2
    have t2 := take_stuck t a (97 + 1) 104
    have qA : risA t a false = a := by unfold risA; rw [t1.1, t1.2.1, q1]; exact t2.1
    have qB : risB t a false = true := by unfold risB; rw [t1.1, t1.2.1, q1]; exact t2.2.1
    have hR : (risR t a false).1 = a := by
      unfold risR
      rw [qA, qB]
      exact stuck _ _ _ _
    refine ⟨fun h => ?_, fun _ => ⟨hR, qB⟩, fun h => ?_⟩
    · have : risM t a = a := by
        unfold risM
        rw [if_neg]
        rw [Bool.not_eq_true, buc_f]
        omega
      omega
    · have : risM t a = a := by
        unfold risM
        rw [if_neg]
        rw [Bool.not_eq_true, buc_f]
        omega
      rw [this]
      exact ⟨hR, qB⟩
end Go.Proofs.Ytbpolcnjojlkjab
