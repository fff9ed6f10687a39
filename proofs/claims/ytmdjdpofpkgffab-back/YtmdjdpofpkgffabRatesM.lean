/- RatesM: RateM, FairM -/
import Derived.Test.YtmdjdpofpkgffabPaysM

/- Plain: in proportion, what is left over is fewer than the fractions. -/
namespace Go.Proofs.Ytmdjdpofpkgffab.Split
set_option linter.unusedVariables false
set_option linter.unusedSimpArgs false

def selM (p : Pu) (am : List Bool) (k : Nat) : Int := if am.getD k false then p.owed.getD k 0 else 0
def flTo (p : Pu) (am : List Bool) (m t : Int) : Nat → Int
  | 0 => 0
  | i + 1 => flTo p am m t i + m * selM p am i / t

theorem am_mono {M : Int} {o0 : List Int} {p : Pu} (h : Keeps M o0 p) (am : List Bool) (i : Nat) : ∀ d, amTo p am i ≤ amTo p am (i + d)
  | 0 => Int.le_refl _
  | d + 1 => by
    have h1 := am_mono h am i d
    have h2 := h.ow (i + d)
    show _ ≤ amTo p am (i + d) + (if am.getD (i + d) false then p.owed.getD (i + d) 0 else 0)
    split <;> omega
theorem sel_bd {M : Int} {o0 : List Int} {p : Pu} (h : Keeps M o0 p) (am : List Bool) (k : Nat) : 0 ≤ selM p am k ∧ selM p am k ≤ p.owed.getD k 0 := by
  have := h.ow k
  unfold selM
  split <;> omega

/-- What has been paid and what has been left out make up the money's part. -/
theorem fl_sum {M : Int} {o0 : List Int} {p : Pu} (h : Keeps M o0 p) (am : List Bool) {m t : Int} (hm : 0 ≤ m) (ht : 0 < t) : ∀ i, 0 ≤ flTo p am m t i ∧ t * flTo p am m t i ≤ m * amTo p am i
  | 0 => by simp [flTo, amTo]
  | i + 1 => by
    have ih := fl_sum h am hm ht i
    have hs := sel_bd h am i
    have h1 : 0 ≤ m * selM p am i := Int.mul_nonneg hm hs.1
    have h2 := Int.ediv_nonneg h1 (Int.le_of_lt ht)
    have h3 := Int.mul_ediv_self_le (x := m * selM p am i) (Int.ne_of_gt ht)
    simp only [flTo, amTo]
    have e1 : t * (flTo p am m t i + m * selM p am i / t) = t * flTo p am m t i + t * (m * selM p am i / t) := Int.mul_add _ _ _
    have e2 : m * (amTo p am i + (if am.getD i false then p.owed.getD i 0 else 0)) = m * amTo p am i + m * selM p am i := Int.mul_add _ _ _
    rw [e1, e2]
    exact ⟨by omega, by omega⟩

/-- What stands behind i buckets, where there is less money than is owed. -/
structure Mid (p : Pu) (am : List Bool) (m t : Int) (i : Nat) (s : Pf) : Prop where
  hand : s.p.hand = m - flTo p am m t i
  rest : ∀ k, i ≤ k → s.p.owed.getD k 0 = p.owed.getD k 0
  done : ∀ k, k < i → s.p.owed.getD k 0 = p.owed.getD k 0 - m * selM p am k / t
  fr : ∀ k, k < i → s.f.getD k 0 = m * selM p am k % t
  fz : ∀ k, i ≤ k → s.f.getD k 0 = 0
  fs : s.f.sum + t * flTo p am m t i = m * amTo p am i

theorem fl_hand {M : Int} {o0 : List Int} {p : Pu} (h : Keeps M o0 p) (am : List Bool) {m t : Int} (hm : 0 ≤ m) (ht : 0 < t) (hte : amTo p am 8 = t) (i : Nat) (hi : i ≤ 8) : flTo p am m t i ≤ m := by
  have h1 := (fl_sum h am hm ht i).2
  have h2 := am_mono h am i (8 - i)
  rw [show i + (8 - i) = 8 by omega, hte] at h2
  have h3 : m * amTo p am i ≤ m * t := Int.mul_le_mul_of_nonneg_left h2 hm
  have h4 : t * flTo p am m t i ≤ t * m := by rw [Int.mul_comm t m]; omega
  exact Int.le_of_mul_le_mul_left h4 ht

theorem mid_any {M : Int} {o0 : List Int} {p : Pu} (h : Keeps M o0 p) (am : List Bool) {m t : Int} (hm : 0 ≤ m) (hmt : m < t) (hme : p.hand = m) (hte : amTo p am 8 = t) : ∀ i, i ≤ 8 → Mid p am m t i (propTo p am m t i)
  | 0, _ => by
    refine ⟨by simp [propTo, flTo, hme], fun k _ => rfl, fun k hk => by omega, fun k hk => by omega, fun k _ => ?_, ?_⟩
    · simp only [propTo, List.getD_eq_getElem?_getD, List.getElem?_replicate]
      split <;> rfl
    · simp [propTo, flTo, amTo]
  | i + 1, hi => by
    have ih := mid_any h am hm hmt hme hte i (by omega)
    have ht : 0 < t := by omega
    have hkp := prop_keeps h am m t hm i (by omega)
    have hs := sel_bd h am i
    have hnext := fl_hand h am hm ht hte (i + 1) hi
    unfold propTo
    by_cases ha : am.getD i false = true
    · rw [if_pos ha, if_neg (by omega)]
      have hse : selM p am i = p.owed.getD i 0 := by unfold selM; rw [if_pos ha]
      have ho : (propTo p am m t i).p.owed.getD i 0 = p.owed.getD i 0 := ih.rest i (Nat.le_refl _)
      have hl := hkp.1.lo
      have hfl := hkp.2
      generalize propTo p am m t i = s at *
      have hq0 : 0 ≤ m * selM p am i / t := Int.ediv_nonneg (Int.mul_nonneg hm hs.1) (Int.le_of_lt ht)
      have hqo : m * selM p am i / t ≤ p.owed.getD i 0 := by
        have : m * selM p am i ≤ selM p am i * t := by
          rw [Int.mul_comm m]
          exact Int.mul_le_mul_of_nonneg_left (Int.le_of_lt hmt) hs.1
        have := Int.ediv_le_of_le_mul ht this
        omega
      have hqh : m * selM p am i / t ≤ s.p.hand := by
        rw [ih.hand]
        simp only [flTo] at hnext
        omega
      have hps : paySum s.p i (m * s.p.owed.getD i 0 / t) = m * selM p am i / t := by
        unfold paySum
        rw [ho, ← hse]
        have hx : lea s.p.hand (m * selM p am i / t) = m * selM p am i / t := by
          unfold lea; split <;> omega
        rw [hx]
        unfold lea
        rw [hse] at hqo ⊢
        split <;> omega
      refine ⟨?_, ?_, ?_, ?_, ?_, ?_⟩
      · simp only [payM, hps, flTo]
        rw [ih.hand]
        omega
      · intro k hk
        simp only [payM]
        rw [getD_set _ _ _ _ (by omega), if_neg (by omega)]
        exact ih.rest k (by omega)
      · intro k hk
        simp only [payM]
        rw [getD_set _ _ _ _ (by omega)]
        by_cases e : i = k
        · subst e
          rw [if_pos rfl, hps, ho]
        · rw [if_neg e]
          exact ih.done k (by omega)
      · intro k hk
        dsimp only
        rw [getD_set _ _ _ _ (by omega)]
        by_cases e : i = k
        · subst e
          rw [if_pos rfl, ho, hse]
        · rw [if_neg e]
          exact ih.fr k (by omega)
      · intro k hk
        dsimp only
        rw [getD_set _ _ _ _ (by omega), if_neg (by omega)]
        exact ih.fz k (by omega)
      · dsimp only
        rw [sum_set _ _ _ (by omega), ih.fz i (Nat.le_refl _), ho]
        have h1 := ih.fs
        have h2 := Int.emod_add_mul_ediv (m * p.owed.getD i 0) t
        simp only [flTo, amTo]
        rw [if_pos ha, Int.mul_add, Int.mul_add, hse]
        omega
    · have ha' : am.getD i false = false := by simpa using ha
      rw [ha']
      have hse : selM p am i = 0 := by unfold selM; rw [ha']; rfl
      simp only [Bool.false_eq_true, if_false]
      refine ⟨?_, fun k hk => ih.rest k (by omega), ?_, ?_, fun k hk => ih.fz k (by omega), ?_⟩
      · rw [ih.hand]
        simp [flTo, hse]
      · intro k hk
        by_cases e : k = i
        · subst e
          rw [ih.rest k (Nat.le_refl _), hse]
          simp
        · exact ih.done k (by omega)
      · intro k hk
        by_cases e : k = i
        · subst e
          rw [ih.fz k (Nat.le_refl _), hse]
          simp
        · exact ih.fr k (by omega)
      · have h1 := ih.fs
        simp only [flTo, amTo, hse, ha']
        simpa using h1

/-- Each part can be paid whole. -/
theorem prop_exact {M : Int} {o0 : List Int} {p : Pu} (h : Keeps M o0 p) (am : List Bool) {m t : Int} (hm : 0 ≤ m) (hmt : m < t) (hme : p.hand = m) (hte : amTo p am 8 = t) (i : Nat) (hi : i < 8) (ha : am.getD i false = true) :
    paySum (propTo p am m t i).p i (m * (propTo p am m t i).p.owed.getD i 0 / t) = m * (propTo p am m t i).p.owed.getD i 0 / t := by
  have ih := mid_any h am hm hmt hme hte i (by omega)
  have ht : 0 < t := by omega
  have hs := sel_bd h am i
  have hnext := fl_hand h am hm ht hte (i + 1) hi
  have hse : selM p am i = p.owed.getD i 0 := by unfold selM; rw [if_pos ha]
  have ho : (propTo p am m t i).p.owed.getD i 0 = p.owed.getD i 0 := ih.rest i (Nat.le_refl _)
  generalize propTo p am m t i = s at *
  have hqo : m * selM p am i / t ≤ p.owed.getD i 0 := by
    have : m * selM p am i ≤ selM p am i * t := by
      rw [Int.mul_comm m]
      exact Int.mul_le_mul_of_nonneg_left (Int.le_of_lt hmt) hs.1
    have := Int.ediv_le_of_le_mul ht this
    omega
  have hqh : m * selM p am i / t ≤ s.p.hand := by
    rw [ih.hand]
    simp only [flTo] at hnext
    omega
  unfold paySum
  rw [ho, ← hse]
  have hx : lea s.p.hand (m * selM p am i / t) = m * selM p am i / t := by
    unfold lea; split <;> omega
  rw [hx]
  unfold lea
  rw [hse] at hqo ⊢
  split <;> omega

/-- The first of the greatest is the greatest. -/
theorem arg_max (f : List Int) : ∀ k j, j ≤ k → f.getD j 0 ≤ f.getD (argTo f k) 0
  | 0, j, h => by
    have : j = 0 := by omega
    subst this
    exact Int.le_refl _
  | k + 1, j, h => by
    have ih := arg_max f k
    unfold argTo
    split
    · by_cases e : j = k + 1
      · subst e; exact Int.le_refl _
      · have := ih j (by omega); omega
    · by_cases e : j = k + 1
      · subst e; omega
      · exact ih j (by omega)

theorem sum_le_of {f : List Int} {c : Int} (h : ∀ x ∈ f, x ≤ c) : f.sum ≤ f.length * c := by
  induction f with
  | nil => simp
  | cons x f ih =>
    have h1 := h x (by simp)
    have h2 := ih fun y hy => h y (by simp [hy])
    simp only [List.sum_cons, List.length_cons]
    have : ((f.length + 1 : Nat) : Int) * c = (f.length : Int) * c + c := by
      rw [Int.natCast_add, Int.add_mul]; simp
    rw [this]
    omega
theorem sum_le_max {f : List Int} {c : Int} (hl : f.length = 8) (h : ∀ k, k ≤ 7 → f.getD k 0 ≤ c) : f.sum ≤ 8 * c := by
  have := sum_le_of (f := f) (c := c) (fun x hx => by
    obtain ⟨j, hj, rfl⟩ := List.getElem_of_mem hx
    have := h j (by omega)
    rw [List.getD_eq_getElem?_getD, List.getElem?_eq_getElem hj] at this
    exact this)
  rw [hl] at this
  exact this

/-- While something is left over. -/
structure Left (t : Int) (q : Pu) (f : List Int) : Prop where
  l8 : f.length = 8
  f0 : ∀ k, 0 ≤ f.getD k 0 ∧ f.getD k 0 < t
  enough : q.hand * t ≤ f.sum
  ow : ∀ k, 0 < f.getD k 0 → 1 ≤ q.owed.getD k 0

theorem left_start {M : Int} {o0 : List Int} {p : Pu} (h : Keeps M o0 p) (am : List Bool) {m t : Int} (hm : 0 ≤ m) (hmt : m < t) (hme : p.hand = m) (hte : amTo p am 8 = t) :
    Left t (propTo p am m t 8).p (propTo p am m t 8).f ∧ (propTo p am m t 8).p.hand ≤ 8 := by
  have hM := mid_any h am hm hmt hme hte 8 (Nat.le_refl _)
  have hkp := prop_keeps h am m t hm 8 (Nat.le_refl _)
  have ht : 0 < t := by omega
  generalize propTo p am m t 8 = s at *
  have hf0 : ∀ k, 0 ≤ s.f.getD k 0 ∧ s.f.getD k 0 < t := by
    intro k
    by_cases hk : k < 8
    · rw [hM.fr k hk]
      exact ⟨Int.emod_nonneg _ (by omega), Int.emod_lt_of_pos _ ht⟩
    · rw [hM.fz k (by omega)]
      exact ⟨Int.le_refl _, ht⟩
  have hen : s.p.hand * t = s.f.sum := by
    have h1 := hM.fs
    rw [hM.hand, Int.sub_mul, Int.mul_comm (flTo p am m t 8) t]
    rw [hte] at h1
    omega
  refine ⟨⟨hkp.2, hf0, by omega, fun k hk => ?_⟩, ?_⟩
  · by_cases hk8 : k < 8
    · rw [hM.fr k hk8] at hk
      rw [hM.done k hk8]
      have hs := sel_bd h am k
      have h2 := Int.emod_add_mul_ediv (m * selM p am k) t
      have hpos : 0 < selM p am k := by
        by_cases e : selM p am k = 0
        · rw [e] at hk; simp at hk
        · omega
      have h3 : m * selM p am k < t * selM p am k := Int.mul_lt_mul_of_pos_right hmt hpos
      have h4 : t * (m * selM p am k / t) < t * selM p am k := by omega
      have h5 := Int.lt_of_mul_lt_mul_left h4 (Int.le_of_lt ht)
      omega
    · rw [hM.fz k (by omega)] at hk; omega
  · have h1 : s.f.sum ≤ 8 * t := sum_le_max hkp.2 (fun k _ => by have := hf0 k; omega)
    rw [← hen] at h1
    exact Int.le_of_mul_le_mul_right h1 ht

theorem left_next {M : Int} {o0 : List Int} {t : Int} {q : Pu} {f : List Int} (hl : Left t q f) (hk : Keeps M o0 q) (hp : 0 < q.hand) :
    paySum q (argTo f 7) 1 = 1 ∧ Left t (payM q (argTo f 7) 1) (f.set (argTo f 7) 0) := by
  have hmax := arg_max f 7
  have hle := argTo_le f 7
  have hfg := hl.f0 (argTo f 7)
  have ht : 0 < t := by omega
  have hsum : t ≤ f.sum := by
    have h1 : 1 * t ≤ q.hand * t := Int.mul_le_mul_of_nonneg_right (by omega) (Int.le_of_lt ht)
    have := hl.enough
    omega
  have hpos : 0 < f.getD (argTo f 7) 0 := by
    by_cases e : 0 < f.getD (argTo f 7) 0
    · exact e
    · have : f.sum ≤ 8 * f.getD (argTo f 7) 0 := sum_le_max hl.l8 (fun k hk => hmax k hk)
      omega
  have how := hl.ow _ hpos
  generalize argTo f 7 = g at *
  have hps : paySum q g 1 = 1 := by
    unfold paySum
    have : lea q.hand 1 = 1 := by unfold lea; split <;> omega
    rw [this]
    unfold lea
    split <;> omega
  refine ⟨hps, by simp [hl.l8], ?_, ?_, ?_⟩
  · intro k
    rw [getD_set _ _ _ _ (by have := hl.l8; omega)]
    split
    · omega
    · exact hl.f0 k
  · rw [sum_set _ _ _ (by have := hl.l8; omega)]
    have e : (payM q g 1).hand = q.hand - 1 := by simp [payM, hps]
    rw [e, Int.sub_mul]
    have := hl.enough
    omega
  · intro k hkp
    rw [getD_set _ _ _ _ (by have := hl.l8; omega)] at hkp
    by_cases e : g = k
    · rw [if_pos e] at hkp; omega
    · rw [if_neg e] at hkp
      have := hl.ow k hkp
      simp only [payM]
      rw [getD_set _ _ _ _ (by have := hk.lo; omega), if_neg e]
      exact this

/-- So one round is one unit, and the rounds are enough. -/
theorem left_all {M : Int} {o0 : List Int} {t : Int} : ∀ (k : Nat) (q : Pu) (f : List Int), Left t q f → Keeps M o0 q → q.hand ≤ k → (leftM k q f).hand = 0
  | 0, q, f, hl, hk, hh => by
    have := hk.h0
    show q.hand = 0
    omega
  | k + 1, q, f, hl, hk, hh => by
    have h0 := hk.h0
    unfold leftM
    by_cases hp : 0 < q.hand
    · rw [if_pos hp]
      have hn := left_next hl hk hp
      have hle := argTo_le f 7
      exact left_all k _ _ hn.2 (good_pay hk _ (by omega) _ (by omega)) (by simp [payM, hn.1]; omega)
    · rw [if_neg hp]; omega
end Go.Proofs.Ytmdjdpofpkgffab.Split

/- Plain: what the step R pays, each against each. -/
namespace Go.Proofs.Ytmdjdpofpkgffab.Split
set_option linter.unusedVariables false
set_option linter.unusedSimpArgs false

/-- The first of the greatest stands ahead of its equals. -/
theorem arg_first (f : List Int) : ∀ k j, j ≤ k → f.getD j 0 = f.getD (argTo f k) 0 → argTo f k ≤ j
  | 0, j, h, _ => by simp [argTo]
  | k + 1, j, h, he => by
    have ih := arg_first f k
    have hm := arg_max f k
    unfold argTo at he ⊢
    by_cases hc : f.getD (argTo f k) 0 < f.getD (k + 1) 0
    · rw [if_pos hc] at he ⊢
      by_cases e : j = k + 1
      · omega
      · have := hm j (by omega)
        omega
    · rw [if_neg hc] at he ⊢
      by_cases e : j = k + 1
      · have := argTo_le f k
        omega
      · exact ih j (by omega) he

theorem left_pos {t : Int} {q : Pu} {f : List Int} (hl : Left t q f) (hp : 0 < q.hand) : 0 < f.getD (argTo f 7) 0 := by
  have hmax := arg_max f 7
  have hfg := hl.f0 (argTo f 7)
  have ht : 0 < t := by omega
  have hsum : t ≤ f.sum := by
    have h1 : 1 * t ≤ q.hand * t := Int.mul_le_mul_of_nonneg_right (by omega) (Int.le_of_lt ht)
    have := hl.enough
    omega
  by_cases e : 0 < f.getD (argTo f 7) 0
  · exact e
  · have : f.sum ≤ 8 * f.getD (argTo f 7) 0 := sum_le_max hl.l8 (fun k hk => hmax k hk)
    omega

/-- Bucket k is cut, or it is rounded up and is ahead of all that are cut. -/
def Got (Q F : Nat → Int) (q : Pu) (f : List Int) : Prop :=
  ∀ k, k < 8 → (q.paid.getD k 0 = Q k ∧ f.getD k 0 = F k) ∨
    (q.paid.getD k 0 = Q k + 1 ∧ f.getD k 0 = 0 ∧ 0 < F k ∧ ∀ j, j < 8 → q.paid.getD j 0 = Q j → (F j < F k ∨ (F j = F k ∧ k < j)))

theorem got_next {M : Int} {o0 : List Int} {t : Int} {Q F : Nat → Int} {q : Pu} {f : List Int} (hl : Left t q f) (hk : Keeps M o0 q) (hp : 0 < q.hand) (hg : Got Q F q f) : Got Q F (payM q (argTo f 7) 1) (f.set (argTo f 7) 0) := by
  have hpos := left_pos hl hp
  have hn := (left_next hl hk hp).1
  have hle := argTo_le f 7
  have hmax := arg_max f 7
  have hfst := arg_first f 7
  have hpl := hk.lp
  have hfl := hl.l8
  generalize argTo f 7 = g at *
  have hpaid : ∀ k, (payM q g 1).paid.getD k 0 = if g = k then q.paid.getD g 0 + 1 else q.paid.getD k 0 := by
    intro k
    simp only [payM, hn]
    rw [getD_set _ _ _ _ (by omega)]
  have hgg : q.paid.getD g 0 = Q g ∧ f.getD g 0 = F g := by
    rcases hg g (by omega) with h | h
    · exact h
    · omega
  intro k hk8
  rw [hpaid, getD_set _ _ _ _ (by omega)]
  by_cases e : g = k
  · subst e
    rw [if_pos rfl, if_pos rfl]
    refine .inr ⟨by omega, rfl, by omega, fun j hj hjq => ?_⟩
    rw [hpaid] at hjq
    by_cases ej : g = j
    · rw [if_pos ej] at hjq
      rw [ej] at hjq hgg
      omega
    · rw [if_neg ej] at hjq
      rcases hg j hj with h | h
      · have h1 := hmax j (by omega)
        by_cases e2 : F j = F g
        · right
          have := hfst j (by omega) (by omega)
          exact ⟨e2, by omega⟩
        · left
          omega
      · omega
  · rw [if_neg e, if_neg e]
    rcases hg k hk8 with h | h
    · exact .inl h
    · refine .inr ⟨h.1, h.2.1, h.2.2.1, fun j hj hjq => ?_⟩
      rw [hpaid] at hjq
      by_cases ej : g = j
      · rw [if_pos ej] at hjq
        rw [ej] at hjq hgg
        omega
      · rw [if_neg ej] at hjq
        exact h.2.2.2 j hj hjq

theorem got_all {M : Int} {o0 : List Int} {t : Int} {Q F : Nat → Int} : ∀ (n : Nat) (q : Pu) (f : List Int), Left t q f → Keeps M o0 q → Got Q F q f → ∃ f', Got Q F (leftM n q f) f'
  | 0, q, f, hl, hk, hg => ⟨f, hg⟩
  | n + 1, q, f, hl, hk, hg => by
    unfold leftM
    by_cases hp : 0 < q.hand
    · rw [if_pos hp]
      have hle := argTo_le f 7
      exact got_all n _ _ (left_next hl hk hp).2 (good_pay hk _ (by omega) _ (by omega)) (got_next hl hk hp hg)
    · rw [if_neg hp]; exact ⟨f, hg⟩

/-- Where all can be paid. -/
structure Full (p : Pu) (am : List Bool) (m : Int) (i : Nat) (q : Pu) : Prop where
  hand : q.hand = m - amTo p am i
  rest : ∀ k, i ≤ k → q.owed.getD k 0 = p.owed.getD k 0
  done : ∀ k, k < i → q.owed.getD k 0 = p.owed.getD k 0 - selM p am k

theorem full_any {M : Int} {o0 : List Int} {p : Pu} (h : Keeps M o0 p) (am : List Bool) {m t : Int} (hm : 0 ≤ m) (hmt : t ≤ m) (hme : p.hand = m) (hte : amTo p am 8 = t) : ∀ i, i ≤ 8 → Full p am m i (propTo p am m t i).p
  | 0, _ => ⟨by simp [propTo, amTo, hme], fun k _ => rfl, fun k hk => by omega⟩
  | i + 1, hi => by
    have ih := full_any h am hm hmt hme hte i (by omega)
    have hkp := (prop_keeps h am m t hm i (by omega)).1
    have hs := sel_bd h am i
    have hmono := am_mono h am (i + 1) (8 - (i + 1))
    rw [show i + 1 + (8 - (i + 1)) = 8 by omega, hte] at hmono
    have how := h.owed_le i
    unfold propTo
    by_cases ha : am.getD i false = true
    · rw [if_pos ha, if_pos hmt]
      dsimp only
      have hse : selM p am i = p.owed.getD i 0 := by unfold selM; rw [if_pos ha]
      have hae : amTo p am (i + 1) = amTo p am i + p.owed.getD i 0 := by simp only [amTo]; rw [if_pos ha]
      have ho := ih.rest i (Nat.le_refl _)
      have hh := ih.hand
      have hl := hkp.lo
      generalize (propTo p am m t i).p = q at *
      have hps : paySum q i 1000000000 = p.owed.getD i 0 := by
        unfold paySum
        rw [ho]
        have h1 := hs.1
        have : p.owed.getD i 0 ≤ lea q.hand 1000000000 := by
          unfold lea
          split <;> omega
        generalize lea q.hand 1000000000 = y at *
        unfold lea
        split <;> omega
      refine ⟨?_, ?_, ?_⟩
      · simp only [payM, hps]
        rw [hh, hae]
        omega
      · intro k hk
        simp only [payM]
        rw [getD_set _ _ _ _ (by omega), if_neg (by omega)]
        exact ih.rest k (by omega)
      · intro k hk
        simp only [payM]
        rw [getD_set _ _ _ _ (by omega)]
        by_cases e : i = k
        · subst e
          rw [if_pos rfl, hps, ho, hse]
        · rw [if_neg e]
          exact ih.done k (by omega)
    · have ha' : am.getD i false = false := by simpa using ha
      rw [ha']
      have hse : selM p am i = 0 := by unfold selM; rw [ha']; rfl
      have hae : amTo p am (i + 1) = amTo p am i := by simp only [amTo]; rw [ha']; simp
      simp only [Bool.false_eq_true, if_false]
      refine ⟨by rw [hae]; exact ih.hand, fun k hk => ih.rest k (by omega), fun k hk => ?_⟩
      by_cases e : k = i
      · subst e
        rw [ih.rest k (Nat.le_refl _), hse]
        omega
      · exact ih.done k (by omega)

/-- The law of the step R: what is paid, of the least of the payment and what is owed. -/
structure FairOk (zs : List Int) (m : Int) (am : List Bool) (t : Int) (q : Pu) : Prop where
  hand : q.hand = m - lea m t
  out : ∀ i, i < 8 → am.getD i false = false → q.paid.getD i 0 = 0
  part : 0 < t → ∀ i, i < 8 → am.getD i false = true →
    q.paid.getD i 0 = lea m t * zs.getD i 0 / t ∨ (q.paid.getD i 0 = lea m t * zs.getD i 0 / t + 1 ∧ 0 < lea m t * zs.getD i 0 % t ∧
      ∀ j, j < 8 → am.getD j false = true → q.paid.getD j 0 = lea m t * zs.getD j 0 / t → (lea m t * zs.getD j 0 % t < lea m t * zs.getD i 0 % t ∨ (lea m t * zs.getD j 0 % t = lea m t * zs.getD i 0 % t ∧ i < j)))

theorem fair_ok {zs : List Int} {m : Int} {p : Pu} (h : Keeps m zs p) (am : List Bool) (hp0 : ∀ k, p.paid.getD k 0 = 0) (hh : p.hand = m) : FairOk zs m am (amTo p am 8) (propM p am) := by
  have hm : 0 ≤ m := by have := h.h0; omega
  have hoz : ∀ k, p.owed.getD k 0 = zs.getD k 0 := fun k => by have := h.tot k; have := hp0 k; omega
  have hKq := propM_keeps h am
  obtain ⟨t, hte⟩ : ∃ t, amTo p am 8 = t := ⟨_, rfl⟩
  have ht0 := (amTo_bd h am 8).1
  rw [hte] at ht0 ⊢
  have hsel : ∀ i, am.getD i false = true → selM p am i = zs.getD i 0 := fun i ha => by unfold selM; rw [if_pos ha, hoz]
  have hsel0 : ∀ i, am.getD i false = false → selM p am i = 0 := fun i ha => by unfold selM; rw [ha]; rfl
  by_cases hmt : m < t
  · have hlea : lea m t = m := by unfold lea; rw [if_pos hmt]
    have hpe : propM p am = leftM 8 (propTo p am m t 8).p (propTo p am m t 8).f := by
      unfold propM
      rw [hh, hte, if_pos hmt]
    rw [hpe] at hKq ⊢
    have hM := mid_any h am hm hmt hh hte 8 (Nat.le_refl _)
    have hkp := prop_keeps h am m t hm 8 (Nat.le_refl _)
    have hl := left_start h am hm hmt hh hte
    have hall := left_all 8 _ _ hl.1 hkp.1 hl.2
    have hg0 : Got (fun k => m * selM p am k / t) (fun k => m * selM p am k % t) (propTo p am m t 8).p (propTo p am m t 8).f := by
      intro k hk
      left
      have h1 := hM.done k hk
      have h2 := hkp.1.tot k
      have h3 := hoz k
      refine ⟨by dsimp only; omega, hM.fr k hk⟩
    obtain ⟨f', hg⟩ := got_all 8 _ _ hl.1 hkp.1 hg0
    generalize leftM 8 (propTo p am m t 8).p (propTo p am m t 8).f = q at *
    refine ⟨by rw [hlea, hall]; omega, fun i hi ha => ?_, fun _ i hi ha => ?_⟩
    · rcases hg i hi with h | h
      · rw [h.1]; dsimp only; rw [hsel0 i ha]; simp
      · have := h.2.2.1
        dsimp only at this
        rw [hsel0 i ha] at this
        simp at this
    · rw [hlea]
      rcases hg i hi with h | h
      · left
        rw [h.1]; dsimp only; rw [hsel i ha]
      · right
        obtain ⟨h1, _, h3, h4⟩ := h
        dsimp only at h1 h3 h4
        rw [hsel i ha] at h1 h3 h4
        refine ⟨h1, h3, fun j hj haj hjq => ?_⟩
        have := h4 j hj (by rw [hsel j haj]; exact hjq)
        rw [hsel j haj] at this
        exact this
  · have hlea : lea m t = t := by unfold lea; rw [if_neg hmt]
    have hpe : propM p am = (propTo p am m t 8).p := by
      unfold propM
      rw [hh, hte, if_neg hmt]
    rw [hpe] at hKq ⊢
    have hF := full_any h am hm (by omega) hh hte 8 (Nat.le_refl _)
    generalize (propTo p am m t 8).p = q at *
    have hpd : ∀ i, i < 8 → q.paid.getD i 0 = selM p am i := fun i hi => by
      have h1 := hF.done i hi
      have h2 := hKq.tot i
      have h3 := hoz i
      omega
    refine ⟨by rw [hlea, hF.hand, hte], fun i hi ha => by rw [hpd i hi, hsel0 i ha], fun ht i hi ha => .inl ?_⟩
    rw [hlea, hpd i hi, hsel i ha, Int.mul_ediv_cancel_left _ (by omega)]
end Go.Proofs.Ytmdjdpofpkgffab.Split
