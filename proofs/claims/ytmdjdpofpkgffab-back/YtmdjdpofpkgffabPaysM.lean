/- PaysM: PayM, PropM, ExecM -/
import Derived.Test.YtmdjdpofpkgffabTexts

/- Plain: the purse, what a payment does to it, and what stays. -/
namespace Go.Proofs.Ytmdjdpofpkgffab.Split
set_option linter.unusedVariables false
set_option linter.unusedSimpArgs false

structure Pu where
  hand : Int
  held : List Int
  owed : List Int
  paid : List Int

def lea (a b : Int) : Int := if a < b then a else b
theorem lea_le (a b : Int) : lea a b ≤ a ∧ lea a b ≤ b := by unfold lea; split <;> omega
theorem lea_eq (a b : Int) : lea a b = a ∨ lea a b = b := by unfold lea; split <;> simp

def paySum (p : Pu) (i : Nat) (most : Int) : Int := lea (lea p.hand most) (p.owed.getD i 0)
def payM (p : Pu) (i : Nat) (most : Int) : Pu :=
  ⟨p.hand - paySum p i most, p.held, p.owed.set i (p.owed.getD i 0 - paySum p i most), p.paid.set i (p.paid.getD i 0 + paySum p i most)⟩

/-- What stays: nothing is made or lost; nobody is paid above what is owed. -/
structure Keeps (M : Int) (o0 : List Int) (p : Pu) : Prop where
  lo : p.owed.length = 8
  lp : p.paid.length = 8
  h0 : 0 ≤ p.hand
  hh : ∀ x ∈ p.held, 0 ≤ x
  ow : ∀ i, 0 ≤ p.owed.getD i 0
  pa : ∀ i, 0 ≤ p.paid.getD i 0
  sum : p.hand + p.held.sum + p.paid.sum = M
  top : M ≤ 1000000000
  tot : ∀ i, p.owed.getD i 0 + p.paid.getD i 0 = o0.getD i 0
  o9 : ∀ i, o0.getD i 0 ≤ 1000000000

theorem sum_nonneg : ∀ l : List Int, (∀ x ∈ l, 0 ≤ x) → 0 ≤ l.sum
  | [], _ => by simp
  | x :: l, h => by
    have h1 := h x (by simp)
    have h2 := sum_nonneg l fun y hy => h y (by simp [hy])
    simp only [List.sum_cons]
    omega
theorem getD_mem {l : List Int} {i : Nat} (h : i < l.length) : l.getD i 0 ∈ l := by
  rw [List.getD_eq_getElem?_getD, List.getElem?_eq_getElem h]
  exact List.getElem_mem h
theorem nonneg_mem {l : List Int} (h : ∀ i, 0 ≤ l.getD i 0) : ∀ x ∈ l, 0 ≤ x := by
  intro x hx
  obtain ⟨j, hj, rfl⟩ := List.getElem_of_mem hx
  have := h j
  rw [List.getD_eq_getElem?_getD, List.getElem?_eq_getElem hj] at this
  exact this
theorem mem_le_sum : ∀ (l : List Int), (∀ x ∈ l, 0 ≤ x) → ∀ x ∈ l, x ≤ l.sum
  | [], _, x, hx => by simp at hx
  | y :: l, h, x, hx => by
    have h1 := h y (by simp)
    have h2 := sum_nonneg l fun z hz => h z (by simp [hz])
    simp only [List.sum_cons]
    rcases List.mem_cons.1 hx with rfl | hx
    · omega
    · have := mem_le_sum l (fun z hz => h z (by simp [hz])) x hx
      omega
theorem sum_set : ∀ (l : List Int) (i : Nat) (y : Int), i < l.length → (l.set i y).sum = l.sum - l.getD i 0 + y
  | [], i, y, h => by simp at h
  | x :: l, 0, y, h => by simp; omega
  | x :: l, i + 1, y, h => by
    have := sum_set l i y (by simpa using h)
    simp only [List.set_cons_succ, List.sum_cons, this, List.getD_cons_succ]
    omega
theorem getD_set (l : List Int) (i j : Nat) (y : Int) (h : i < l.length) : (l.set i y).getD j 0 = if i = j then y else l.getD j 0 := by
  simp only [List.getD_eq_getElem?_getD, List.getElem?_set]
  by_cases e : i = j
  · subst e; simp [h]
  · simp [e]

theorem Keeps.paid_le {M : Int} {o0 : List Int} {p : Pu} (h : Keeps M o0 p) (i : Nat) : p.hand + p.held.sum + p.paid.getD i 0 ≤ 1000000000 ∧ 0 ≤ p.held.sum := by
  have h1 := h.sum
  have h2 := h.top
  have h3 := sum_nonneg _ h.hh
  have h5 := nonneg_mem h.pa
  have h6 := sum_nonneg _ h5
  by_cases hi : i < p.paid.length
  · have := mem_le_sum _ h5 _ (getD_mem hi)
    omega
  · rw [List.getD_eq_getElem?_getD, List.getElem?_eq_none (by omega)]
    simp
    omega
theorem Keeps.owed_le {M : Int} {o0 : List Int} {p : Pu} (h : Keeps M o0 p) (i : Nat) : p.owed.getD i 0 ≤ 1000000000 := by
  have := h.tot i
  have := h.pa i
  have := h.o9 i
  omega

theorem paySum_bd {M : Int} {o0 : List Int} {p : Pu} (h : Keeps M o0 p) (i : Nat) (most : Int) (hm : 0 ≤ most) : 0 ≤ paySum p i most ∧ paySum p i most ≤ p.hand ∧ paySum p i most ≤ p.owed.getD i 0 ∧ paySum p i most ≤ most := by
  have h1 := h.h0
  have h2 := h.ow i
  unfold paySum lea
  split <;> split <;> omega

theorem good_pay {M : Int} {o0 : List Int} {p : Pu} (h : Keeps M o0 p) (i : Nat) (hi : i < 8) (most : Int) (hm : 0 ≤ most) : Keeps M o0 (payM p i most) := by
  have hb := paySum_bd h i most hm
  have hlo := h.lo
  have hlp := h.lp
  have hs := h.sum
  unfold payM
  generalize paySum p i most = s at *
  refine ⟨by simp [hlo], by simp [hlp], by dsimp only; omega, h.hh, ?_, ?_, ?_, h.top, ?_, h.o9⟩
  · intro j
    dsimp only
    rw [getD_set _ _ _ _ (by omega)]
    split
    · omega
    · exact h.ow j
  · intro j
    dsimp only
    have := h.pa i
    rw [getD_set _ _ _ _ (by omega)]
    split
    · omega
    · exact h.pa j
  · dsimp only
    rw [sum_set _ _ _ (by omega)]
    omega
  · intro j
    dsimp only
    have h1 := h.tot j
    rw [getD_set _ _ _ _ (by omega), getD_set _ _ _ _ (by omega)]
    split
    · rename_i e; subst e; omega
    · exact h1

/-- A part stays in hand, the rest is held. -/
def holdM (p : Pu) (n : Int) : Pu := ⟨p.hand * n / 100, p.held ++ [p.hand - p.hand * n / 100], p.owed, p.paid⟩
def backM (p : Pu) : Pu := match p.held.getLast? with
  | none => p
  | some x => ⟨p.hand + x, p.held.dropLast, p.owed, p.paid⟩

theorem part_bd (h n : Int) (hh : 0 ≤ h) (hn : 0 ≤ n) (hn' : n ≤ 100) : 0 ≤ h * n / 100 ∧ h * n / 100 ≤ h := by
  have h1 : 0 ≤ h * n := Int.mul_nonneg hh hn
  have h2 : h * n ≤ h * 100 := Int.mul_le_mul_of_nonneg_left hn' hh
  omega
theorem good_hold {M : Int} {o0 : List Int} {p : Pu} (h : Keeps M o0 p) (n : Int) (hn : 0 ≤ n) (hn' : n ≤ 100) : Keeps M o0 (holdM p n) := by
  have hb := part_bd p.hand n h.h0 hn hn'
  have hs := h.sum
  unfold holdM
  generalize p.hand * n / 100 = s at *
  refine ⟨h.lo, h.lp, hb.1, ?_, h.ow, h.pa, ?_, h.top, h.tot, h.o9⟩
  · intro x hx
    rcases List.mem_append.1 hx with hx | hx
    · exact h.hh x hx
    · simp at hx; omega
  · dsimp only
    rw [List.sum_append]
    simp
    omega
theorem good_back {M : Int} {o0 : List Int} {p : Pu} (h : Keeps M o0 p) : Keeps M o0 (backM p) := by
  unfold backM
  cases hl : p.held.getLast? with
  | none => exact h
  | some x =>
    have hmem : x ∈ p.held := List.mem_of_getLast? hl
    have hne : p.held ≠ [] := fun e => by rw [e] at hmem; simp at hmem
    have hcat : p.held.dropLast ++ [x] = p.held := by
      have := List.dropLast_concat_getLast hne
      rw [List.getLast?_eq_some_getLast hne] at hl
      simp at hl
      rw [hl] at this
      exact this
    have hsum : p.held.dropLast.sum + x = p.held.sum := by
      rw [← hcat, List.sum_append]
      simp
    have hs := h.sum
    have h1 := h.hh x hmem
    have h2 := h.h0
    refine ⟨h.lo, h.lp, by dsimp only; omega, ?_, h.ow, h.pa, ?_, h.top, h.tot, h.o9⟩
    · intro y hy
      exact h.hh y ((List.dropLast_sublist p.held).subset hy)
    · dsimp only
      omega
end Go.Proofs.Ytmdjdpofpkgffab.Split

/- Plain: to pay in proportion, as split does. -/
namespace Go.Proofs.Ytmdjdpofpkgffab.Split
set_option linter.unusedVariables false
set_option linter.unusedSimpArgs false

/-- What is owed among the first i buckets that are asked for. -/
def amTo (p : Pu) (am : List Bool) : Nat → Int
  | 0 => 0
  | i + 1 => amTo p am i + (if am.getD i false then p.owed.getD i 0 else 0)

structure Pf where
  p : Pu
  f : List Int

/-- Behind i buckets, with money m over t that is owed. -/
def propTo (p : Pu) (am : List Bool) (m t : Int) : Nat → Pf
  | 0 => ⟨p, List.replicate 8 0⟩
  | i + 1 =>
    if am.getD i false then
      if t ≤ m then ⟨payM (propTo p am m t i).p i 1000000000, (propTo p am m t i).f⟩
      else ⟨payM (propTo p am m t i).p i (m * (propTo p am m t i).p.owed.getD i 0 / t), (propTo p am m t i).f.set i (m * (propTo p am m t i).p.owed.getD i 0 % t)⟩
    else propTo p am m t i

/-- The first of the greatest among f 0 to f k. -/
def argTo (f : List Int) : Nat → Nat
  | 0 => 0
  | k + 1 => if f.getD (argTo f k) 0 < f.getD (k + 1) 0 then k + 1 else argTo f k
theorem argTo_le (f : List Int) : ∀ k, argTo f k ≤ k
  | 0 => Nat.le_refl _
  | k + 1 => by
    have := argTo_le f k
    unfold argTo
    split <;> omega

def leftM : Nat → Pu → List Int → Pu
  | 0, q, _ => q
  | k + 1, q, f => if 0 < q.hand then leftM k (payM q (argTo f 7) 1) (f.set (argTo f 7) 0) else q

def propM (p : Pu) (am : List Bool) : Pu :=
  if p.hand < amTo p am 8 then leftM 8 (propTo p am p.hand (amTo p am 8) 8).p (propTo p am p.hand (amTo p am 8) 8).f
  else (propTo p am p.hand (amTo p am 8) 8).p

theorem amTo_bd {M : Int} {o0 : List Int} {p : Pu} (h : Keeps M o0 p) (am : List Bool) : ∀ i : Nat, 0 ≤ amTo p am i ∧ amTo p am i ≤ i * 1000000000
  | 0 => by simp [amTo]
  | i + 1 => by
    have ih := amTo_bd h am i
    have h1 := h.ow i
    have h2 := h.owed_le i
    unfold amTo
    split <;> omega

theorem prop_keeps {M : Int} {o0 : List Int} {p : Pu} (h : Keeps M o0 p) (am : List Bool) (m t : Int) (hm : 0 ≤ m) : ∀ i : Nat, i ≤ 8 → Keeps M o0 (propTo p am m t i).p ∧ (propTo p am m t i).f.length = 8
  | 0, _ => ⟨h, by simp [propTo]⟩
  | i + 1, hi => by
    have ih := prop_keeps h am m t hm i (by omega)
    unfold propTo
    split
    · split
      · exact ⟨good_pay ih.1 i (by omega) _ (by omega), ih.2⟩
      · refine ⟨good_pay ih.1 i (by omega) _ ?_, by simp [ih.2]⟩
        exact Int.ediv_nonneg (Int.mul_nonneg hm (ih.1.ow i)) (by omega)
    · exact ih

theorem left_keeps {M : Int} {o0 : List Int} : ∀ (k : Nat) (q : Pu) (f : List Int), Keeps M o0 q → Keeps M o0 (leftM k q f)
  | 0, q, f, h => h
  | k + 1, q, f, h => by
    have := argTo_le f 7
    unfold leftM
    split
    · exact left_keeps k _ _ (good_pay h _ (by omega) _ (by omega))
    · exact h

theorem propM_keeps {M : Int} {o0 : List Int} {p : Pu} (h : Keeps M o0 p) (am : List Bool) : Keeps M o0 (propM p am) := by
  have := prop_keeps h am p.hand (amTo p am 8) h.h0 8 (Nat.le_refl _)
  unfold propM
  split
  · exact left_keeps _ _ _ this.1
  · exact this.1
end Go.Proofs.Ytmdjdpofpkgffab.Split

/- Plain: going through flat steps. -/
namespace Go.Proofs.Ytmdjdpofpkgffab.Split
set_option linter.unusedVariables false
set_option linter.unusedSimpArgs false

structure SOk (s : St) : Prop where
  b : ∃ b : Nat, b < 8 ∧ s.bucket = b
  a0 : 0 ≤ s.amount
  a1 : s.amount ≤ 100000
  h : s.kind = 72 → s.amount ≤ 100
  am : s.among.length = 8
  l : ∃ l : Nat, l ≤ 1000 ∧ s.leave = l

def doM (s : St) (p : Pu) : Pu :=
  if s.kind = 80 then payM p s.bucket.toNat 1000000000
  else if s.kind = 67 then payM p s.bucket.toNat s.amount
  else if s.kind = 82 then propM p s.among
  else if s.kind = 72 then holdM p s.amount
  else if s.kind = 69 then backM p
  else p
def skipM (s : St) (p : Pu) : Nat :=
  if s.kind = 74 then s.leave.toNat
  else if s.kind = 73 then (if p.owed.getD s.bucket.toNat 0 ≤ s.amount then s.leave.toNat else 0)
  else 0

def execM (ss : List St) : Nat → Nat → Pu → Pu
  | 0, _, p => p
  | f + 1, pc, p => match ss[pc]? with
    | none => p
    | some s => execM ss f (pc + 1 + skipM s p) (doM s p)

theorem do_keeps {M : Int} {o0 : List Int} {p : Pu} {s : St} (h : Keeps M o0 p) (hs : SOk s) : Keeps M o0 (doM s p) := by
  obtain ⟨b, hb, e⟩ := hs.b
  have h0 := hs.a0
  unfold doM
  rw [e]
  split
  · exact good_pay h _ (by omega) _ (by omega)
  split
  · exact good_pay h _ (by omega) _ h0
  split
  · exact propM_keeps h _
  split
  · rename_i hk
    exact good_hold h _ h0 (hs.h hk)
  split
  · exact good_back h
  · exact h

theorem left_held : ∀ (k : Nat) (q : Pu) (f : List Int), (leftM k q f).held = q.held
  | 0, q, f => rfl
  | k + 1, q, f => by
    unfold leftM
    split
    · rw [left_held k]; rfl
    · rfl
theorem prop_held (p : Pu) (am : List Bool) (m t : Int) : ∀ i, (propTo p am m t i).p.held = p.held
  | 0 => rfl
  | i + 1 => by
    have := prop_held p am m t i
    unfold propTo
    split
    · split <;> exact this
    · exact this
theorem propM_held (p : Pu) (am : List Bool) : (propM p am).held = p.held := by
  unfold propM
  split
  · rw [left_held, prop_held]
  · rw [prop_held]
theorem do_held (s : St) (p : Pu) : (doM s p).held.length ≤ p.held.length + 1 := by
  unfold doM
  split
  · simp [payM]
  split
  · simp [payM]
  split
  · rw [propM_held]; omega
  split
  · simp [holdM]
  split
  · unfold backM
    cases p.held.getLast? with
    | none => simp
    | some x => simp; omega
  · omega
end Go.Proofs.Ytmdjdpofpkgffab.Split
