/- Plain: to pay in proportion, as split does. -/
import Derived.Test.YtbpolcnjojlkjabPayM
namespace Go.Proofs.Ytbpolcnjojlkjab.Split
set_option linter.unusedVariables false
set_option linter.unusedSimpArgs false

/-- What is owed among the first i buckets that are asked for. -/
def amTo (p : Pu) (am : List Bool) : Nat → Int
  | 0 => 0
  | i + 1 => amTo p am i + (if am.getD i false then p.owed.getD i 0 else 0)

structure Pf where
  p : Pu
  f : List Int

/-- Behind i buckets, with money m over t that is owed. -/
def propTo (p : Pu) (am : List Bool) (m t : Int) : Nat → Pf
  | 0 => ⟨p, List.replicate 8 0⟩
  | i + 1 =>
    if am.getD i false then
      if t ≤ m then ⟨payM (propTo p am m t i).p i 1000000000, (propTo p am m t i).f⟩
      else ⟨payM (propTo p am m t i).p i (m * (propTo p am m t i).p.owed.getD i 0 / t), (propTo p am m t i).f.set i (m * (propTo p am m t i).p.owed.getD i 0 % t)⟩
    else propTo p am m t i

/-- The first of the greatest among f 0 to f k. -/
def argTo (f : List Int) : Nat → Nat
  | 0 => 0
  | k + 1 => if f.getD (argTo f k) 0 < f.getD (k + 1) 0 then k + 1 else argTo f k
theorem argTo_le (f : List Int) : ∀ k, argTo f k ≤ k
  | 0 => Nat.le_refl _
  | k + 1 => by
    have := argTo_le f k
    unfold argTo
    split <;> omega

def leftM : Nat → Pu → List Int → Pu
  | 0, q, _ => q
  | k + 1, q, f => if 0 < q.hand then leftM k (payM q (argTo f 7) 1) (f.set (argTo f 7) 0) else q

def propM (p : Pu) (am : List Bool) : Pu :=
  if p.hand < amTo p am 8 then leftM 8 (propTo p am p.hand (amTo p am 8) 8).p (propTo p am p.hand (amTo p am 8) 8).f
  else (propTo p am p.hand (amTo p am 8) 8).p

theorem amTo_bd {M : Int} {o0 : List Int} {p : Pu} (h : Keeps M o0 p) (am : List Bool) : ∀ i : Nat, 0 ≤ amTo p am i ∧ amTo p am i ≤ i * 1000000000
  | 0 => by simp [amTo]
  | i + 1 => by
    have ih := amTo_bd h am i
    have h1 := h.ow i
    have h2 := h.owed_le i
    unfold amTo
    split <;> omega

theorem prop_keeps {M : Int} {o0 : List Int} {p : Pu} (h : Keeps M o0 p) (am : List Bool) (m t : Int) (hm : 0 ≤ m) : ∀ i : Nat, i ≤ 8 → Keeps M o0 (propTo p am m t i).p ∧ (propTo p am m t i).f.length = 8
  | 0, _ => ⟨h, by simp [propTo]⟩
  | i + 1, hi => by
    have ih := prop_keeps h am m t hm i (by omega)
    unfold propTo
    split
    · split
      · exact ⟨good_pay ih.1 i (by omega) _ (by omega), ih.2⟩
      · refine ⟨good_pay ih.1 i (by omega) _ ?_, by simp [ih.2]⟩
        exact Int.ediv_nonneg (Int.mul_nonneg hm (ih.1.ow i)) (by omega)
    · exact ih

theorem left_keeps {M : Int} {o0 : List Int} : ∀ (k : Nat) (q : Pu) (f : List Int), Keeps M o0 q → Keeps M o0 (leftM k q f)
  | 0, q, f, h => h
  | k + 1, q, f, h => by
    have := argTo_le f 7
    unfold leftM
    split
    · exact left_keeps k _ _ (good_pay h _ (by omega) _ (by omega))
    · exact h

theorem propM_keeps {M : Int} {o0 : List Int} {p : Pu} (h : Keeps M o0 p) (am : List Bool) : Keeps M o0 (propM p am) := by
  have := prop_keeps h am p.hand (amTo p am 8) h.h0 8 (Nat.le_refl _)
  unfold propM
  split
  · exact left_keeps _ _ _ this.1
  · exact this.1
end Go.Proofs.Ytbpolcnjojlkjab.Split
