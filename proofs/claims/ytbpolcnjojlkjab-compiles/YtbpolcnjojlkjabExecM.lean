/- Plain: going through flat steps. -/
import Derived.Test.YtbpolcnjojlkjabPropM
namespace Go.Proofs.Ytbpolcnjojlkjab.Split
set_option linter.unusedVariables false
set_option linter.unusedSimpArgs false

structure SOk (s : St) : Prop where
  b : ∃ b : Nat, b < 8 ∧ s.bucket = b
  a0 : 0 ≤ s.amount
  a1 : s.amount ≤ 100000
  h : s.kind = 72 → s.amount ≤ 100
  am : s.among.length = 8
  l : ∃ l : Nat, l ≤ 1000 ∧ s.leave = l

def doM (s : St) (p : Pu) : Pu :=
  if s.kind = 80 then payM p s.bucket.toNat 1000000000
  else if s.kind = 67 then payM p s.bucket.toNat s.amount
  else if s.kind = 82 then propM p s.among
  else if s.kind = 72 then holdM p s.amount
  else if s.kind = 69 then backM p
  else p
def skipM (s : St) (p : Pu) : Nat :=
  if s.kind = 74 then s.leave.toNat
  else if s.kind = 73 then (if p.owed.getD s.bucket.toNat 0 ≤ s.amount then s.leave.toNat else 0)
  else 0

def execM (ss : List St) : Nat → Nat → Pu → Pu
  | 0, _, p => p
  | f + 1, pc, p => match ss[pc]? with
    | none => p
    | some s => execM ss f (pc + 1 + skipM s p) (doM s p)

theorem do_keeps {M : Int} {o0 : List Int} {p : Pu} {s : St} (h : Keeps M o0 p) (hs : SOk s) : Keeps M o0 (doM s p) := by
  obtain ⟨b, hb, e⟩ := hs.b
  have h0 := hs.a0
  unfold doM
  rw [e]
  split
  · exact good_pay h _ (by omega) _ (by omega)
  split
  · exact good_pay h _ (by omega) _ h0
  split
  · exact propM_keeps h _
  split
  · rename_i hk
    exact good_hold h _ h0 (hs.h hk)
  split
  · exact good_back h
  · exact h

theorem left_held : ∀ (k : Nat) (q : Pu) (f : List Int), (leftM k q f).held = q.held
  | 0, q, f => rfl
  | k + 1, q, f => by
    unfold leftM
    split
    · rw [left_held k]; rfl
    · rfl
theorem prop_held (p : Pu) (am : List Bool) (m t : Int) : ∀ i, (propTo p am m t i).p.held = p.held
  | 0 => rfl
  | i + 1 => by
    have := prop_held p am m t i
    unfold propTo
    split
    · split <;> exact this
    · exact this
theorem propM_held (p : Pu) (am : List Bool) : (propM p am).held = p.held := by
  unfold propM
  split
  · rw [left_held, prop_held]
  · rw [prop_held]
theorem do_held (s : St) (p : Pu) : (doM s p).held.length ≤ p.held.length + 1 := by
  unfold doM
  split
  · simp [payM]
  split
  · simp [payM]
  split
  · rw [propM_held]; omega
  split
  · simp [holdM]
  split
  · unfold backM
    cases p.held.getLast? with
    | none => simp
    | some x => simp; omega
  · omega
end Go.Proofs.Ytbpolcnjojlkjab.Split
