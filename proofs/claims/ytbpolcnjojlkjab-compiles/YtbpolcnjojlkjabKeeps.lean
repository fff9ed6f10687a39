/- Plain: a policy makes and loses nothing. -/
import Derived.Test.YtbpolcnjojlkjabShare
import Derived.Test.YtbpolcnjojlkjabSem
namespace Go.Proofs.Ytbpolcnjojlkjab
open Split (Pu Keeps St SOk execM)
set_option linter.unusedVariables false
set_option linter.unusedSimpArgs false

theorem exec_keeps {M : Int} {o0 : List Int} {ss : List St} (hs : ∀ s ∈ ss, SOk s) : ∀ (f pc : Nat) (p : Pu), Keeps M o0 p → Keeps M o0 (execM ss f pc p)
  | 0, pc, p, h => h
  | f + 1, pc, p, h => by
    by_cases hlt : pc < ss.length
    · simp only [execM, List.getElem?_eq_getElem hlt]
      exact exec_keeps hs f _ _ (Split.do_keeps h (hs _ (List.getElem_mem hlt)))
    · simp only [execM, List.getElem?_eq_none (show ss.length ≤ pc by omega)]
      exact h

theorem shr_keeps {t : ByteArray} {zs : List Int} {m : Int} (hc : checkE t = 0) (hg : givenE zs m = 0) : Keeps m zs (shrM t zs m) ∧ (shrM t zs m).held = [] := by
  obtain ⟨h1, h2, h3, h4, h5, h6⟩ := policy_code t hc
  refine ⟨exec_keeps h3 _ _ _ (keeps0 hg), ?_⟩
  have e : (rsE t).ss = codeJ t 0 := h2
  unfold shrM
  rw [e, exec_sem t h5, sem_held t _ 0 _ (Nat.zero_le _) h5]
  rfl
end Go.Proofs.Ytbpolcnjojlkjab
