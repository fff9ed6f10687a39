/- Checks: the walk. -/
import Derived.Test.YtbpolcnjojlkjaaSim
namespace Go.Proofs.Ytbpolcnjojlkjaa
open Go.ChangeShapes Go.WideShapes Go.ChangeAt Go.RowKit
set_option linter.unusedVariables false
set_option linter.unusedSimpArgs false

theorem num_any (x : Int) (w : World) : Calls Try.prog 17 #[.int .i64 x] w fun e w' => e = .returned (.int .i64 x) ∧ w' = w := by
  go_enter Try.func17, Try.ntmps17
  go_wp2
  go_ret
  exact ⟨rfl, rfl⟩

set_option maxHeartbeats 1000000 in
theorem checks_walk (t : ByteArray) (w : World) (hs : t.size ≤ 140737488351232) :
    Calls Try.prog 3 #[.string t] w fun e w' => e = .returned (.bool true) ∧ Below w.heap.size w w' := by
  have hp := par_check t
  go_enter Try.func3, Try.ntmps3
  go_wp2_with fail
  refine (scheck_any t _ (by omega)).mono ?_
  rintro e w1 ⟨rfl, hb⟩
  rw [hp.1, hp.2]
  have HB := hide hb
  clear hb hp
  go_wp2_with fail
  refine (rcheck_any t _ (by omega)).mono ?_
  rintro e w2 ⟨rfl, n, rfl⟩
  generalize checkE t = ce
  generalize checkP t = cp
  have k1 : (ce == ce) = true := by simp
  have k2 : (cp == cp) = true := by simp
  go_wp2
  go_ret
  exact ⟨rfl, below_drewN (unhide HB) n⟩
end Go.Proofs.Ytbpolcnjojlkjaa
