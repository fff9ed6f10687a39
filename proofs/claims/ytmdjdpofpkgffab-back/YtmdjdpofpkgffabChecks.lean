/- Checks: the walk. -/
import Derived.Test.YtmdjdpofpkgffabAgree
namespace Go.Proofs.Ytmdjdpofpkgffab
open Go.ChangeShapes Go.WideShapes Go.ChangeAt Go.RowKit
set_option linter.unusedVariables false
set_option linter.unusedSimpArgs false

theorem scheck_any (t : ByteArray) (w : World) (hs : t.size ≤ 1000000000000000) : Calls Try.prog 78 #[.string t] w fun e w' => e = .returned (.tuple #[.int .i64 (parE t), .int .i64 (parP t)]) ∧ Below w.heap.size w w' := by
  go_enter Try.func78, Try.ntmps78
  go_wp2_with fail
  refine (parse_any t _ hs).mono ?_
  rintro e w1 ⟨vs, rfl, _, _, hb⟩
  have HB := hide hb
  clear hb
  generalize hpe : parE t = pe at *
  generalize hpp : parP t = pp at *
  have HG := hide (And.intro hpe hpp)
  clear hpe hpp
  go_wp2_with fail
  go_ret2
  exact ⟨by rw [(unhide HG).1, (unhide HG).2]; rfl, unhide HB⟩

set_option maxHeartbeats 1000000 in
theorem checks_walk (t : ByteArray) (w : World) (hs : t.size ≤ 140737488351232) :
    Calls Try.prog 75 #[.string t] w fun e w' => e = .returned (.bool true) ∧ Below w.heap.size w w' := by
  have hp := par_check t
  go_enter Try.func75, Try.ntmps75
  go_wp2_with fail
  refine (scheck_any t _ (by omega)).mono ?_
  rintro e w1 ⟨rfl, hb⟩
  rw [hp.1, hp.2]
  have HB := hide hb
  clear hb hp
  go_wp2_with fail
  refine (rcheck_any t _ (by omega)).mono ?_
  rintro e w2 ⟨rfl, n, rfl⟩
  generalize checkE t = ce
  generalize checkP t = cp
  have k1 : (ce == ce) = true := by simp
  have k2 : (cp == cp) = true := by simp
  go_wp2
  go_ret
  exact ⟨rfl, below_drewN (unhide HB) n⟩
end Go.Proofs.Ytmdjdpofpkgffab
