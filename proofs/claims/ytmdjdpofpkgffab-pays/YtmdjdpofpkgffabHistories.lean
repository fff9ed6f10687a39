/- Histories: Charges, Pays, Undoes: the walks. -/
import Derived.Test.YtmdjdpofpkgffabShown
namespace Go.Proofs.Ytmdjdpofpkgffab
open Go.ChangeShapes Go.WideShapes Go.ChangeAt Go.RowKit
open Split
set_option linter.unusedVariables false
set_option linter.unusedSimpArgs false

set_option maxHeartbeats 1000000 in
theorem charges_walk (a : Option Addr) (len cap : Nat) (os : List OpM) (w : World) (h : Ops w a len os) (hlen : len * 80 ≤ 140737488351232) :
    Calls Try.prog 5 #[.slice a len cap] w fun e w' => e = .returned (.bool true) ∧ Below w.heap.size w w' := by
  have HO := hide h
  clear h
  go_enter Try.func5, Try.ntmps5
  go_wp2_with fail
  refine (shown_any a len cap os _ (unhide HO) hlen).mono ?_
  rintro e w1 ⟨g, c, rfl, h1, b1⟩
  have H1 := hide h1
  have B1 := hide b1
  clear h1 b1
  go_wp2_with fail
  refine (upTo_any _ _ _ _ 2 4 _ (unhide H1) (by omega) (by omega) (by omega)).mono ?_
  rintro e w2 ⟨rfl, b2⟩
  have B2 := hide (below_step (unhide B1) b2)
  clear b2
  go_wp2
  go_ret
  exact ⟨rfl, unhide B2⟩

set_option maxHeartbeats 1000000 in
theorem pays_walk (a : Option Addr) (len cap : Nat) (os : List OpM) (w : World) (h : Ops w a len os) (hlen : len * 80 ≤ 140737488351232) :
    Calls Try.prog 6 #[.slice a len cap] w fun e w' => e = .returned (.bool true) ∧ Below w.heap.size w w' := by
  have HO := hide h
  clear h
  go_enter Try.func6, Try.ntmps6
  go_wp2_with fail
  refine (shown_any a len cap os _ (unhide HO) hlen).mono ?_
  rintro e w1 ⟨g, c, rfl, h1, b1⟩
  have H1 := hide h1
  have B1 := hide b1
  clear h1 b1
  go_wp2_with fail
  refine (upTo_any _ _ _ _ 5 5 _ (unhide H1) (by omega) (by omega) (by omega)).mono ?_
  rintro e w2 ⟨rfl, b2⟩
  have H2 := hide ((unhide H1).below b2)
  have B2 := hide (below_step (unhide B1) b2)
  clear b2
  go_wp2_with fail
  refine (upTo_any _ _ _ _ 2 2 _ (unhide H2) (by omega) (by omega) (by omega)).mono ?_
  rintro e w3 ⟨rfl, b3⟩
  have B3 := hide (below_step (unhide B2) b3)
  clear b3
  go_wp2
  go_ret
  exact ⟨rfl, unhide B3⟩

set_option maxHeartbeats 1000000 in
theorem undoes_walk (a : Option Addr) (len cap : Nat) (os : List OpM) (w : World) (h : Ops w a len os) (hlen : len * 80 ≤ 140737488351232) :
    Calls Try.prog 7 #[.slice a len cap] w fun e w' => e = .returned (.bool true) ∧ Below w.heap.size w w' := by
  have HO := hide h
  clear h
  go_enter Try.func7, Try.ntmps7
  go_wp2_with fail
  refine (shown_any a len cap os _ (unhide HO) hlen).mono ?_
  rintro e w1 ⟨g, c, rfl, h1, b1⟩
  have H1 := hide h1
  have B1 := hide b1
  clear h1 b1
  go_wp2_with fail
  refine (upTo_any _ _ _ _ 6 6 _ (unhide H1) (by omega) (by omega) (by omega)).mono ?_
  rintro e w2 ⟨rfl, b2⟩
  have H2 := hide ((unhide H1).below b2)
  have B2 := hide (below_step (unhide B1) b2)
  clear b2
  go_wp2_with fail
  refine (upTo_any _ _ _ _ 2 2 _ (unhide H2) (by omega) (by omega) (by omega)).mono ?_
  rintro e w3 ⟨rfl, b3⟩
  have B3 := hide (below_step (unhide B2) b3)
  clear b3
  go_wp2
  go_ret
  exact ⟨rfl, unhide B3⟩
end Go.Proofs.Ytmdjdpofpkgffab
