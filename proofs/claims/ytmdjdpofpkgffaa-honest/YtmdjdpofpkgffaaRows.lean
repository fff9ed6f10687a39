/-
  No cell of these rows narrows 'for every input' (looked for: loops, veiled, ifaces, maps, wideKeys, modest, calm, conditions, laid).
  DERIVED. THE GIVEN ROWS OF THIS SEAT. 12 by the template 'for every input the law returns true; each argument reads behind the call as it read before'; 0 by the template 'total and deterministic' (their statements: YtmdjdpofpkgffaaTotals.lean).
  GIVEN WITH THE SEED: the statements are not yours to turn. If you find one false, say at which input.
  Laid BY PROGRAM, IN A SANDBOX (cutbox-rows.mjs): the forced cells as the released guide's own fill.sh prints them over the translation 501db1a73c5ed5b0… (all of the seat's roots in one cut). By AI agents, Wed Nov 11 2026. No macro, syntax, notation, axiom, sorry.
-/
import Derived.Test.YtmdjdpofpkgffaaChecked
import GoSem.Claim
import GoSem.ClaimJoined
import GoSem.ClaimMapViews
import Derived.JoinedTies
import Derived.KernelRfl
namespace Go.Proofs.Ytmdjdpofpkgffaa
/- THE CELL 'sum', in the pinned program and in every row, IS THE sha256 OF THE DUMP (.gsa) THAT YtmdjdpofpkgffaaProg.lean LOADS. Nothing in Lean hashes anything: it is a label: what it is worth is what the hold of that sum in a sandbox is worth. -/
noncomputable def Try.pinned : Pinned := { name := "ytmdjdpofpkgffaa", sum := "501db1a73c5ed5b0d6a5277814c5b679ff6ebc2a3233e9745696199b977271c7", checked := Try.checked }
namespace Rows
def none {H : Type} : Left H := { results := [], args := [] }

/-- 'splitlaw.Checks': WHATEVER THE INPUT: true; the input reads as it did. -/
def checksSpec : ChangeSpec := { name := "checks", fn := fun _ => fun
  | [d] => { results := [.lit (.bool true)], args := [d] }
  | _ => none }
def checksRow : OpenClaim := { program := "ytmdjdpofpkgffaa", sum := "501db1a73c5ed5b0d6a5277814c5b679ff6ebc2a3233e9745696199b977271c7", func := "split/splitlaw.Checks", spec := "checks", recurses := true, apart := false }
def ChecksSaid : Prop := checksRow.holds Try.pinned (OpenSpec.ofChange checksSpec)

/-- ITS FALSE NEIGHBOUR: 'it returns false'. Refute it at one input. -/
def checksWrong : ChangeSpec := { name := "checks", fn := fun _ => fun
  | [d] => { results := [.lit (.bool false)], args := [d] }
  | _ => none }
def ChecksWrongFalsely : Prop := checksRow.holds Try.pinned (OpenSpec.ofChange checksWrong)

/-- 'splitlaw.Shares': WHATEVER THE INPUT: true; the input reads as it did. -/
def sharesSpec : ChangeSpec := { name := "shares", fn := fun _ => fun
  | [d1, d2, d3] => { results := [.lit (.bool true)], args := [d1, d2, d3] }
  | _ => none }
def sharesRow : OpenClaim := { program := "ytmdjdpofpkgffaa", sum := "501db1a73c5ed5b0d6a5277814c5b679ff6ebc2a3233e9745696199b977271c7", func := "split/splitlaw.Shares", spec := "shares", recurses := true, apart := false }
def SharesSaid : Prop := sharesRow.holds Try.pinned (OpenSpec.ofChange sharesSpec)

/-- ITS FALSE NEIGHBOUR: 'it returns false'. Refute it at one input. -/
def sharesWrong : ChangeSpec := { name := "shares", fn := fun _ => fun
  | [d1, d2, d3] => { results := [.lit (.bool false)], args := [d1, d2, d3] }
  | _ => none }
def SharesWrongFalsely : Prop := sharesRow.holds Try.pinned (OpenSpec.ofChange sharesWrong)

/-- 'splitlaw.Conserves': WHATEVER THE INPUT: true; the input reads as it did. -/
def conservesSpec : ChangeSpec := { name := "conserves", fn := fun _ => fun
  | [d1, d2, d3] => { results := [.lit (.bool true)], args := [d1, d2, d3] }
  | _ => none }
def conservesRow : OpenClaim := { program := "ytmdjdpofpkgffaa", sum := "501db1a73c5ed5b0d6a5277814c5b679ff6ebc2a3233e9745696199b977271c7", func := "split/splitlaw.Conserves", spec := "conserves", recurses := true, apart := false }
def ConservesSaid : Prop := conservesRow.holds Try.pinned (OpenSpec.ofChange conservesSpec)

/-- ITS FALSE NEIGHBOUR: 'it returns false'. Refute it at one input. -/
def conservesWrong : ChangeSpec := { name := "conserves", fn := fun _ => fun
  | [d1, d2, d3] => { results := [.lit (.bool false)], args := [d1, d2, d3] }
  | _ => none }
def ConservesWrongFalsely : Prop := conservesRow.holds Try.pinned (OpenSpec.ofChange conservesWrong)

/-- 'splitlaw.Nothing': WHATEVER THE INPUT: true; the input reads as it did. -/
def nothingSpec : ChangeSpec := { name := "nothing", fn := fun _ => fun
  | [d1, d2] => { results := [.lit (.bool true)], args := [d1, d2] }
  | _ => none }
def nothingRow : OpenClaim := { program := "ytmdjdpofpkgffaa", sum := "501db1a73c5ed5b0d6a5277814c5b679ff6ebc2a3233e9745696199b977271c7", func := "split/splitlaw.Nothing", spec := "nothing", recurses := true, apart := false }
def NothingSaid : Prop := nothingRow.holds Try.pinned (OpenSpec.ofChange nothingSpec)

/-- ITS FALSE NEIGHBOUR: 'it returns false'. Refute it at one input. -/
def nothingWrong : ChangeSpec := { name := "nothing", fn := fun _ => fun
  | [d1, d2] => { results := [.lit (.bool false)], args := [d1, d2] }
  | _ => none }
def NothingWrongFalsely : Prop := nothingRow.holds Try.pinned (OpenSpec.ofChange nothingWrong)

/-- 'splitlaw.Single': WHATEVER THE INPUT: true; the input reads as it did. -/
def singleSpec : ChangeSpec := { name := "single", fn := fun _ => fun
  | [d1, d2, d3, d4] => { results := [.lit (.bool true)], args := [d1, d2, d3, d4] }
  | _ => none }
def singleRow : OpenClaim := { program := "ytmdjdpofpkgffaa", sum := "501db1a73c5ed5b0d6a5277814c5b679ff6ebc2a3233e9745696199b977271c7", func := "split/splitlaw.Single", spec := "single", recurses := true, apart := false }
def SingleSaid : Prop := singleRow.holds Try.pinned (OpenSpec.ofChange singleSpec)

/-- ITS FALSE NEIGHBOUR: 'it returns false'. Refute it at one input. -/
def singleWrong : ChangeSpec := { name := "single", fn := fun _ => fun
  | [d1, d2, d3, d4] => { results := [.lit (.bool false)], args := [d1, d2, d3, d4] }
  | _ => none }
def SingleWrongFalsely : Prop := singleRow.holds Try.pinned (OpenSpec.ofChange singleWrong)

/-- 'splitlaw.Fair': WHATEVER THE INPUT: true; the input reads as it did. -/
def fairSpec : ChangeSpec := { name := "fair", fn := fun _ => fun
  | [d1, d2, d3] => { results := [.lit (.bool true)], args := [d1, d2, d3] }
  | _ => none }
def fairRow : OpenClaim := { program := "ytmdjdpofpkgffaa", sum := "501db1a73c5ed5b0d6a5277814c5b679ff6ebc2a3233e9745696199b977271c7", func := "split/splitlaw.Fair", spec := "fair", recurses := true, apart := false }
def FairSaid : Prop := fairRow.holds Try.pinned (OpenSpec.ofChange fairSpec)

/-- ITS FALSE NEIGHBOUR: 'it returns false'. Refute it at one input. -/
def fairWrong : ChangeSpec := { name := "fair", fn := fun _ => fun
  | [d1, d2, d3] => { results := [.lit (.bool false)], args := [d1, d2, d3] }
  | _ => none }
def FairWrongFalsely : Prop := fairRow.holds Try.pinned (OpenSpec.ofChange fairWrong)

/-- 'splitlaw.Then': WHATEVER THE INPUT: true; the input reads as it did. -/
def thenSpec : ChangeSpec := { name := "then", fn := fun _ => fun
  | [d1, d2, d3, d4] => { results := [.lit (.bool true)], args := [d1, d2, d3, d4] }
  | _ => none }
def thenRow : OpenClaim := { program := "ytmdjdpofpkgffaa", sum := "501db1a73c5ed5b0d6a5277814c5b679ff6ebc2a3233e9745696199b977271c7", func := "split/splitlaw.Then", spec := "then", recurses := true, apart := false }
def ThenSaid : Prop := thenRow.holds Try.pinned (OpenSpec.ofChange thenSpec)

/-- ITS FALSE NEIGHBOUR: 'it returns false'. Refute it at one input. -/
def thenWrong : ChangeSpec := { name := "then", fn := fun _ => fun
  | [d1, d2, d3, d4] => { results := [.lit (.bool false)], args := [d1, d2, d3, d4] }
  | _ => none }
def ThenWrongFalsely : Prop := thenRow.holds Try.pinned (OpenSpec.ofChange thenWrong)

/-- 'splitlaw.Part': WHATEVER THE INPUT: true; the input reads as it did. -/
def partSpec : ChangeSpec := { name := "part", fn := fun _ => fun
  | [d1, d2, d3, d4] => { results := [.lit (.bool true)], args := [d1, d2, d3, d4] }
  | _ => none }
def partRow : OpenClaim := { program := "ytmdjdpofpkgffaa", sum := "501db1a73c5ed5b0d6a5277814c5b679ff6ebc2a3233e9745696199b977271c7", func := "split/splitlaw.Part", spec := "part", recurses := true, apart := false }
def PartSaid : Prop := partRow.holds Try.pinned (OpenSpec.ofChange partSpec)

/-- ITS FALSE NEIGHBOUR: 'it returns false'. Refute it at one input. -/
def partWrong : ChangeSpec := { name := "part", fn := fun _ => fun
  | [d1, d2, d3, d4] => { results := [.lit (.bool false)], args := [d1, d2, d3, d4] }
  | _ => none }
def PartWrongFalsely : Prop := partRow.holds Try.pinned (OpenSpec.ofChange partWrong)

/-- 'splitlaw.Choice': WHATEVER THE INPUT: true; the input reads as it did. -/
def choiceSpec : ChangeSpec := { name := "choice", fn := fun _ => fun
  | [d1, d2, d3, d4, d5, d6] => { results := [.lit (.bool true)], args := [d1, d2, d3, d4, d5, d6] }
  | _ => none }
def choiceRow : OpenClaim := { program := "ytmdjdpofpkgffaa", sum := "501db1a73c5ed5b0d6a5277814c5b679ff6ebc2a3233e9745696199b977271c7", func := "split/splitlaw.Choice", spec := "choice", recurses := true, apart := false }
def ChoiceSaid : Prop := choiceRow.holds Try.pinned (OpenSpec.ofChange choiceSpec)

/-- ITS FALSE NEIGHBOUR: 'it returns false'. Refute it at one input. -/
def choiceWrong : ChangeSpec := { name := "choice", fn := fun _ => fun
  | [d1, d2, d3, d4, d5, d6] => { results := [.lit (.bool false)], args := [d1, d2, d3, d4, d5, d6] }
  | _ => none }
def ChoiceWrongFalsely : Prop := choiceRow.holds Try.pinned (OpenSpec.ofChange choiceWrong)

/-- 'splitlaw.Verifies': WHATEVER THE INPUT: true; the input reads as it did. -/
def verifiesSpec : ChangeSpec := { name := "verifies", fn := fun _ => fun
  | [d] => { results := [.lit (.bool true)], args := [d] }
  | _ => none }
def verifiesRow : OpenClaim := { program := "ytmdjdpofpkgffaa", sum := "501db1a73c5ed5b0d6a5277814c5b679ff6ebc2a3233e9745696199b977271c7", func := "split/splitlaw.Verifies", spec := "verifies", apart := false }
def VerifiesSaid : Prop := verifiesRow.holds Try.pinned (OpenSpec.ofChange verifiesSpec)

/-- ITS FALSE NEIGHBOUR: 'it returns false'. Refute it at one input. -/
def verifiesWrong : ChangeSpec := { name := "verifies", fn := fun _ => fun
  | [d] => { results := [.lit (.bool false)], args := [d] }
  | _ => none }
def VerifiesWrongFalsely : Prop := verifiesRow.holds Try.pinned (OpenSpec.ofChange verifiesWrong)

/-- 'splitlaw.Runs': WHATEVER THE INPUT: true; the input reads as it did. -/
def runsSpec : ChangeSpec := { name := "runs", fn := fun _ => fun
  | [d1, d2, d3] => { results := [.lit (.bool true)], args := [d1, d2, d3] }
  | _ => none }
def runsRow : OpenClaim := { program := "ytmdjdpofpkgffaa", sum := "501db1a73c5ed5b0d6a5277814c5b679ff6ebc2a3233e9745696199b977271c7", func := "split/splitlaw.Runs", spec := "runs", apart := false }
def RunsSaid : Prop := runsRow.holds Try.pinned (OpenSpec.ofChange runsSpec)

/-- ITS FALSE NEIGHBOUR: 'it returns false'. Refute it at one input. -/
def runsWrong : ChangeSpec := { name := "runs", fn := fun _ => fun
  | [d1, d2, d3] => { results := [.lit (.bool false)], args := [d1, d2, d3] }
  | _ => none }
def RunsWrongFalsely : Prop := runsRow.holds Try.pinned (OpenSpec.ofChange runsWrong)

/-- 'splitlaw.Honest': WHATEVER THE INPUT: true; the input reads as it did. -/
def honestSpec : ChangeSpec := { name := "honest", fn := fun _ => fun
  | [d1, d2, d3] => { results := [.lit (.bool true)], args := [d1, d2, d3] }
  | _ => none }
def honestRow : OpenClaim := { program := "ytmdjdpofpkgffaa", sum := "501db1a73c5ed5b0d6a5277814c5b679ff6ebc2a3233e9745696199b977271c7", func := "split/splitlaw.Honest", spec := "honest", apart := false }
def HonestSaid : Prop := honestRow.holds Try.pinned (OpenSpec.ofChange honestSpec)

/-- ITS FALSE NEIGHBOUR: 'it returns false'. Refute it at one input. -/
def honestWrong : ChangeSpec := { name := "honest", fn := fun _ => fun
  | [d1, d2, d3] => { results := [.lit (.bool false)], args := [d1, d2, d3] }
  | _ => none }
def HonestWrongFalsely : Prop := honestRow.holds Try.pinned (OpenSpec.ofChange honestWrong)

/- THE SECOND FORM. 'bulk': how many values and letters a reading holds, each counted each time it is reached (what is shared counts as often as it is met; a slice's spare places count too). A statement '..UptoSaid' is the law's where the arguments, and the package variables that the reading takes, are together of bulk at most 1048576: NARROWER than '..Said'. Prove '..Said' where nothing that the law and all that it calls make is longer than what came in: it says more and counts as full. Else prove '..UptoSaid'. A law counts once. -/
mutual
def uptoBulk {H : Type} : DataW H → Nat
  | .lit (.string bytes) => bytes.length + 1
  | .lit _ => 1
  | .nil => 1
  | .ptr d => uptoBulk d + 1
  | .slice elems spare => uptoBulkAll elems + uptoBulkAll spare + 1
  | .agg parts => uptoBulkAll parts + 1
  | .iface _ d => uptoBulk d + 1
  | .map entries => uptoBulkEntries entries + 1
  | .held _ => 1
def uptoBulkAll {H : Type} : List (DataW H) → Nat
  | [] => 0
  | d :: r => uptoBulk d + uptoBulkAll r
def uptoBulkEntries {H : Type} : List (Lit × DataW H) → Nat
  | [] => 0
  | x :: r => uptoBulkEntry x + uptoBulkEntries r
def uptoBulkEntry {H : Type} : Lit × DataW H → Nat
  | (.string bytes, d) => bytes.length + uptoBulk d + 1
  | (_, d) => uptoBulk d + 1
 end
def uptoSmall : (H : Type) → List (DataW H) → Bool := fun _ ds => decide (uptoBulkAll ds ≤ 1048576)
def OpenSpec.upto (s : _root_.Go.ChangeSpec) : _root_.Go.OpenSpec := { _root_.Go.OpenSpec.ofChange s with cond := some uptoSmall }

/-- 'splitlaw.Checks', WHERE WHAT IT READS IS OF BULK AT MOST 1048576: true; the input reads as it did. -/
def checksUptoRow : OpenClaim := { program := "ytmdjdpofpkgffaa", sum := "501db1a73c5ed5b0d6a5277814c5b679ff6ebc2a3233e9745696199b977271c7", func := "split/splitlaw.Checks", spec := "checks", recurses := true, apart := false, narrowed := true }
def ChecksUptoSaid : Prop := checksUptoRow.holds Try.pinned (OpenSpec.upto checksSpec)

/-- 'splitlaw.Shares', WHERE WHAT IT READS IS OF BULK AT MOST 1048576: true; the input reads as it did. -/
def sharesUptoRow : OpenClaim := { program := "ytmdjdpofpkgffaa", sum := "501db1a73c5ed5b0d6a5277814c5b679ff6ebc2a3233e9745696199b977271c7", func := "split/splitlaw.Shares", spec := "shares", recurses := true, apart := false, narrowed := true }
def SharesUptoSaid : Prop := sharesUptoRow.holds Try.pinned (OpenSpec.upto sharesSpec)

/-- 'splitlaw.Conserves', WHERE WHAT IT READS IS OF BULK AT MOST 1048576: true; the input reads as it did. -/
def conservesUptoRow : OpenClaim := { program := "ytmdjdpofpkgffaa", sum := "501db1a73c5ed5b0d6a5277814c5b679ff6ebc2a3233e9745696199b977271c7", func := "split/splitlaw.Conserves", spec := "conserves", recurses := true, apart := false, narrowed := true }
def ConservesUptoSaid : Prop := conservesUptoRow.holds Try.pinned (OpenSpec.upto conservesSpec)

/-- 'splitlaw.Nothing', WHERE WHAT IT READS IS OF BULK AT MOST 1048576: true; the input reads as it did. -/
def nothingUptoRow : OpenClaim := { program := "ytmdjdpofpkgffaa", sum := "501db1a73c5ed5b0d6a5277814c5b679ff6ebc2a3233e9745696199b977271c7", func := "split/splitlaw.Nothing", spec := "nothing", recurses := true, apart := false, narrowed := true }
def NothingUptoSaid : Prop := nothingUptoRow.holds Try.pinned (OpenSpec.upto nothingSpec)

/-- 'splitlaw.Single', WHERE WHAT IT READS IS OF BULK AT MOST 1048576: true; the input reads as it did. -/
def singleUptoRow : OpenClaim := { program := "ytmdjdpofpkgffaa", sum := "501db1a73c5ed5b0d6a5277814c5b679ff6ebc2a3233e9745696199b977271c7", func := "split/splitlaw.Single", spec := "single", recurses := true, apart := false, narrowed := true }
def SingleUptoSaid : Prop := singleUptoRow.holds Try.pinned (OpenSpec.upto singleSpec)

/-- 'splitlaw.Fair', WHERE WHAT IT READS IS OF BULK AT MOST 1048576: true; the input reads as it did. -/
def fairUptoRow : OpenClaim := { program := "ytmdjdpofpkgffaa", sum := "501db1a73c5ed5b0d6a5277814c5b679ff6ebc2a3233e9745696199b977271c7", func := "split/splitlaw.Fair", spec := "fair", recurses := true, apart := false, narrowed := true }
def FairUptoSaid : Prop := fairUptoRow.holds Try.pinned (OpenSpec.upto fairSpec)

/-- 'splitlaw.Then', WHERE WHAT IT READS IS OF BULK AT MOST 1048576: true; the input reads as it did. -/
def thenUptoRow : OpenClaim := { program := "ytmdjdpofpkgffaa", sum := "501db1a73c5ed5b0d6a5277814c5b679ff6ebc2a3233e9745696199b977271c7", func := "split/splitlaw.Then", spec := "then", recurses := true, apart := false, narrowed := true }
def ThenUptoSaid : Prop := thenUptoRow.holds Try.pinned (OpenSpec.upto thenSpec)

/-- 'splitlaw.Part', WHERE WHAT IT READS IS OF BULK AT MOST 1048576: true; the input reads as it did. -/
def partUptoRow : OpenClaim := { program := "ytmdjdpofpkgffaa", sum := "501db1a73c5ed5b0d6a5277814c5b679ff6ebc2a3233e9745696199b977271c7", func := "split/splitlaw.Part", spec := "part", recurses := true, apart := false, narrowed := true }
def PartUptoSaid : Prop := partUptoRow.holds Try.pinned (OpenSpec.upto partSpec)

/-- 'splitlaw.Choice', WHERE WHAT IT READS IS OF BULK AT MOST 1048576: true; the input reads as it did. -/
def choiceUptoRow : OpenClaim := { program := "ytmdjdpofpkgffaa", sum := "501db1a73c5ed5b0d6a5277814c5b679ff6ebc2a3233e9745696199b977271c7", func := "split/splitlaw.Choice", spec := "choice", recurses := true, apart := false, narrowed := true }
def ChoiceUptoSaid : Prop := choiceUptoRow.holds Try.pinned (OpenSpec.upto choiceSpec)

/-- 'splitlaw.Verifies', WHERE WHAT IT READS IS OF BULK AT MOST 1048576: true; the input reads as it did. -/
def verifiesUptoRow : OpenClaim := { program := "ytmdjdpofpkgffaa", sum := "501db1a73c5ed5b0d6a5277814c5b679ff6ebc2a3233e9745696199b977271c7", func := "split/splitlaw.Verifies", spec := "verifies", apart := false, narrowed := true }
def VerifiesUptoSaid : Prop := verifiesUptoRow.holds Try.pinned (OpenSpec.upto verifiesSpec)

/-- 'splitlaw.Runs', WHERE WHAT IT READS IS OF BULK AT MOST 1048576: true; the input reads as it did. -/
def runsUptoRow : OpenClaim := { program := "ytmdjdpofpkgffaa", sum := "501db1a73c5ed5b0d6a5277814c5b679ff6ebc2a3233e9745696199b977271c7", func := "split/splitlaw.Runs", spec := "runs", apart := false, narrowed := true }
def RunsUptoSaid : Prop := runsUptoRow.holds Try.pinned (OpenSpec.upto runsSpec)

/-- 'splitlaw.Honest', WHERE WHAT IT READS IS OF BULK AT MOST 1048576: true; the input reads as it did. -/
def honestUptoRow : OpenClaim := { program := "ytmdjdpofpkgffaa", sum := "501db1a73c5ed5b0d6a5277814c5b679ff6ebc2a3233e9745696199b977271c7", func := "split/splitlaw.Honest", spec := "honest", apart := false, narrowed := true }
def HonestUptoSaid : Prop := honestUptoRow.holds Try.pinned (OpenSpec.upto honestSpec)

end Rows
end Go.Proofs.Ytmdjdpofpkgffaa
