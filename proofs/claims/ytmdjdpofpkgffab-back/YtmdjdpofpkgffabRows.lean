/-
  No cell of these rows narrows 'for every input' (looked for: loops, veiled, ifaces, maps, wideKeys, modest, calm, conditions, laid).
  DERIVED. THE GIVEN ROWS OF THIS SEAT. 8 by the template 'for every input the law returns true; each argument reads behind the call as it read before'; 0 by the template 'total and deterministic' (their statements: YtmdjdpofpkgffabTotals.lean).
  GIVEN WITH THE SEED: the statements are not yours to turn. If you find one false, say at which input.
  Laid BY PROGRAM, IN A SANDBOX (cutbox-rows.mjs): the forced cells as the released guide's own fill.sh prints them over the translation 4f3026cb12d108d0… (all of the seat's roots in one cut). By AI agents, Wed Nov 11 2026. No macro, syntax, notation, axiom, sorry.
-/
import Derived.Test.YtmdjdpofpkgffabChecked
import GoSem.Claim
import GoSem.ClaimJoined
import GoSem.ClaimMapViews
import Derived.JoinedTies
import Derived.KernelRfl
namespace Go.Proofs.Ytmdjdpofpkgffab
/- THE CELL 'sum', in the pinned program and in every row, IS THE sha256 OF THE DUMP (.gsa) THAT YtmdjdpofpkgffabProg.lean LOADS. Nothing in Lean hashes anything: it is a label: what it is worth is what the hold of that sum in a sandbox is worth. -/
noncomputable def Try.pinned : Pinned := { name := "ytmdjdpofpkgffab", sum := "4f3026cb12d108d0528025e7c9105b9ef61ac4d18ce524768c789a9304ef5ffa", checked := Try.checked }
namespace Rows
def none {H : Type} : Left H := { results := [], args := [] }

/-- 'splitlaw.Compiles': WHATEVER THE INPUT: true; the input reads as it did. -/
def compilesSpec : ChangeSpec := { name := "compiles", fn := fun _ => fun
  | [d1, d2, d3] => { results := [.lit (.bool true)], args := [d1, d2, d3] }
  | _ => none }
def compilesRow : OpenClaim := { program := "ytmdjdpofpkgffab", sum := "4f3026cb12d108d0528025e7c9105b9ef61ac4d18ce524768c789a9304ef5ffa", func := "split/splitlaw.Compiles", spec := "compiles", recurses := true, apart := false }
def CompilesSaid : Prop := compilesRow.holds Try.pinned (OpenSpec.ofChange compilesSpec)

/-- ITS FALSE NEIGHBOUR: 'it returns false'. Refute it at one input. -/
def compilesWrong : ChangeSpec := { name := "compiles", fn := fun _ => fun
  | [d1, d2, d3] => { results := [.lit (.bool false)], args := [d1, d2, d3] }
  | _ => none }
def CompilesWrongFalsely : Prop := compilesRow.holds Try.pinned (OpenSpec.ofChange compilesWrong)

/-- 'splitlaw.Alike': WHATEVER THE INPUT: true; the input reads as it did. -/
def alikeSpec : ChangeSpec := { name := "alike", fn := fun _ => fun
  | [d1, d2, d3] => { results := [.lit (.bool true)], args := [d1, d2, d3] }
  | _ => none }
def alikeRow : OpenClaim := { program := "ytmdjdpofpkgffab", sum := "4f3026cb12d108d0528025e7c9105b9ef61ac4d18ce524768c789a9304ef5ffa", func := "split/splitlaw.Alike", spec := "alike", recurses := true, apart := false }
def AlikeSaid : Prop := alikeRow.holds Try.pinned (OpenSpec.ofChange alikeSpec)

/-- ITS FALSE NEIGHBOUR: 'it returns false'. Refute it at one input. -/
def alikeWrong : ChangeSpec := { name := "alike", fn := fun _ => fun
  | [d1, d2, d3] => { results := [.lit (.bool false)], args := [d1, d2, d3] }
  | _ => none }
def AlikeWrongFalsely : Prop := alikeRow.holds Try.pinned (OpenSpec.ofChange alikeWrong)

/-- 'splitlaw.Charges': WHATEVER THE INPUT: true; the input reads as it did. -/
def chargesSpec : ChangeSpec := { name := "charges", fn := fun _ => fun
  | [d] => { results := [.lit (.bool true)], args := [d] }
  | _ => none }
def chargesRow : OpenClaim := { program := "ytmdjdpofpkgffab", sum := "4f3026cb12d108d0528025e7c9105b9ef61ac4d18ce524768c789a9304ef5ffa", func := "split/splitlaw.Charges", spec := "charges", recurses := true, apart := false }
def ChargesSaid : Prop := chargesRow.holds Try.pinned (OpenSpec.ofChange chargesSpec)

/-- ITS FALSE NEIGHBOUR: 'it returns false'. Refute it at one input. -/
def chargesWrong : ChangeSpec := { name := "charges", fn := fun _ => fun
  | [d] => { results := [.lit (.bool false)], args := [d] }
  | _ => none }
def ChargesWrongFalsely : Prop := chargesRow.holds Try.pinned (OpenSpec.ofChange chargesWrong)

/-- 'splitlaw.Pays': WHATEVER THE INPUT: true; the input reads as it did. -/
def paysSpec : ChangeSpec := { name := "pays", fn := fun _ => fun
  | [d] => { results := [.lit (.bool true)], args := [d] }
  | _ => none }
def paysRow : OpenClaim := { program := "ytmdjdpofpkgffab", sum := "4f3026cb12d108d0528025e7c9105b9ef61ac4d18ce524768c789a9304ef5ffa", func := "split/splitlaw.Pays", spec := "pays", recurses := true, apart := false }
def PaysSaid : Prop := paysRow.holds Try.pinned (OpenSpec.ofChange paysSpec)

/-- ITS FALSE NEIGHBOUR: 'it returns false'. Refute it at one input. -/
def paysWrong : ChangeSpec := { name := "pays", fn := fun _ => fun
  | [d] => { results := [.lit (.bool false)], args := [d] }
  | _ => none }
def PaysWrongFalsely : Prop := paysRow.holds Try.pinned (OpenSpec.ofChange paysWrong)

/-- 'splitlaw.Undoes': WHATEVER THE INPUT: true; the input reads as it did. -/
def undoesSpec : ChangeSpec := { name := "undoes", fn := fun _ => fun
  | [d] => { results := [.lit (.bool true)], args := [d] }
  | _ => none }
def undoesRow : OpenClaim := { program := "ytmdjdpofpkgffab", sum := "4f3026cb12d108d0528025e7c9105b9ef61ac4d18ce524768c789a9304ef5ffa", func := "split/splitlaw.Undoes", spec := "undoes", recurses := true, apart := false }
def UndoesSaid : Prop := undoesRow.holds Try.pinned (OpenSpec.ofChange undoesSpec)

/-- ITS FALSE NEIGHBOUR: 'it returns false'. Refute it at one input. -/
def undoesWrong : ChangeSpec := { name := "undoes", fn := fun _ => fun
  | [d] => { results := [.lit (.bool false)], args := [d] }
  | _ => none }
def UndoesWrongFalsely : Prop := undoesRow.holds Try.pinned (OpenSpec.ofChange undoesWrong)

/-- 'splitlaw.Back': WHATEVER THE INPUT: true; the input reads as it did. -/
def backSpec : ChangeSpec := { name := "back", fn := fun _ => fun
  | [d1, d2] => { results := [.lit (.bool true)], args := [d1, d2] }
  | _ => none }
def backRow : OpenClaim := { program := "ytmdjdpofpkgffab", sum := "4f3026cb12d108d0528025e7c9105b9ef61ac4d18ce524768c789a9304ef5ffa", func := "split/splitlaw.Back", spec := "back", apart := false }
def BackSaid : Prop := backRow.holds Try.pinned (OpenSpec.ofChange backSpec)

/-- ITS FALSE NEIGHBOUR: 'it returns false'. Refute it at one input. -/
def backWrong : ChangeSpec := { name := "back", fn := fun _ => fun
  | [d1, d2] => { results := [.lit (.bool false)], args := [d1, d2] }
  | _ => none }
def BackWrongFalsely : Prop := backRow.holds Try.pinned (OpenSpec.ofChange backWrong)

/-- 'splitlaw.Own': WHATEVER THE INPUT: true; the input reads as it did. -/
def ownSpec : ChangeSpec := { name := "own", fn := fun _ => fun
  | [d1, d2, d3, d4] => { results := [.lit (.bool true)], args := [d1, d2, d3, d4] }
  | _ => none }
def ownRow : OpenClaim := { program := "ytmdjdpofpkgffab", sum := "4f3026cb12d108d0528025e7c9105b9ef61ac4d18ce524768c789a9304ef5ffa", func := "split/splitlaw.Own", spec := "own", recurses := true, apart := false }
def OwnSaid : Prop := ownRow.holds Try.pinned (OpenSpec.ofChange ownSpec)

/-- ITS FALSE NEIGHBOUR: 'it returns false'. Refute it at one input. -/
def ownWrong : ChangeSpec := { name := "own", fn := fun _ => fun
  | [d1, d2, d3, d4] => { results := [.lit (.bool false)], args := [d1, d2, d3, d4] }
  | _ => none }
def OwnWrongFalsely : Prop := ownRow.holds Try.pinned (OpenSpec.ofChange ownWrong)

/-- 'splitlaw.All': WHATEVER THE INPUT: true; the input reads as it did. -/
def allSpec : ChangeSpec := { name := "all", fn := fun _ => fun
  | [d] => { results := [.lit (.bool true)], args := [d] }
  | _ => none }
def allRow : OpenClaim := { program := "ytmdjdpofpkgffab", sum := "4f3026cb12d108d0528025e7c9105b9ef61ac4d18ce524768c789a9304ef5ffa", func := "split/splitlaw.All", spec := "all", recurses := true, apart := false }
def AllSaid : Prop := allRow.holds Try.pinned (OpenSpec.ofChange allSpec)

/-- ITS FALSE NEIGHBOUR: 'it returns false'. Refute it at one input. -/
def allWrong : ChangeSpec := { name := "all", fn := fun _ => fun
  | [d] => { results := [.lit (.bool false)], args := [d] }
  | _ => none }
def AllWrongFalsely : Prop := allRow.holds Try.pinned (OpenSpec.ofChange allWrong)

/- THE SECOND FORM. 'bulk': how many values and letters a reading holds, each counted each time it is reached (what is shared counts as often as it is met; a slice's spare places count too). A statement '..UptoSaid' is the law's where the arguments, and the package variables that the reading takes, are together of bulk at most 1048576: NARROWER than '..Said'. Prove '..Said' where nothing that the law and all that it calls make is longer than what came in: it says more and counts as full. Else prove '..UptoSaid'. A law counts once. -/
mutual
def uptoBulk {H : Type} : DataW H → Nat
  | .lit (.string bytes) => bytes.length + 1
  | .lit _ => 1
  | .nil => 1
  | .ptr d => uptoBulk d + 1
  | .slice elems spare => uptoBulkAll elems + uptoBulkAll spare + 1
  | .agg parts => uptoBulkAll parts + 1
  | .iface _ d => uptoBulk d + 1
  | .map entries => uptoBulkEntries entries + 1
  | .held _ => 1
def uptoBulkAll {H : Type} : List (DataW H) → Nat
  | [] => 0
  | d :: r => uptoBulk d + uptoBulkAll r
def uptoBulkEntries {H : Type} : List (Lit × DataW H) → Nat
  | [] => 0
  | x :: r => uptoBulkEntry x + uptoBulkEntries r
def uptoBulkEntry {H : Type} : Lit × DataW H → Nat
  | (.string bytes, d) => bytes.length + uptoBulk d + 1
  | (_, d) => uptoBulk d + 1
 end
def uptoSmall : (H : Type) → List (DataW H) → Bool := fun _ ds => decide (uptoBulkAll ds ≤ 1048576)
def OpenSpec.upto (s : _root_.Go.ChangeSpec) : _root_.Go.OpenSpec := { _root_.Go.OpenSpec.ofChange s with cond := some uptoSmall }

/-- 'splitlaw.Compiles', WHERE WHAT IT READS IS OF BULK AT MOST 1048576: true; the input reads as it did. -/
def compilesUptoRow : OpenClaim := { program := "ytmdjdpofpkgffab", sum := "4f3026cb12d108d0528025e7c9105b9ef61ac4d18ce524768c789a9304ef5ffa", func := "split/splitlaw.Compiles", spec := "compiles", recurses := true, apart := false, narrowed := true }
def CompilesUptoSaid : Prop := compilesUptoRow.holds Try.pinned (OpenSpec.upto compilesSpec)

/-- 'splitlaw.Alike', WHERE WHAT IT READS IS OF BULK AT MOST 1048576: true; the input reads as it did. -/
def alikeUptoRow : OpenClaim := { program := "ytmdjdpofpkgffab", sum := "4f3026cb12d108d0528025e7c9105b9ef61ac4d18ce524768c789a9304ef5ffa", func := "split/splitlaw.Alike", spec := "alike", recurses := true, apart := false, narrowed := true }
def AlikeUptoSaid : Prop := alikeUptoRow.holds Try.pinned (OpenSpec.upto alikeSpec)

/-- 'splitlaw.Charges', WHERE WHAT IT READS IS OF BULK AT MOST 1048576: true; the input reads as it did. -/
def chargesUptoRow : OpenClaim := { program := "ytmdjdpofpkgffab", sum := "4f3026cb12d108d0528025e7c9105b9ef61ac4d18ce524768c789a9304ef5ffa", func := "split/splitlaw.Charges", spec := "charges", recurses := true, apart := false, narrowed := true }
def ChargesUptoSaid : Prop := chargesUptoRow.holds Try.pinned (OpenSpec.upto chargesSpec)

/-- 'splitlaw.Pays', WHERE WHAT IT READS IS OF BULK AT MOST 1048576: true; the input reads as it did. -/
def paysUptoRow : OpenClaim := { program := "ytmdjdpofpkgffab", sum := "4f3026cb12d108d0528025e7c9105b9ef61ac4d18ce524768c789a9304ef5ffa", func := "split/splitlaw.Pays", spec := "pays", recurses := true, apart := false, narrowed := true }
def PaysUptoSaid : Prop := paysUptoRow.holds Try.pinned (OpenSpec.upto paysSpec)

/-- 'splitlaw.Undoes', WHERE WHAT IT READS IS OF BULK AT MOST 1048576: true; the input reads as it did. -/
def undoesUptoRow : OpenClaim := { program := "ytmdjdpofpkgffab", sum := "4f3026cb12d108d0528025e7c9105b9ef61ac4d18ce524768c789a9304ef5ffa", func := "split/splitlaw.Undoes", spec := "undoes", recurses := true, apart := false, narrowed := true }
def UndoesUptoSaid : Prop := undoesUptoRow.holds Try.pinned (OpenSpec.upto undoesSpec)

/-- 'splitlaw.Back', WHERE WHAT IT READS IS OF BULK AT MOST 1048576: true; the input reads as it did. -/
def backUptoRow : OpenClaim := { program := "ytmdjdpofpkgffab", sum := "4f3026cb12d108d0528025e7c9105b9ef61ac4d18ce524768c789a9304ef5ffa", func := "split/splitlaw.Back", spec := "back", apart := false, narrowed := true }
def BackUptoSaid : Prop := backUptoRow.holds Try.pinned (OpenSpec.upto backSpec)

/-- 'splitlaw.Own', WHERE WHAT IT READS IS OF BULK AT MOST 1048576: true; the input reads as it did. -/
def ownUptoRow : OpenClaim := { program := "ytmdjdpofpkgffab", sum := "4f3026cb12d108d0528025e7c9105b9ef61ac4d18ce524768c789a9304ef5ffa", func := "split/splitlaw.Own", spec := "own", recurses := true, apart := false, narrowed := true }
def OwnUptoSaid : Prop := ownUptoRow.holds Try.pinned (OpenSpec.upto ownSpec)

/-- 'splitlaw.All', WHERE WHAT IT READS IS OF BULK AT MOST 1048576: true; the input reads as it did. -/
def allUptoRow : OpenClaim := { program := "ytmdjdpofpkgffab", sum := "4f3026cb12d108d0528025e7c9105b9ef61ac4d18ce524768c789a9304ef5ffa", func := "split/splitlaw.All", spec := "all", recurses := true, apart := false, narrowed := true }
def AllUptoSaid : Prop := allUptoRow.holds Try.pinned (OpenSpec.upto allSpec)

end Rows
end Go.Proofs.Ytmdjdpofpkgffab
