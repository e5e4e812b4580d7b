/-
  No cell of these rows narrows 'for every input' (looked for: loops, veiled, ifaces, maps, wideKeys, modest, calm, conditions, laid).
  DERIVED. THE GIVEN ROWS OF THIS SEAT. 4 by the template 'for every input the law returns true; each argument reads behind the call as it read before'; 0 by the template 'total and deterministic' (their statements: YtpofcnokbmaooaaTotals.lean).
  GIVEN WITH THE SEED: the statements are not yours to turn. If you find one false, say at which input.
  Laid BY PROGRAM, IN A SANDBOX (cutbox-rows.mjs): the forced cells as the released guide's own fill.sh prints them over the translation c4707ab1c48389be… (all of the seat's roots in one cut). By AI agents, Wed Nov 11 2026. No macro, syntax, notation, axiom, sorry.
-/
import Derived.Test.YtpofcnokbmaooaaChecked
import GoSem.Claim
import GoSem.ClaimJoined
import GoSem.ClaimMapViews
import Derived.JoinedTies
import Derived.KernelRfl
namespace Go.Proofs.Ytpofcnokbmaooaa
/- THE CELL 'sum', in the pinned program and in every row, IS THE sha256 OF THE DUMP (.gsa) THAT YtpofcnokbmaooaaProg.lean LOADS. Nothing in Lean hashes anything: it is a label: what it is worth is what the hold of that sum in a sandbox is worth. -/
noncomputable def Try.pinned : Pinned := { name := "ytpofcnokbmaooaa", sum := "c4707ab1c48389be8ce7e38a33a919244a3647b39ec6db356d5329cb47e75f92", checked := Try.checked }
namespace Rows
def none {H : Type} : Left H := { results := [], args := [] }

/-- 'legateelaw11.ViewNexts': WHATEVER THE INPUT: true; the input reads as it did. -/
def viewNextsSpec : ChangeSpec := { name := "viewNexts", fn := fun _ => fun
  | [d1, d2] => { results := [.lit (.bool true)], args := [d1, d2] }
  | _ => none }
def viewNextsRow : OpenClaim := { program := "ytpofcnokbmaooaa", sum := "c4707ab1c48389be8ce7e38a33a919244a3647b39ec6db356d5329cb47e75f92", func := "legatee/legateelaw11.ViewNexts", spec := "viewNexts", unfollowed := true, recurses := true, apart := false }
def ViewNextsSaid : Prop := viewNextsRow.holds Try.pinned (OpenSpec.ofChange viewNextsSpec)

/-- ITS FALSE NEIGHBOUR: 'it returns false'. Refute it at one input. -/
def viewNextsWrong : ChangeSpec := { name := "viewNexts", fn := fun _ => fun
  | [d1, d2] => { results := [.lit (.bool false)], args := [d1, d2] }
  | _ => none }
def ViewNextsWrongFalsely : Prop := viewNextsRow.holds Try.pinned (OpenSpec.ofChange viewNextsWrong)

/-- 'legateelaw11.ViewMajors': WHATEVER THE INPUT: true; the input reads as it did. -/
def viewMajorsSpec : ChangeSpec := { name := "viewMajors", fn := fun _ => fun
  | [d1, d2, d3] => { results := [.lit (.bool true)], args := [d1, d2, d3] }
  | _ => none }
def viewMajorsRow : OpenClaim := { program := "ytpofcnokbmaooaa", sum := "c4707ab1c48389be8ce7e38a33a919244a3647b39ec6db356d5329cb47e75f92", func := "legatee/legateelaw11.ViewMajors", spec := "viewMajors", apart := false }
def ViewMajorsSaid : Prop := viewMajorsRow.holds Try.pinned (OpenSpec.ofChange viewMajorsSpec)

/-- ITS FALSE NEIGHBOUR: 'it returns false'. Refute it at one input. -/
def viewMajorsWrong : ChangeSpec := { name := "viewMajors", fn := fun _ => fun
  | [d1, d2, d3] => { results := [.lit (.bool false)], args := [d1, d2, d3] }
  | _ => none }
def ViewMajorsWrongFalsely : Prop := viewMajorsRow.holds Try.pinned (OpenSpec.ofChange viewMajorsWrong)

/-- 'legateelaw11.ViewHeirs': WHATEVER THE INPUT: true; the input reads as it did. -/
def viewHeirsSpec : ChangeSpec := { name := "viewHeirs", fn := fun _ => fun
  | [d] => { results := [.lit (.bool true)], args := [d] }
  | _ => none }
def viewHeirsRow : OpenClaim := { program := "ytpofcnokbmaooaa", sum := "c4707ab1c48389be8ce7e38a33a919244a3647b39ec6db356d5329cb47e75f92", func := "legatee/legateelaw11.ViewHeirs", spec := "viewHeirs", apart := false }
def ViewHeirsSaid : Prop := viewHeirsRow.holds Try.pinned (OpenSpec.ofChange viewHeirsSpec)

/-- ITS FALSE NEIGHBOUR: 'it returns false'. Refute it at one input. -/
def viewHeirsWrong : ChangeSpec := { name := "viewHeirs", fn := fun _ => fun
  | [d] => { results := [.lit (.bool false)], args := [d] }
  | _ => none }
def ViewHeirsWrongFalsely : Prop := viewHeirsRow.holds Try.pinned (OpenSpec.ofChange viewHeirsWrong)

/-- 'legateelaw11.ViewFew': WHATEVER THE INPUT: true; the input reads as it did. -/
def viewFewSpec : ChangeSpec := { name := "viewFew", fn := fun _ => fun
  | [d] => { results := [.lit (.bool true)], args := [d] }
  | _ => none }
def viewFewRow : OpenClaim := { program := "ytpofcnokbmaooaa", sum := "c4707ab1c48389be8ce7e38a33a919244a3647b39ec6db356d5329cb47e75f92", func := "legatee/legateelaw11.ViewFew", spec := "viewFew", apart := false }
def ViewFewSaid : Prop := viewFewRow.holds Try.pinned (OpenSpec.ofChange viewFewSpec)

/-- ITS FALSE NEIGHBOUR: 'it returns false'. Refute it at one input. -/
def viewFewWrong : ChangeSpec := { name := "viewFew", fn := fun _ => fun
  | [d] => { results := [.lit (.bool false)], args := [d] }
  | _ => none }
def ViewFewWrongFalsely : Prop := viewFewRow.holds Try.pinned (OpenSpec.ofChange viewFewWrong)

/- THE SECOND FORM. 'bulk': how many values and letters a reading holds, each counted each time it is reached (what is shared counts as often as it is met; a slice's spare places count too). A statement '..UptoSaid' is the law's where the arguments, and the package variables that the reading takes, are together of bulk at most 1048576: NARROWER than '..Said'. Prove '..Said' where nothing that the law and all that it calls make is longer than what came in: it says more and counts as full. Else prove '..UptoSaid'. A law counts once. -/
mutual
def uptoBulk {H : Type} : DataW H → Nat
  | .lit (.string bytes) => bytes.length + 1
  | .lit _ => 1
  | .nil => 1
  | .ptr d => uptoBulk d + 1
  | .slice elems spare => uptoBulkAll elems + uptoBulkAll spare + 1
  | .agg parts => uptoBulkAll parts + 1
  | .iface _ d => uptoBulk d + 1
  | .map entries => uptoBulkEntries entries + 1
  | .held _ => 1
def uptoBulkAll {H : Type} : List (DataW H) → Nat
  | [] => 0
  | d :: r => uptoBulk d + uptoBulkAll r
def uptoBulkEntries {H : Type} : List (Lit × DataW H) → Nat
  | [] => 0
  | x :: r => uptoBulkEntry x + uptoBulkEntries r
def uptoBulkEntry {H : Type} : Lit × DataW H → Nat
  | (.string bytes, d) => bytes.length + uptoBulk d + 1
  | (_, d) => uptoBulk d + 1
 end
def uptoSmall : (H : Type) → List (DataW H) → Bool := fun _ ds => decide (uptoBulkAll ds ≤ 1048576)
def OpenSpec.upto (s : _root_.Go.ChangeSpec) : _root_.Go.OpenSpec := { _root_.Go.OpenSpec.ofChange s with cond := some uptoSmall }

/-- 'legateelaw11.ViewNexts', WHERE WHAT IT READS IS OF BULK AT MOST 1048576: true; the input reads as it did. -/
def viewNextsUptoRow : OpenClaim := { program := "ytpofcnokbmaooaa", sum := "c4707ab1c48389be8ce7e38a33a919244a3647b39ec6db356d5329cb47e75f92", func := "legatee/legateelaw11.ViewNexts", spec := "viewNexts", unfollowed := true, recurses := true, apart := false, narrowed := true }
def ViewNextsUptoSaid : Prop := viewNextsUptoRow.holds Try.pinned (OpenSpec.upto viewNextsSpec)

/-- 'legateelaw11.ViewMajors', WHERE WHAT IT READS IS OF BULK AT MOST 1048576: true; the input reads as it did. -/
def viewMajorsUptoRow : OpenClaim := { program := "ytpofcnokbmaooaa", sum := "c4707ab1c48389be8ce7e38a33a919244a3647b39ec6db356d5329cb47e75f92", func := "legatee/legateelaw11.ViewMajors", spec := "viewMajors", apart := false, narrowed := true }
def ViewMajorsUptoSaid : Prop := viewMajorsUptoRow.holds Try.pinned (OpenSpec.upto viewMajorsSpec)

/-- 'legateelaw11.ViewHeirs', WHERE WHAT IT READS IS OF BULK AT MOST 1048576: true; the input reads as it did. -/
def viewHeirsUptoRow : OpenClaim := { program := "ytpofcnokbmaooaa", sum := "c4707ab1c48389be8ce7e38a33a919244a3647b39ec6db356d5329cb47e75f92", func := "legatee/legateelaw11.ViewHeirs", spec := "viewHeirs", apart := false, narrowed := true }
def ViewHeirsUptoSaid : Prop := viewHeirsUptoRow.holds Try.pinned (OpenSpec.upto viewHeirsSpec)

/-- 'legateelaw11.ViewFew', WHERE WHAT IT READS IS OF BULK AT MOST 1048576: true; the input reads as it did. -/
def viewFewUptoRow : OpenClaim := { program := "ytpofcnokbmaooaa", sum := "c4707ab1c48389be8ce7e38a33a919244a3647b39ec6db356d5329cb47e75f92", func := "legatee/legateelaw11.ViewFew", spec := "viewFew", apart := false, narrowed := true }
def ViewFewUptoSaid : Prop := viewFewUptoRow.holds Try.pinned (OpenSpec.upto viewFewSpec)

end Rows
end Go.Proofs.Ytpofcnokbmaooaa
