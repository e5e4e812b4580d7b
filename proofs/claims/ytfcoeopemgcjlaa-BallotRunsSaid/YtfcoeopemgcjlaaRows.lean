/-
  No cell of these rows narrows 'for every input' (looked for: loops, veiled, ifaces, maps, wideKeys, modest, calm, conditions, laid).
  DERIVED. THE GIVEN ROWS OF THIS SEAT. 3 by the template 'for every input the law returns true; each argument reads behind the call as it read before'; 0 by the template 'total and deterministic' (their statements: YtfcoeopemgcjlaaTotals.lean).
  GIVEN WITH THE SEED: the statements are not yours to turn. If you find one false, say at which input.
  Laid BY PROGRAM, IN A SANDBOX (cutbox-rows.mjs): the forced cells as the released guide's own fill.sh prints them over the translation 72bf5d516b2d6bdc… (all of the seat's roots in one cut). By AI agents, Wed Nov 11 2026. No macro, syntax, notation, axiom, sorry.
-/
import Derived.Test.YtfcoeopemgcjlaaChecked
import GoSem.Claim
import GoSem.ClaimJoined
import GoSem.ClaimMapViews
import Derived.JoinedTies
import Derived.KernelRfl
namespace Go.Proofs.Ytfcoeopemgcjlaa
/- THE CELL 'sum', in the pinned program and in every row, IS THE sha256 OF THE DUMP (.gsa) THAT YtfcoeopemgcjlaaProg.lean LOADS. Nothing in Lean hashes anything: it is a label: what it is worth is what the hold of that sum in a sandbox is worth. -/
noncomputable def Try.pinned : Pinned := { name := "ytfcoeopemgcjlaa", sum := "72bf5d516b2d6bdcfe01ffcdabee40939f9032e9996b04cb9d40f5fce984c563", checked := Try.checked }
namespace Rows
def none {H : Type} : Left H := { results := [], args := [] }

/-- 'legateelaw12.BallotRuns': WHATEVER THE INPUT: true; the input reads as it did. -/
def ballotRunsSpec : ChangeSpec := { name := "ballotRuns", fn := fun _ => fun
  | [d1, d2] => { results := [.lit (.bool true)], args := [d1, d2] }
  | _ => none }
def ballotRunsRow : OpenClaim := { program := "ytfcoeopemgcjlaa", sum := "72bf5d516b2d6bdcfe01ffcdabee40939f9032e9996b04cb9d40f5fce984c563", func := "legatee/legateelaw12.BallotRuns", spec := "ballotRuns", apart := false }
def BallotRunsSaid : Prop := ballotRunsRow.holds Try.pinned (OpenSpec.ofChange ballotRunsSpec)

/-- ITS FALSE NEIGHBOUR: 'it returns false'. Refute it at one input. -/
def ballotRunsWrong : ChangeSpec := { name := "ballotRuns", fn := fun _ => fun
  | [d1, d2] => { results := [.lit (.bool false)], args := [d1, d2] }
  | _ => none }
def BallotRunsWrongFalsely : Prop := ballotRunsRow.holds Try.pinned (OpenSpec.ofChange ballotRunsWrong)

/-- 'legateelaw12.BallotLess': WHATEVER THE INPUT: true; the input reads as it did. -/
def ballotLessSpec : ChangeSpec := { name := "ballotLess", fn := fun _ => fun
  | [d1, d2, d3] => { results := [.lit (.bool true)], args := [d1, d2, d3] }
  | _ => none }
def ballotLessRow : OpenClaim := { program := "ytfcoeopemgcjlaa", sum := "72bf5d516b2d6bdcfe01ffcdabee40939f9032e9996b04cb9d40f5fce984c563", func := "legatee/legateelaw12.BallotLess", spec := "ballotLess", apart := false }
def BallotLessSaid : Prop := ballotLessRow.holds Try.pinned (OpenSpec.ofChange ballotLessSpec)

/-- ITS FALSE NEIGHBOUR: 'it returns false'. Refute it at one input. -/
def ballotLessWrong : ChangeSpec := { name := "ballotLess", fn := fun _ => fun
  | [d1, d2, d3] => { results := [.lit (.bool false)], args := [d1, d2, d3] }
  | _ => none }
def BallotLessWrongFalsely : Prop := ballotLessRow.holds Try.pinned (OpenSpec.ofChange ballotLessWrong)

/-- 'legateelaw12.BallotVows': WHATEVER THE INPUT: true; the input reads as it did. -/
def ballotVowsSpec : ChangeSpec := { name := "ballotVows", fn := fun _ => fun
  | [d] => { results := [.lit (.bool true)], args := [d] }
  | _ => none }
def ballotVowsRow : OpenClaim := { program := "ytfcoeopemgcjlaa", sum := "72bf5d516b2d6bdcfe01ffcdabee40939f9032e9996b04cb9d40f5fce984c563", func := "legatee/legateelaw12.BallotVows", spec := "ballotVows", apart := false }
def BallotVowsSaid : Prop := ballotVowsRow.holds Try.pinned (OpenSpec.ofChange ballotVowsSpec)

/-- ITS FALSE NEIGHBOUR: 'it returns false'. Refute it at one input. -/
def ballotVowsWrong : ChangeSpec := { name := "ballotVows", fn := fun _ => fun
  | [d] => { results := [.lit (.bool false)], args := [d] }
  | _ => none }
def BallotVowsWrongFalsely : Prop := ballotVowsRow.holds Try.pinned (OpenSpec.ofChange ballotVowsWrong)

/- THE SECOND FORM. 'bulk': how many values and letters a reading holds, each counted each time it is reached (what is shared counts as often as it is met; a slice's spare places count too). A statement '..UptoSaid' is the law's where the arguments, and the package variables that the reading takes, are together of bulk at most 1048576: NARROWER than '..Said'. Prove '..Said' where nothing that the law and all that it calls make is longer than what came in: it says more and counts as full. Else prove '..UptoSaid'. A law counts once. -/
mutual
def uptoBulk {H : Type} : DataW H → Nat
  | .lit (.string bytes) => bytes.length + 1
  | .lit _ => 1
  | .nil => 1
  | .ptr d => uptoBulk d + 1
  | .slice elems spare => uptoBulkAll elems + uptoBulkAll spare + 1
  | .agg parts => uptoBulkAll parts + 1
  | .iface _ d => uptoBulk d + 1
  | .map entries => uptoBulkEntries entries + 1
  | .held _ => 1
def uptoBulkAll {H : Type} : List (DataW H) → Nat
  | [] => 0
  | d :: r => uptoBulk d + uptoBulkAll r
def uptoBulkEntries {H : Type} : List (Lit × DataW H) → Nat
  | [] => 0
  | x :: r => uptoBulkEntry x + uptoBulkEntries r
def uptoBulkEntry {H : Type} : Lit × DataW H → Nat
  | (.string bytes, d) => bytes.length + uptoBulk d + 1
  | (_, d) => uptoBulk d + 1
 end
def uptoSmall : (H : Type) → List (DataW H) → Bool := fun _ ds => decide (uptoBulkAll ds ≤ 1048576)
def OpenSpec.upto (s : _root_.Go.ChangeSpec) : _root_.Go.OpenSpec := { _root_.Go.OpenSpec.ofChange s with cond := some uptoSmall }

/-- 'legateelaw12.BallotRuns', WHERE WHAT IT READS IS OF BULK AT MOST 1048576: true; the input reads as it did. -/
def ballotRunsUptoRow : OpenClaim := { program := "ytfcoeopemgcjlaa", sum := "72bf5d516b2d6bdcfe01ffcdabee40939f9032e9996b04cb9d40f5fce984c563", func := "legatee/legateelaw12.BallotRuns", spec := "ballotRuns", apart := false, narrowed := true }
def BallotRunsUptoSaid : Prop := ballotRunsUptoRow.holds Try.pinned (OpenSpec.upto ballotRunsSpec)

/-- 'legateelaw12.BallotLess', WHERE WHAT IT READS IS OF BULK AT MOST 1048576: true; the input reads as it did. -/
def ballotLessUptoRow : OpenClaim := { program := "ytfcoeopemgcjlaa", sum := "72bf5d516b2d6bdcfe01ffcdabee40939f9032e9996b04cb9d40f5fce984c563", func := "legatee/legateelaw12.BallotLess", spec := "ballotLess", apart := false, narrowed := true }
def BallotLessUptoSaid : Prop := ballotLessUptoRow.holds Try.pinned (OpenSpec.upto ballotLessSpec)

/-- 'legateelaw12.BallotVows', WHERE WHAT IT READS IS OF BULK AT MOST 1048576: true; the input reads as it did. -/
def ballotVowsUptoRow : OpenClaim := { program := "ytfcoeopemgcjlaa", sum := "72bf5d516b2d6bdcfe01ffcdabee40939f9032e9996b04cb9d40f5fce984c563", func := "legatee/legateelaw12.BallotVows", spec := "ballotVows", apart := false, narrowed := true }
def BallotVowsUptoSaid : Prop := ballotVowsUptoRow.holds Try.pinned (OpenSpec.upto ballotVowsSpec)

end Rows
end Go.Proofs.Ytfcoeopemgcjlaa
