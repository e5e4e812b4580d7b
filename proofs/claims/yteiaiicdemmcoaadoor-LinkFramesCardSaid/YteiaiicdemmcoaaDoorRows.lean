/-
  NARROWER THAN 'FOR EVERY INPUT', by the rows' own cells (each row's printed sentence says how): LinkFrames: laid · LinkTakes: laid · LinkApart: laid · LinkAny: laid.
  DERIVED. THE GIVEN ROWS OF THIS SEAT. 4 by the template 'for every input the law returns true; each argument reads behind the call as it read before'; 0 by the template 'total and deterministic' (their statements: YteiaiicdemmcoaaDoorTotals.lean).
  GIVEN WITH THE SEED: the statements are not yours to turn. If you find one false, say at which input.
  Laid BY PROGRAM, IN A SANDBOX (cutbox-rows.mjs): the forced cells as the released guide's own fill.sh prints them over the translation 64129e62ca0f9057… (all of the seat's roots in one cut). By AI agents, Wed Nov 11 2026. No macro, syntax, notation, axiom, sorry.
-/
import Derived.Test.YteiaiicdemmcoaaDoorChecked
import GoSem.Claim
import GoSem.ClaimJoined
import GoSem.ClaimMapViews
import Derived.JoinedTies
import Derived.KernelRfl
namespace Go.Proofs.YteiaiicdemmcoaaDoor
/- THE CELL 'sum', in the pinned program and in every row, IS THE sha256 OF THE DUMP (.gsa) THAT YteiaiicdemmcoaaDoorProg.lean LOADS. Nothing in Lean hashes anything: it is a label: what it is worth is what the hold of that sum in a sandbox is worth. -/
noncomputable def Tryd.pinned : Pinned := { name := "yteiaiicdemmcoaadoor", sum := "64129e62ca0f9057e9ef38db2a650f0f6c791b58e7b3f986f685503ee4bda9d7", checked := Tryd.checked }
namespace Rows
def none {H : Type} : Left H := { results := [], args := [] }

/- WHAT THE LISTED PACKAGE-LEVEL VARIABLES READ AS WHEN THE CALL BEGINS. Each datum BY PROGRAM (the guide's laid-datum.mjs) off the statement by which the dump's own 'gosem.cut.vars' lays the variable. In a bare row this is a premise. The card (YteiaiicdemmcoaaDoorCards.lean) ties it to the program's text. -/
def laid_legatee_sum_halves {H : Type} : DataW H := .agg [.lit (.int .u32 0), .lit (.int .u32 498536548), .lit (.int .u32 997073096), .lit (.int .u32 651767980), .lit (.int .u32 1994146192), .lit (.int .u32 1802195444), .lit (.int .u32 1303535960), .lit (.int .u32 1342533948), .lit (.int .u32 3988292384), .lit (.int .u32 4027552580), .lit (.int .u32 3604390888), .lit (.int .u32 3412177804), .lit (.int .u32 2607071920), .lit (.int .u32 2262029012), .lit (.int .u32 2685067896), .lit (.int .u32 3183342108)]

/-- 'legateelaw10.LinkFrames': WHATEVER THE INPUT: true; the input reads as it did. -/
def linkFramesSpec : ChangeSpec := { name := "linkFrames", fn := fun _ => fun
  | [d1, d2, d3] => { results := [.lit (.bool true)], args := [d1, d2, d3] }
  | _ => none }
def linkFramesRow : OpenClaim := { program := "yteiaiicdemmcoaadoor", sum := "64129e62ca0f9057e9ef38db2a650f0f6c791b58e7b3f986f685503ee4bda9d7", func := "legatee/legateelaw10.LinkFrames", spec := "linkFrames", named := ["legatee/sum.halves"], apart := false, laid := [("legatee/sum.halves", laid_legatee_sum_halves)] }
def LinkFramesSaid : Prop := linkFramesRow.holds Tryd.pinned (OpenSpec.ofChange linkFramesSpec)

/-- ITS FALSE NEIGHBOUR: 'it returns false'. Refute it at one input. -/
def linkFramesWrong : ChangeSpec := { name := "linkFrames", fn := fun _ => fun
  | [d1, d2, d3] => { results := [.lit (.bool false)], args := [d1, d2, d3] }
  | _ => none }
def LinkFramesWrongFalsely : Prop := linkFramesRow.holds Tryd.pinned (OpenSpec.ofChange linkFramesWrong)

/-- 'legateelaw10.LinkTakes': WHATEVER THE INPUT: true; the input reads as it did. -/
def linkTakesSpec : ChangeSpec := { name := "linkTakes", fn := fun _ => fun
  | [d1, d2] => { results := [.lit (.bool true)], args := [d1, d2] }
  | _ => none }
def linkTakesRow : OpenClaim := { program := "yteiaiicdemmcoaadoor", sum := "64129e62ca0f9057e9ef38db2a650f0f6c791b58e7b3f986f685503ee4bda9d7", func := "legatee/legateelaw10.LinkTakes", spec := "linkTakes", named := ["legatee/sum.halves"], apart := false, laid := [("legatee/sum.halves", laid_legatee_sum_halves)] }
def LinkTakesSaid : Prop := linkTakesRow.holds Tryd.pinned (OpenSpec.ofChange linkTakesSpec)

/-- ITS FALSE NEIGHBOUR: 'it returns false'. Refute it at one input. -/
def linkTakesWrong : ChangeSpec := { name := "linkTakes", fn := fun _ => fun
  | [d1, d2] => { results := [.lit (.bool false)], args := [d1, d2] }
  | _ => none }
def LinkTakesWrongFalsely : Prop := linkTakesRow.holds Tryd.pinned (OpenSpec.ofChange linkTakesWrong)

/-- 'legateelaw10.LinkApart': WHATEVER THE INPUT: true; the input reads as it did. -/
def linkApartSpec : ChangeSpec := { name := "linkApart", fn := fun _ => fun
  | [d1, d2, d3] => { results := [.lit (.bool true)], args := [d1, d2, d3] }
  | _ => none }
def linkApartRow : OpenClaim := { program := "yteiaiicdemmcoaadoor", sum := "64129e62ca0f9057e9ef38db2a650f0f6c791b58e7b3f986f685503ee4bda9d7", func := "legatee/legateelaw10.LinkApart", spec := "linkApart", named := ["legatee/sum.halves"], apart := false, laid := [("legatee/sum.halves", laid_legatee_sum_halves)] }
def LinkApartSaid : Prop := linkApartRow.holds Tryd.pinned (OpenSpec.ofChange linkApartSpec)

/-- ITS FALSE NEIGHBOUR: 'it returns false'. Refute it at one input. -/
def linkApartWrong : ChangeSpec := { name := "linkApart", fn := fun _ => fun
  | [d1, d2, d3] => { results := [.lit (.bool false)], args := [d1, d2, d3] }
  | _ => none }
def LinkApartWrongFalsely : Prop := linkApartRow.holds Tryd.pinned (OpenSpec.ofChange linkApartWrong)

/-- 'legateelaw10.LinkAny': WHATEVER THE INPUT: true; the input reads as it did. -/
def linkAnySpec : ChangeSpec := { name := "linkAny", fn := fun _ => fun
  | [d1, d2, d3] => { results := [.lit (.bool true)], args := [d1, d2, d3] }
  | _ => none }
def linkAnyRow : OpenClaim := { program := "yteiaiicdemmcoaadoor", sum := "64129e62ca0f9057e9ef38db2a650f0f6c791b58e7b3f986f685503ee4bda9d7", func := "legatee/legateelaw10.LinkAny", spec := "linkAny", named := ["legatee/sum.halves"], apart := false, laid := [("legatee/sum.halves", laid_legatee_sum_halves)] }
def LinkAnySaid : Prop := linkAnyRow.holds Tryd.pinned (OpenSpec.ofChange linkAnySpec)

/-- ITS FALSE NEIGHBOUR: 'it returns false'. Refute it at one input. -/
def linkAnyWrong : ChangeSpec := { name := "linkAny", fn := fun _ => fun
  | [d1, d2, d3] => { results := [.lit (.bool false)], args := [d1, d2, d3] }
  | _ => none }
def LinkAnyWrongFalsely : Prop := linkAnyRow.holds Tryd.pinned (OpenSpec.ofChange linkAnyWrong)

/- THE SECOND FORM. 'bulk': how many values and letters a reading holds, each counted each time it is reached (what is shared counts as often as it is met; a slice's spare places count too). A statement '..UptoSaid' is the law's where the arguments, and the package variables that the reading takes, are together of bulk at most 1048576: NARROWER than '..Said'. Prove '..Said' where nothing that the law and all that it calls make is longer than what came in: it says more and counts as full. Else prove '..UptoSaid'. A law counts once. -/
mutual
def uptoBulk {H : Type} : DataW H → Nat
  | .lit (.string bytes) => bytes.length + 1
  | .lit _ => 1
  | .nil => 1
  | .ptr d => uptoBulk d + 1
  | .slice elems spare => uptoBulkAll elems + uptoBulkAll spare + 1
  | .agg parts => uptoBulkAll parts + 1
  | .iface _ d => uptoBulk d + 1
  | .map entries => uptoBulkEntries entries + 1
  | .held _ => 1
def uptoBulkAll {H : Type} : List (DataW H) → Nat
  | [] => 0
  | d :: r => uptoBulk d + uptoBulkAll r
def uptoBulkEntries {H : Type} : List (Lit × DataW H) → Nat
  | [] => 0
  | x :: r => uptoBulkEntry x + uptoBulkEntries r
def uptoBulkEntry {H : Type} : Lit × DataW H → Nat
  | (.string bytes, d) => bytes.length + uptoBulk d + 1
  | (_, d) => uptoBulk d + 1
 end
def uptoSmall : (H : Type) → List (DataW H) → Bool := fun _ ds => decide (uptoBulkAll ds ≤ 1048576)
def OpenSpec.upto (s : _root_.Go.ChangeSpec) : _root_.Go.OpenSpec := { _root_.Go.OpenSpec.ofChange s with cond := some uptoSmall }

/-- 'legateelaw10.LinkFrames', WHERE WHAT IT READS IS OF BULK AT MOST 1048576: true; the input reads as it did. -/
def linkFramesUptoRow : OpenClaim := { program := "yteiaiicdemmcoaadoor", sum := "64129e62ca0f9057e9ef38db2a650f0f6c791b58e7b3f986f685503ee4bda9d7", func := "legatee/legateelaw10.LinkFrames", spec := "linkFrames", named := ["legatee/sum.halves"], apart := false, laid := [("legatee/sum.halves", laid_legatee_sum_halves)], narrowed := true }
def LinkFramesUptoSaid : Prop := linkFramesUptoRow.holds Tryd.pinned (OpenSpec.upto linkFramesSpec)

/-- 'legateelaw10.LinkTakes', WHERE WHAT IT READS IS OF BULK AT MOST 1048576: true; the input reads as it did. -/
def linkTakesUptoRow : OpenClaim := { program := "yteiaiicdemmcoaadoor", sum := "64129e62ca0f9057e9ef38db2a650f0f6c791b58e7b3f986f685503ee4bda9d7", func := "legatee/legateelaw10.LinkTakes", spec := "linkTakes", named := ["legatee/sum.halves"], apart := false, laid := [("legatee/sum.halves", laid_legatee_sum_halves)], narrowed := true }
def LinkTakesUptoSaid : Prop := linkTakesUptoRow.holds Tryd.pinned (OpenSpec.upto linkTakesSpec)

/-- 'legateelaw10.LinkApart', WHERE WHAT IT READS IS OF BULK AT MOST 1048576: true; the input reads as it did. -/
def linkApartUptoRow : OpenClaim := { program := "yteiaiicdemmcoaadoor", sum := "64129e62ca0f9057e9ef38db2a650f0f6c791b58e7b3f986f685503ee4bda9d7", func := "legatee/legateelaw10.LinkApart", spec := "linkApart", named := ["legatee/sum.halves"], apart := false, laid := [("legatee/sum.halves", laid_legatee_sum_halves)], narrowed := true }
def LinkApartUptoSaid : Prop := linkApartUptoRow.holds Tryd.pinned (OpenSpec.upto linkApartSpec)

/-- 'legateelaw10.LinkAny', WHERE WHAT IT READS IS OF BULK AT MOST 1048576: true; the input reads as it did. -/
def linkAnyUptoRow : OpenClaim := { program := "yteiaiicdemmcoaadoor", sum := "64129e62ca0f9057e9ef38db2a650f0f6c791b58e7b3f986f685503ee4bda9d7", func := "legatee/legateelaw10.LinkAny", spec := "linkAny", named := ["legatee/sum.halves"], apart := false, laid := [("legatee/sum.halves", laid_legatee_sum_halves)], narrowed := true }
def LinkAnyUptoSaid : Prop := linkAnyUptoRow.holds Tryd.pinned (OpenSpec.upto linkAnySpec)

end Rows
end Go.Proofs.YteiaiicdemmcoaaDoor
