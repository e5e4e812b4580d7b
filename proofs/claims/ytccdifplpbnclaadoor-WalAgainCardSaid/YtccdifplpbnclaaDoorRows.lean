/-
  NARROWER THAN 'FOR EVERY INPUT', by the rows' own cells (each row's printed sentence says how): WalCrashes: laid · WalAgain: laid · WalRooms: laid · WalAny: laid · WalPuts: laid · WalCuts: laid.
  DERIVED. THE GIVEN ROWS OF THIS SEAT. 6 by the template 'for every input the law returns true; each argument reads behind the call as it read before'; 0 by the template 'total and deterministic' (their statements: YtccdifplpbnclaaDoorTotals.lean).
  GIVEN WITH THE SEED: the statements are not yours to turn. If you find one false, say at which input.
  Laid BY PROGRAM, IN A SANDBOX (cutbox-rows.mjs): the forced cells as the released guide's own fill.sh prints them over the translation 2e29715c539647c7… (all of the seat's roots in one cut). By AI agents, Wed Nov 11 2026. No macro, syntax, notation, axiom, sorry.
-/
import Derived.Test.YtccdifplpbnclaaDoorChecked
import GoSem.Claim
import GoSem.ClaimJoined
import GoSem.ClaimMapViews
import Derived.JoinedTies
import Derived.KernelRfl
namespace Go.Proofs.YtccdifplpbnclaaDoor
/- THE CELL 'sum', in the pinned program and in every row, IS THE sha256 OF THE DUMP (.gsa) THAT YtccdifplpbnclaaDoorProg.lean LOADS. Nothing in Lean hashes anything: it is a label: what it is worth is what the hold of that sum in a sandbox is worth. -/
noncomputable def Tryd.pinned : Pinned := { name := "ytccdifplpbnclaadoor", sum := "2e29715c539647c7c6f504b8dfe7b021d8bf217d70993ce26261bb72940701ec", checked := Tryd.checked }
namespace Rows
def none {H : Type} : Left H := { results := [], args := [] }

/- WHAT THE LISTED PACKAGE-LEVEL VARIABLES READ AS WHEN THE CALL BEGINS. Each datum BY PROGRAM (the guide's laid-datum.mjs) off the statement by which the dump's own 'gosem.cut.vars' lays the variable. In a bare row this is a premise. The card (YtccdifplpbnclaaDoorCards.lean) ties it to the program's text. -/
def laid_legatee_sum_halves {H : Type} : DataW H := .agg [.lit (.int .u32 0), .lit (.int .u32 498536548), .lit (.int .u32 997073096), .lit (.int .u32 651767980), .lit (.int .u32 1994146192), .lit (.int .u32 1802195444), .lit (.int .u32 1303535960), .lit (.int .u32 1342533948), .lit (.int .u32 3988292384), .lit (.int .u32 4027552580), .lit (.int .u32 3604390888), .lit (.int .u32 3412177804), .lit (.int .u32 2607071920), .lit (.int .u32 2262029012), .lit (.int .u32 2685067896), .lit (.int .u32 3183342108)]

/-- 'legateelaw07.WalCrashes': WHATEVER THE INPUT: true; the input reads as it did. -/
def walCrashesSpec : ChangeSpec := { name := "walCrashes", fn := fun _ => fun
  | [d1, d2, d3] => { results := [.lit (.bool true)], args := [d1, d2, d3] }
  | _ => none }
def walCrashesRow : OpenClaim := { program := "ytccdifplpbnclaadoor", sum := "2e29715c539647c7c6f504b8dfe7b021d8bf217d70993ce26261bb72940701ec", func := "legatee/legateelaw07.WalCrashes", spec := "walCrashes", unfollowed := true, recurses := true, named := ["legatee/sum.halves"], apart := false, laid := [("legatee/sum.halves", laid_legatee_sum_halves)] }
def WalCrashesSaid : Prop := walCrashesRow.holds Tryd.pinned (OpenSpec.ofChange walCrashesSpec)

/-- ITS FALSE NEIGHBOUR: 'it returns false'. Refute it at one input. -/
def walCrashesWrong : ChangeSpec := { name := "walCrashes", fn := fun _ => fun
  | [d1, d2, d3] => { results := [.lit (.bool false)], args := [d1, d2, d3] }
  | _ => none }
def WalCrashesWrongFalsely : Prop := walCrashesRow.holds Tryd.pinned (OpenSpec.ofChange walCrashesWrong)

/-- 'legateelaw07.WalAgain': WHATEVER THE INPUT: true; the input reads as it did. -/
def walAgainSpec : ChangeSpec := { name := "walAgain", fn := fun _ => fun
  | [d1, d2, d3] => { results := [.lit (.bool true)], args := [d1, d2, d3] }
  | _ => none }
def walAgainRow : OpenClaim := { program := "ytccdifplpbnclaadoor", sum := "2e29715c539647c7c6f504b8dfe7b021d8bf217d70993ce26261bb72940701ec", func := "legatee/legateelaw07.WalAgain", spec := "walAgain", unfollowed := true, recurses := true, named := ["legatee/sum.halves"], apart := false, laid := [("legatee/sum.halves", laid_legatee_sum_halves)] }
def WalAgainSaid : Prop := walAgainRow.holds Tryd.pinned (OpenSpec.ofChange walAgainSpec)

/-- ITS FALSE NEIGHBOUR: 'it returns false'. Refute it at one input. -/
def walAgainWrong : ChangeSpec := { name := "walAgain", fn := fun _ => fun
  | [d1, d2, d3] => { results := [.lit (.bool false)], args := [d1, d2, d3] }
  | _ => none }
def WalAgainWrongFalsely : Prop := walAgainRow.holds Tryd.pinned (OpenSpec.ofChange walAgainWrong)

/-- 'legateelaw07.WalRooms': WHATEVER THE INPUT: true; the input reads as it did. -/
def walRoomsSpec : ChangeSpec := { name := "walRooms", fn := fun _ => fun
  | [d1, d2] => { results := [.lit (.bool true)], args := [d1, d2] }
  | _ => none }
def walRoomsRow : OpenClaim := { program := "ytccdifplpbnclaadoor", sum := "2e29715c539647c7c6f504b8dfe7b021d8bf217d70993ce26261bb72940701ec", func := "legatee/legateelaw07.WalRooms", spec := "walRooms", unfollowed := true, recurses := true, named := ["legatee/sum.halves"], apart := false, laid := [("legatee/sum.halves", laid_legatee_sum_halves)] }
def WalRoomsSaid : Prop := walRoomsRow.holds Tryd.pinned (OpenSpec.ofChange walRoomsSpec)

/-- ITS FALSE NEIGHBOUR: 'it returns false'. Refute it at one input. -/
def walRoomsWrong : ChangeSpec := { name := "walRooms", fn := fun _ => fun
  | [d1, d2] => { results := [.lit (.bool false)], args := [d1, d2] }
  | _ => none }
def WalRoomsWrongFalsely : Prop := walRoomsRow.holds Tryd.pinned (OpenSpec.ofChange walRoomsWrong)

/-- 'legateelaw07.WalAny': WHATEVER THE INPUT: true; the input reads as it did. -/
def walAnySpec : ChangeSpec := { name := "walAny", fn := fun _ => fun
  | [d1, d2] => { results := [.lit (.bool true)], args := [d1, d2] }
  | _ => none }
def walAnyRow : OpenClaim := { program := "ytccdifplpbnclaadoor", sum := "2e29715c539647c7c6f504b8dfe7b021d8bf217d70993ce26261bb72940701ec", func := "legatee/legateelaw07.WalAny", spec := "walAny", unfollowed := true, recurses := true, named := ["legatee/sum.halves"], apart := false, laid := [("legatee/sum.halves", laid_legatee_sum_halves)] }
def WalAnySaid : Prop := walAnyRow.holds Tryd.pinned (OpenSpec.ofChange walAnySpec)

/-- ITS FALSE NEIGHBOUR: 'it returns false'. Refute it at one input. -/
def walAnyWrong : ChangeSpec := { name := "walAny", fn := fun _ => fun
  | [d1, d2] => { results := [.lit (.bool false)], args := [d1, d2] }
  | _ => none }
def WalAnyWrongFalsely : Prop := walAnyRow.holds Tryd.pinned (OpenSpec.ofChange walAnyWrong)

/-- 'legateelaw07.WalPuts': WHATEVER THE INPUT: true; the input reads as it did. -/
def walPutsSpec : ChangeSpec := { name := "walPuts", fn := fun _ => fun
  | [d] => { results := [.lit (.bool true)], args := [d] }
  | _ => none }
def walPutsRow : OpenClaim := { program := "ytccdifplpbnclaadoor", sum := "2e29715c539647c7c6f504b8dfe7b021d8bf217d70993ce26261bb72940701ec", func := "legatee/legateelaw07.WalPuts", spec := "walPuts", unfollowed := true, recurses := true, named := ["legatee/sum.halves"], apart := false, laid := [("legatee/sum.halves", laid_legatee_sum_halves)] }
def WalPutsSaid : Prop := walPutsRow.holds Tryd.pinned (OpenSpec.ofChange walPutsSpec)

/-- ITS FALSE NEIGHBOUR: 'it returns false'. Refute it at one input. -/
def walPutsWrong : ChangeSpec := { name := "walPuts", fn := fun _ => fun
  | [d] => { results := [.lit (.bool false)], args := [d] }
  | _ => none }
def WalPutsWrongFalsely : Prop := walPutsRow.holds Tryd.pinned (OpenSpec.ofChange walPutsWrong)

/-- 'legateelaw07.WalCuts': WHATEVER THE INPUT: true; the input reads as it did. -/
def walCutsSpec : ChangeSpec := { name := "walCuts", fn := fun _ => fun
  | [d1, d2, d3] => { results := [.lit (.bool true)], args := [d1, d2, d3] }
  | _ => none }
def walCutsRow : OpenClaim := { program := "ytccdifplpbnclaadoor", sum := "2e29715c539647c7c6f504b8dfe7b021d8bf217d70993ce26261bb72940701ec", func := "legatee/legateelaw07.WalCuts", spec := "walCuts", unfollowed := true, recurses := true, named := ["legatee/sum.halves"], apart := false, laid := [("legatee/sum.halves", laid_legatee_sum_halves)] }
def WalCutsSaid : Prop := walCutsRow.holds Tryd.pinned (OpenSpec.ofChange walCutsSpec)

/-- ITS FALSE NEIGHBOUR: 'it returns false'. Refute it at one input. -/
def walCutsWrong : ChangeSpec := { name := "walCuts", fn := fun _ => fun
  | [d1, d2, d3] => { results := [.lit (.bool false)], args := [d1, d2, d3] }
  | _ => none }
def WalCutsWrongFalsely : Prop := walCutsRow.holds Tryd.pinned (OpenSpec.ofChange walCutsWrong)

/- THE SECOND FORM. 'bulk': how many values and letters a reading holds, each counted each time it is reached (what is shared counts as often as it is met; a slice's spare places count too). A statement '..UptoSaid' is the law's where the arguments, and the package variables that the reading takes, are together of bulk at most 1048576: NARROWER than '..Said'. Prove '..Said' where nothing that the law and all that it calls make is longer than what came in: it says more and counts as full. Else prove '..UptoSaid'. A law counts once. -/
mutual
def uptoBulk {H : Type} : DataW H → Nat
  | .lit (.string bytes) => bytes.length + 1
  | .lit _ => 1
  | .nil => 1
  | .ptr d => uptoBulk d + 1
  | .slice elems spare => uptoBulkAll elems + uptoBulkAll spare + 1
  | .agg parts => uptoBulkAll parts + 1
  | .iface _ d => uptoBulk d + 1
  | .map entries => uptoBulkEntries entries + 1
  | .held _ => 1
def uptoBulkAll {H : Type} : List (DataW H) → Nat
  | [] => 0
  | d :: r => uptoBulk d + uptoBulkAll r
def uptoBulkEntries {H : Type} : List (Lit × DataW H) → Nat
  | [] => 0
  | x :: r => uptoBulkEntry x + uptoBulkEntries r
def uptoBulkEntry {H : Type} : Lit × DataW H → Nat
  | (.string bytes, d) => bytes.length + uptoBulk d + 1
  | (_, d) => uptoBulk d + 1
 end
def uptoSmall : (H : Type) → List (DataW H) → Bool := fun _ ds => decide (uptoBulkAll ds ≤ 1048576)
def OpenSpec.upto (s : _root_.Go.ChangeSpec) : _root_.Go.OpenSpec := { _root_.Go.OpenSpec.ofChange s with cond := some uptoSmall }

/-- 'legateelaw07.WalCrashes', WHERE WHAT IT READS IS OF BULK AT MOST 1048576: true; the input reads as it did. -/
def walCrashesUptoRow : OpenClaim := { program := "ytccdifplpbnclaadoor", sum := "2e29715c539647c7c6f504b8dfe7b021d8bf217d70993ce26261bb72940701ec", func := "legatee/legateelaw07.WalCrashes", spec := "walCrashes", unfollowed := true, recurses := true, named := ["legatee/sum.halves"], apart := false, laid := [("legatee/sum.halves", laid_legatee_sum_halves)], narrowed := true }
def WalCrashesUptoSaid : Prop := walCrashesUptoRow.holds Tryd.pinned (OpenSpec.upto walCrashesSpec)

/-- 'legateelaw07.WalAgain', WHERE WHAT IT READS IS OF BULK AT MOST 1048576: true; the input reads as it did. -/
def walAgainUptoRow : OpenClaim := { program := "ytccdifplpbnclaadoor", sum := "2e29715c539647c7c6f504b8dfe7b021d8bf217d70993ce26261bb72940701ec", func := "legatee/legateelaw07.WalAgain", spec := "walAgain", unfollowed := true, recurses := true, named := ["legatee/sum.halves"], apart := false, laid := [("legatee/sum.halves", laid_legatee_sum_halves)], narrowed := true }
def WalAgainUptoSaid : Prop := walAgainUptoRow.holds Tryd.pinned (OpenSpec.upto walAgainSpec)

/-- 'legateelaw07.WalRooms', WHERE WHAT IT READS IS OF BULK AT MOST 1048576: true; the input reads as it did. -/
def walRoomsUptoRow : OpenClaim := { program := "ytccdifplpbnclaadoor", sum := "2e29715c539647c7c6f504b8dfe7b021d8bf217d70993ce26261bb72940701ec", func := "legatee/legateelaw07.WalRooms", spec := "walRooms", unfollowed := true, recurses := true, named := ["legatee/sum.halves"], apart := false, laid := [("legatee/sum.halves", laid_legatee_sum_halves)], narrowed := true }
def WalRoomsUptoSaid : Prop := walRoomsUptoRow.holds Tryd.pinned (OpenSpec.upto walRoomsSpec)

/-- 'legateelaw07.WalAny', WHERE WHAT IT READS IS OF BULK AT MOST 1048576: true; the input reads as it did. -/
def walAnyUptoRow : OpenClaim := { program := "ytccdifplpbnclaadoor", sum := "2e29715c539647c7c6f504b8dfe7b021d8bf217d70993ce26261bb72940701ec", func := "legatee/legateelaw07.WalAny", spec := "walAny", unfollowed := true, recurses := true, named := ["legatee/sum.halves"], apart := false, laid := [("legatee/sum.halves", laid_legatee_sum_halves)], narrowed := true }
def WalAnyUptoSaid : Prop := walAnyUptoRow.holds Tryd.pinned (OpenSpec.upto walAnySpec)

/-- 'legateelaw07.WalPuts', WHERE WHAT IT READS IS OF BULK AT MOST 1048576: true; the input reads as it did. -/
def walPutsUptoRow : OpenClaim := { program := "ytccdifplpbnclaadoor", sum := "2e29715c539647c7c6f504b8dfe7b021d8bf217d70993ce26261bb72940701ec", func := "legatee/legateelaw07.WalPuts", spec := "walPuts", unfollowed := true, recurses := true, named := ["legatee/sum.halves"], apart := false, laid := [("legatee/sum.halves", laid_legatee_sum_halves)], narrowed := true }
def WalPutsUptoSaid : Prop := walPutsUptoRow.holds Tryd.pinned (OpenSpec.upto walPutsSpec)

/-- 'legateelaw07.WalCuts', WHERE WHAT IT READS IS OF BULK AT MOST 1048576: true; the input reads as it did. -/
def walCutsUptoRow : OpenClaim := { program := "ytccdifplpbnclaadoor", sum := "2e29715c539647c7c6f504b8dfe7b021d8bf217d70993ce26261bb72940701ec", func := "legatee/legateelaw07.WalCuts", spec := "walCuts", unfollowed := true, recurses := true, named := ["legatee/sum.halves"], apart := false, laid := [("legatee/sum.halves", laid_legatee_sum_halves)], narrowed := true }
def WalCutsUptoSaid : Prop := walCutsUptoRow.holds Tryd.pinned (OpenSpec.upto walCutsSpec)

end Rows
end Go.Proofs.YtccdifplpbnclaaDoor
