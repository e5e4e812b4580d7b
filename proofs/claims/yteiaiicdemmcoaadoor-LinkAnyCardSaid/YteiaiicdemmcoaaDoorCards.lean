/-
  DERIVED. GIVEN WITH THE SEED: THE CARDS: each row of YteiaiicdemmcoaaDoorRows.lean that lists a variable, with what it lists TIED to the program's text (the seventh form; the later family's looks); each row that meets fmt, with fmt's text TOLD by the authors' own Lean function (tested against real Go, not proved from fmt's source: count such statements apart). THE CARD IS WHAT COUNTS. Prove the row's statement (the work); the ties are given (YteiaiicdemmcoaaDoorTie.lean); close each card by the builder's one call (the guide's Derived/Test/ToyasCard.lean, 'card_holds'). Laid BY PROGRAM, IN A SANDBOX (cutbox-door.mjs). By AI agents, Wed Nov 11 2026. No macro, syntax, notation, axiom, sorry.
-/
import Derived.Test.YteiaiicdemmcoaaDoorRows
import GoSem.ClaimSeven
namespace Go.Proofs.YteiaiicdemmcoaaDoor
namespace Rows

/-- THE TIED CARD OF 'legateelaw10.LinkFrames'. -/
def linkFramesCard : Claim7 := { stood := { row := linkFramesRow, standIns := [], harness := (true, "7e49c9763ef4250226808244f8e8c7e0dd4e09a8fe7b78924b88b7065ead088e"), looks := false }, kinds := [], alts := [], laidByText := true, laidKinds := [.data], laidTests := true, laidLooks := .later }
def LinkFramesCardSaid : Prop := Claim7.holds Tryd.pinned (.plain (OpenSpec.ofChange linkFramesSpec)) linkFramesCard

/-- THE TIED CARD OF 'legateelaw10.LinkTakes'. -/
def linkTakesCard : Claim7 := { stood := { row := linkTakesRow, standIns := [], harness := (true, "7e49c9763ef4250226808244f8e8c7e0dd4e09a8fe7b78924b88b7065ead088e"), looks := false }, kinds := [], alts := [], laidByText := true, laidKinds := [.data], laidTests := true, laidLooks := .later }
def LinkTakesCardSaid : Prop := Claim7.holds Tryd.pinned (.plain (OpenSpec.ofChange linkTakesSpec)) linkTakesCard

/-- THE TIED CARD OF 'legateelaw10.LinkApart'. -/
def linkApartCard : Claim7 := { stood := { row := linkApartRow, standIns := [], harness := (true, "7e49c9763ef4250226808244f8e8c7e0dd4e09a8fe7b78924b88b7065ead088e"), looks := false }, kinds := [], alts := [], laidByText := true, laidKinds := [.data], laidTests := true, laidLooks := .later }
def LinkApartCardSaid : Prop := Claim7.holds Tryd.pinned (.plain (OpenSpec.ofChange linkApartSpec)) linkApartCard

/-- THE TIED CARD OF 'legateelaw10.LinkAny'. -/
def linkAnyCard : Claim7 := { stood := { row := linkAnyRow, standIns := [], harness := (true, "7e49c9763ef4250226808244f8e8c7e0dd4e09a8fe7b78924b88b7065ead088e"), looks := false }, kinds := [], alts := [], laidByText := true, laidKinds := [.data], laidTests := true, laidLooks := .later }
def LinkAnyCardSaid : Prop := Claim7.holds Tryd.pinned (.plain (OpenSpec.ofChange linkAnySpec)) linkAnyCard

/-- THE SECOND FORM's CARD OF 'legateelaw10.LinkFrames'. -/
def linkFramesUptoCard : Claim7 := { stood := { row := linkFramesUptoRow, standIns := [], harness := (true, "7e49c9763ef4250226808244f8e8c7e0dd4e09a8fe7b78924b88b7065ead088e"), looks := false }, kinds := [], alts := [], laidByText := true, laidKinds := [.data], laidTests := true, laidLooks := .later }
def LinkFramesUptoCardSaid : Prop := Claim7.holds Tryd.pinned (.plain (OpenSpec.upto linkFramesSpec)) linkFramesUptoCard

/-- THE SECOND FORM's CARD OF 'legateelaw10.LinkTakes'. -/
def linkTakesUptoCard : Claim7 := { stood := { row := linkTakesUptoRow, standIns := [], harness := (true, "7e49c9763ef4250226808244f8e8c7e0dd4e09a8fe7b78924b88b7065ead088e"), looks := false }, kinds := [], alts := [], laidByText := true, laidKinds := [.data], laidTests := true, laidLooks := .later }
def LinkTakesUptoCardSaid : Prop := Claim7.holds Tryd.pinned (.plain (OpenSpec.upto linkTakesSpec)) linkTakesUptoCard

/-- THE SECOND FORM's CARD OF 'legateelaw10.LinkApart'. -/
def linkApartUptoCard : Claim7 := { stood := { row := linkApartUptoRow, standIns := [], harness := (true, "7e49c9763ef4250226808244f8e8c7e0dd4e09a8fe7b78924b88b7065ead088e"), looks := false }, kinds := [], alts := [], laidByText := true, laidKinds := [.data], laidTests := true, laidLooks := .later }
def LinkApartUptoCardSaid : Prop := Claim7.holds Tryd.pinned (.plain (OpenSpec.upto linkApartSpec)) linkApartUptoCard

/-- THE SECOND FORM's CARD OF 'legateelaw10.LinkAny'. -/
def linkAnyUptoCard : Claim7 := { stood := { row := linkAnyUptoRow, standIns := [], harness := (true, "7e49c9763ef4250226808244f8e8c7e0dd4e09a8fe7b78924b88b7065ead088e"), looks := false }, kinds := [], alts := [], laidByText := true, laidKinds := [.data], laidTests := true, laidLooks := .later }
def LinkAnyUptoCardSaid : Prop := Claim7.holds Tryd.pinned (.plain (OpenSpec.upto linkAnySpec)) linkAnyUptoCard
end Rows
end Go.Proofs.YteiaiicdemmcoaaDoor
