/-
  DERIVED. GIVEN WITH THE SEED: THE CARDS: each row of YtdocjkpdmdkfeaaDoorRows.lean that lists a variable, with what it lists TIED to the program's text (the seventh form; the later family's looks); each row that meets fmt, with fmt's text TOLD by the authors' own Lean function (tested against real Go, not proved from fmt's source: count such statements apart). THE CARD IS WHAT COUNTS. Prove the row's statement (the work); the ties are given (YtdocjkpdmdkfeaaDoorTie.lean); close each card by the builder's one call (the guide's Derived/Test/ToyasCard.lean, 'card_holds'). Laid BY PROGRAM, IN A SANDBOX (cutbox-door.mjs). By AI agents, Wed Nov 11 2026. No macro, syntax, notation, axiom, sorry.
-/
import Derived.Test.YtdocjkpdmdkfeaaDoorRows
import GoSem.ClaimSeven
namespace Go.Proofs.YtdocjkpdmdkfeaaDoor
namespace Rows

/-- THE TIED CARD OF 'legateelaw02.SumParts'. -/
def sumPartsCard : Claim7 := { stood := { row := sumPartsRow, standIns := [], harness := (true, "7836ec905bac40fb231b24ace3cedaa874bff60aae2a8ab9f6602568f4e79d66"), looks := false }, kinds := [], alts := [], laidByText := true, laidKinds := [.data], laidTests := true, laidLooks := .later }
def SumPartsCardSaid : Prop := Claim7.holds Tryd.pinned (.plain (OpenSpec.ofChange sumPartsSpec)) sumPartsCard

/-- THE TIED CARD OF 'legateelaw02.SumBits'. -/
def sumBitsCard : Claim7 := { stood := { row := sumBitsRow, standIns := [], harness := (true, "7836ec905bac40fb231b24ace3cedaa874bff60aae2a8ab9f6602568f4e79d66"), looks := false }, kinds := [], alts := [], laidByText := true, laidKinds := [.data], laidTests := true, laidLooks := .later }
def SumBitsCardSaid : Prop := Claim7.holds Tryd.pinned (.plain (OpenSpec.ofChange sumBitsSpec)) sumBitsCard

/-- THE TIED CARD OF 'legateelaw02.SumTakes'. -/
def sumTakesCard : Claim7 := { stood := { row := sumTakesRow, standIns := [], harness := (true, "7836ec905bac40fb231b24ace3cedaa874bff60aae2a8ab9f6602568f4e79d66"), looks := false }, kinds := [], alts := [], laidByText := true, laidKinds := [.data], laidTests := true, laidLooks := .later }
def SumTakesCardSaid : Prop := Claim7.holds Tryd.pinned (.plain (OpenSpec.ofChange sumTakesSpec)) sumTakesCard

/-- THE TIED CARD OF 'legateelaw02.SumBursts'. -/
def sumBurstsCard : Claim7 := { stood := { row := sumBurstsRow, standIns := [], harness := (true, "7836ec905bac40fb231b24ace3cedaa874bff60aae2a8ab9f6602568f4e79d66"), looks := false }, kinds := [], alts := [], laidByText := true, laidKinds := [.data], laidTests := true, laidLooks := .later }
def SumBurstsCardSaid : Prop := Claim7.holds Tryd.pinned (.plain (OpenSpec.ofChange sumBurstsSpec)) sumBurstsCard

/-- THE TIED CARD OF 'legateelaw02.SumAny'. -/
def sumAnyCard : Claim7 := { stood := { row := sumAnyRow, standIns := [], harness := (true, "7836ec905bac40fb231b24ace3cedaa874bff60aae2a8ab9f6602568f4e79d66"), looks := false }, kinds := [], alts := [], laidByText := true, laidKinds := [.data], laidTests := true, laidLooks := .later }
def SumAnyCardSaid : Prop := Claim7.holds Tryd.pinned (.plain (OpenSpec.ofChange sumAnySpec)) sumAnyCard

/-- THE SECOND FORM's CARD OF 'legateelaw02.SumParts'. -/
def sumPartsUptoCard : Claim7 := { stood := { row := sumPartsUptoRow, standIns := [], harness := (true, "7836ec905bac40fb231b24ace3cedaa874bff60aae2a8ab9f6602568f4e79d66"), looks := false }, kinds := [], alts := [], laidByText := true, laidKinds := [.data], laidTests := true, laidLooks := .later }
def SumPartsUptoCardSaid : Prop := Claim7.holds Tryd.pinned (.plain (OpenSpec.upto sumPartsSpec)) sumPartsUptoCard

/-- THE SECOND FORM's CARD OF 'legateelaw02.SumBits'. -/
def sumBitsUptoCard : Claim7 := { stood := { row := sumBitsUptoRow, standIns := [], harness := (true, "7836ec905bac40fb231b24ace3cedaa874bff60aae2a8ab9f6602568f4e79d66"), looks := false }, kinds := [], alts := [], laidByText := true, laidKinds := [.data], laidTests := true, laidLooks := .later }
def SumBitsUptoCardSaid : Prop := Claim7.holds Tryd.pinned (.plain (OpenSpec.upto sumBitsSpec)) sumBitsUptoCard

/-- THE SECOND FORM's CARD OF 'legateelaw02.SumTakes'. -/
def sumTakesUptoCard : Claim7 := { stood := { row := sumTakesUptoRow, standIns := [], harness := (true, "7836ec905bac40fb231b24ace3cedaa874bff60aae2a8ab9f6602568f4e79d66"), looks := false }, kinds := [], alts := [], laidByText := true, laidKinds := [.data], laidTests := true, laidLooks := .later }
def SumTakesUptoCardSaid : Prop := Claim7.holds Tryd.pinned (.plain (OpenSpec.upto sumTakesSpec)) sumTakesUptoCard

/-- THE SECOND FORM's CARD OF 'legateelaw02.SumBursts'. -/
def sumBurstsUptoCard : Claim7 := { stood := { row := sumBurstsUptoRow, standIns := [], harness := (true, "7836ec905bac40fb231b24ace3cedaa874bff60aae2a8ab9f6602568f4e79d66"), looks := false }, kinds := [], alts := [], laidByText := true, laidKinds := [.data], laidTests := true, laidLooks := .later }
def SumBurstsUptoCardSaid : Prop := Claim7.holds Tryd.pinned (.plain (OpenSpec.upto sumBurstsSpec)) sumBurstsUptoCard

/-- THE SECOND FORM's CARD OF 'legateelaw02.SumAny'. -/
def sumAnyUptoCard : Claim7 := { stood := { row := sumAnyUptoRow, standIns := [], harness := (true, "7836ec905bac40fb231b24ace3cedaa874bff60aae2a8ab9f6602568f4e79d66"), looks := false }, kinds := [], alts := [], laidByText := true, laidKinds := [.data], laidTests := true, laidLooks := .later }
def SumAnyUptoCardSaid : Prop := Claim7.holds Tryd.pinned (.plain (OpenSpec.upto sumAnySpec)) sumAnyUptoCard
end Rows
end Go.Proofs.YtdocjkpdmdkfeaaDoor
