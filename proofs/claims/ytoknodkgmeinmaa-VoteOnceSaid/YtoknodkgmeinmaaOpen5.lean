/- [5]int: opened; held against one another. -/
import Derived.Test.YtoknodkgmeinmaaOpens
namespace Go.Proofs.Ytoknodkgmeinmaa
open Go.ChangeShapes Go.WideShapes Go.ChangeAt Go.RowKit

section
variable {H : Type} {enc : TypeId × Value → H} {w : World} {base : Nat} {spare : Nat → Bool} {held : Bool}
theorem Try.opensInts : Opens enc Try.prog w base spare held 25 := opens_array Try.underlying25 (by kernel_rfl) (opens_int Try.underlying3)
end
theorem Try.intsInts (d : Nat) : Ints Try.prog (d + 2) 25 := ints_array Try.underlying25 (by kernel_rfl) (ints_int d Try.underlying3 (by kernel_rfl))
end Go.Proofs.Ytoknodkgmeinmaa
