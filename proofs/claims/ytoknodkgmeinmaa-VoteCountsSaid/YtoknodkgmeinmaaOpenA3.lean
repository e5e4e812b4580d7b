/- An argument that is an array of three integers: opened to its integers. -/
import Derived.Test.YtoknodkgmeinmaaOpenArr
namespace Go.Proofs.Ytoknodkgmeinmaa
open Go.ChangeShapes Go.WideShapes Go.ChangeAt Go.RowKit

section
variable {H : Type} {enc : TypeId × Value → H} {w : World} {base : Nat} {spare : Nat → Bool} {held : Bool}
theorem Try.opensTrio : Opens enc Try.prog w base spare held 62 := opens_array Try.underlying62 (by kernel_rfl) (opens_int Try.underlying3)
end
end Go.Proofs.Ytoknodkgmeinmaa
