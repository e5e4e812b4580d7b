/- An argument that is a pair of integers: opened to its integers. -/
import Derived.Test.YteiaiicdemmcoaaDoorOpenArr
namespace Go.Proofs.YteiaiicdemmcoaaDoor
open Go.ChangeShapes Go.WideShapes Go.ChangeAt Go.RowKit

section
variable {H : Type} {enc : TypeId × Value → H} {w : World} {base : Nat} {spare : Nat → Bool} {held : Bool}
theorem Tryd.opensPair : Opens enc Tryd.prog w base spare held 22 := opens_array Tryd.underlying22 (by kernel_rfl) (opens_int Tryd.underlying3)
end
end Go.Proofs.YteiaiicdemmcoaaDoor
