/- A number that is below another one, and not below nothing. -/
import Derived.Test.YtoknodkgmeinmaaBase
namespace Go.Proofs.Ytoknodkgmeinmaa
open Go.RowKit

def inK (n many : Int) : Bool := decide (0 ≤ n) && decide (n < many)
theorem inK_true {n m : Int} : inK n m = true ↔ 0 ≤ n ∧ n < m := by simp [inK]
end Go.Proofs.Ytoknodkgmeinmaa
