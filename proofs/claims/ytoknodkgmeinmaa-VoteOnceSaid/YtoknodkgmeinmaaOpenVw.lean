/- An argument that is a view: opened to its integers; held against one another. -/
import Derived.Test.YtoknodkgmeinmaaOpen5
namespace Go.Proofs.Ytoknodkgmeinmaa
open Go.ChangeShapes Go.WideShapes Go.ChangeAt Go.RowKit

section
variable {H : Type} {enc : TypeId × Value → H} {w : World} {base : Nat} {spare : Nat → Bool} {held : Bool}
theorem Try.opensView : Opens enc Try.prog w base spare held 27 := opens_struct Try.underlying27 (by kernel_rfl) (by intro f hf; simp at hf; rcases hf with rfl | rfl | rfl; exact opens_int Try.underlying3; exact opens_int Try.underlying3; exact Try.opensInts)
end
theorem Try.intsView : Ints Try.prog 3 27 := ints_struct Try.underlying27 (by kernel_rfl) (by kernel_rfl) (by intro f hf; simp at hf; rcases hf with rfl | rfl | rfl; exact ints_int 1 Try.underlying3 (by kernel_rfl); exact ints_int 1 Try.underlying3 (by kernel_rfl); exact Try.intsInts 0)
set_option maxRecDepth 100000 in
theorem Try.eqView {xs ys : List Int} (hx : xs.length = 7) (hy : ys.length = 7) (wx : wf64 xs) (wy : wf64 ys) (w : World) : (Op.equalIn 10000 27 (.agg (iA xs)) (.agg (iA ys))).run Try.prog w = .ok (decide (xs = ys)) w :=
  eq_ints (m := 8) (by kernel_rfl) (by omega) Try.intsView (fun zs hz => by
    have h : Try.prog.cellsOf 27 = 7 := by kernel_rfl
    rw [h] at hz
    simp [Value.formed, Try.underlying27, h, iA_size, hz]) (by rw [hx]; kernel_rfl) (by rw [hy]; kernel_rfl) wx wy w
end Go.Proofs.Ytoknodkgmeinmaa
