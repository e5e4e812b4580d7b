/- Changes: opened; held against one another. -/
import Derived.Test.YtoknodkgmeinmaaChgA
import Derived.Test.YtoknodkgmeinmaaOpens
namespace Go.Proofs.Ytoknodkgmeinmaa
open Go.ChangeShapes Go.WideShapes Go.ChangeAt Go.RowKit

theorem Try.opensChg {H : Type} {enc : TypeId × Value → H} {w : World} {base : Nat} {spare : Nat → Bool} {held : Bool} : Opens enc Try.prog w base spare held 33 := opens_struct Try.underlying33 (by kernel_rfl) (by intro f hf; simp at hf; rcases hf with rfl | rfl | rfl; exact opens_int Try.underlying3; exact opens_int Try.underlying3; exact opens_int Try.underlying3)
theorem Try.intsChg (d : Nat) : Ints Try.prog (d + 2) 33 := ints_struct Try.underlying33 (by kernel_rfl) (by kernel_rfl) (by intro f hf; simp at hf; rcases hf with rfl | rfl | rfl; exact ints_int d Try.underlying3 (by kernel_rfl); exact ints_int d Try.underlying3 (by kernel_rfl); exact ints_int d Try.underlying3 (by kernel_rfl))
set_option maxRecDepth 100000 in
theorem Try.eqChg {xs ys : List Int} (hx : xs.length = 3) (hy : ys.length = 3) (wx : wf64 xs) (wy : wf64 ys) (w : World) :
    (Op.equalIn 10000 33 (.agg (iA xs)) (.agg (iA ys))).run Try.prog w = .ok (decide (xs = ys)) w :=
  eq_ints (m := 8) (by kernel_rfl) (by omega) (Try.intsChg 0) (fun zs hz => by
    have h : Try.prog.cellsOf 33 = 3 := by kernel_rfl
    rw [h] at hz
    simp [Value.formed, Try.underlying33, h, iA_size, hz]) (by rw [hx]; kernel_rfl) (by rw [hy]; kernel_rfl) wx wy w
end Go.Proofs.Ytoknodkgmeinmaa
