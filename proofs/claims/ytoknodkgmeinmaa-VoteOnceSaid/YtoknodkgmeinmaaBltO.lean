/- Ballots, changes, acceptors: opened, held against one another. -/
import Derived.Test.YtoknodkgmeinmaaBltA
import Derived.Test.YtoknodkgmeinmaaChgO
namespace Go.Proofs.Ytoknodkgmeinmaa
open Go.ChangeShapes Go.WideShapes Go.ChangeAt Go.RowKit

theorem Try.opensBlt {H : Type} {enc : TypeId × Value → H} {w : World} {base : Nat} {spare : Nat → Bool} {held : Bool} : Opens enc Try.prog w base spare held 31 := opens_struct Try.underlying31 (by kernel_rfl) (by intro f hf; simp at hf; rcases hf with rfl | rfl; exact opens_int Try.underlying3; exact opens_int Try.underlying3)
theorem Try.intsBlt (d : Nat) : Ints Try.prog (d + 2) 31 := ints_struct Try.underlying31 (by kernel_rfl) (by kernel_rfl) (by intro f hf; simp at hf; rcases hf with rfl | rfl; exact ints_int d Try.underlying3 (by kernel_rfl); exact ints_int d Try.underlying3 (by kernel_rfl))
set_option maxRecDepth 100000 in
theorem Try.eqBlt {xs ys : List Int} (hx : xs.length = 2) (hy : ys.length = 2) (wx : wf64 xs) (wy : wf64 ys) (w : World) :
    (Op.equalIn 10000 31 (.agg (iA xs)) (.agg (iA ys))).run Try.prog w = .ok (decide (xs = ys)) w :=
  eq_ints (m := 8) (by kernel_rfl) (by omega) (Try.intsBlt 0) (fun zs hz => by
    have h : Try.prog.cellsOf 31 = 2 := by kernel_rfl
    rw [h] at hz
    simp [Value.formed, Try.underlying31, h, iA_size, hz]) (by rw [hx]; kernel_rfl) (by rw [hy]; kernel_rfl) wx wy w
theorem Try.intsAcc (d : Nat) : Ints Try.prog (d + 3) 35 := ints_struct Try.underlying35 (by kernel_rfl) (by kernel_rfl) (by intro f hf; simp at hf; rcases hf with rfl | rfl | rfl | rfl; exact ints_int (d + 1) Try.underlying3 (by kernel_rfl); exact Try.intsBlt d; exact Try.intsBlt d; exact Try.intsChg d)
set_option maxRecDepth 100000 in
theorem Try.eqAcc {xs ys : List Int} (hx : xs.length = 8) (hy : ys.length = 8) (wx : wf64 xs) (wy : wf64 ys) (w : World) :
    (Op.equalIn 10000 35 (.agg (iA xs)) (.agg (iA ys))).run Try.prog w = .ok (decide (xs = ys)) w :=
  eq_ints (m := 8) (by kernel_rfl) (by omega) (Try.intsAcc 0) (fun zs hz => by
    have h : Try.prog.cellsOf 35 = 8 := by kernel_rfl
    rw [h] at hz
    simp [Value.formed, Try.underlying35, h, iA_size, hz]) (by rw [hx]; kernel_rfl) (by rw [hy]; kernel_rfl) wx wy w
end Go.Proofs.Ytoknodkgmeinmaa
