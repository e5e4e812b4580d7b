/- Pairs of integers by value: loaded, held against one another. -/
import Derived.Test.YteiaiicdemmcoaaDoorOpenA
import Derived.Test.YteiaiicdemmcoaaDoorCell
namespace Go.Proofs.YteiaiicdemmcoaaDoor
open Go.ChangeShapes Go.WideShapes Go.ChangeAt Go.RowKit

theorem Tryd.infoPair : (Tryd.prog.info? 22).map (·.size) = some 2 := by kernel_rfl
def loadP (x : Value) : Sem Value := Instr.loadAt 22 x
theorem loadP_fold (x : Value) : Instr.loadAt 22 x = loadP x := rfl
theorem loadP_has {w : World} {b o : Nat} (h : HasRow w b o 2) : (loadP (.pointer (some ⟨b, o, none⟩))).run Tryd.prog w = .ok (.agg (rowAt w b o 2)) w := run_loadAt_has Tryd.underlying22 rfl Tryd.infoPair h
theorem Tryd.intsPair : Ints Tryd.prog 2 22 := ints_array Tryd.underlying22 (by kernel_rfl) (ints_int 0 Tryd.underlying3 (by kernel_rfl))
set_option maxRecDepth 100000 in
theorem Tryd.eqPair {xs ys : List Int} (hx : xs.length = 2) (hy : ys.length = 2) (wx : wf64 xs) (wy : wf64 ys) (w : World) : (Op.equalIn 10000 22 (.agg (iA xs)) (.agg (iA ys))).run Tryd.prog w = .ok (decide (xs = ys)) w :=
  eq_ints (m := 8) (by kernel_rfl) (by omega) Tryd.intsPair (fun zs hz => by
    have h : Tryd.prog.cellsOf 22 = 2 := by kernel_rfl
    rw [h] at hz
    simp [Value.formed, Tryd.underlying22, h, iA_size, hz]) (by rw [hx]; kernel_rfl) (by rw [hy]; kernel_rfl) wx wy w
end Go.Proofs.YteiaiicdemmcoaaDoor
