/- Changes by value, folded: laws for the walk. -/
import Derived.Test.YtoknodkgmeinmaaAggZ
namespace Go.Proofs.Ytoknodkgmeinmaa
open Go.RowKit

theorem Try.infoChg : (Try.prog.info? 33).map (·.size) = some 3 := by kernel_rfl
def loadChgF (x : Value) : Sem Value := Instr.loadAt 33 x
theorem loadChgF_fold (x : Value) : Instr.loadAt 33 x = loadChgF x := rfl
theorem loadChgF_has {w : World} {b o : Nat} (h : HasRow w b o 3) : (loadChgF (.pointer (some ⟨b, o, none⟩))).run Try.prog w = .ok (.agg (rowAt w b o 3)) w := run_loadAt_has Try.underlying33 rfl Try.infoChg h
def storeChgF (x v : Value) : Sem Unit := Instr.storeAt 33 x v
theorem storeChgF_fold (x v : Value) : Instr.storeAt 33 x v = storeChgF x v := rfl
theorem storeChgF_has {w : World} {b o : Nat} {ys : List Int} (h : Room w b o 3) (hl : Is 3 ys) : (storeChgF (.pointer (some ⟨b, o, none⟩)) (.agg (iA ys))).run Try.prog w = .ok () (w.setCells b o (iV ys)) := run_storeAt_is Try.infoChg h hl
def allocChgF (b : Bool) (x : Value) : Sem Value := Instr.alloc 33 b x
theorem allocChgF_fold (b : Bool) (x : Value) : Instr.alloc 33 b x = allocChgF b x := rfl
theorem allocChgF_run (w : World) : (allocChgF true (.tuple #[])).run Try.prog w = .ok (.pointer (some ⟨w.heap.size, 0, none⟩)) (w.alloc (.cells (iA (zeros 3)) 33)) := by kernel_rfl
def buildChgF (x : Array (Nat × Value)) : Sem Value := Instr.build 33 x
theorem buildChgF_fold (x : Array (Nat × Value)) : Instr.build 33 x = buildChgF x := rfl
theorem buildChgF_three (a b c : Int) (w : World) : (buildChgF #[(0, .int .i64 a), (1, .int .i64 b), (2, .int .i64 c)]).run Try.prog w = .ok (.agg (iA [a, b, c])) w := run_build w _ _ _ (by kernel_rfl)
theorem buildChgF_two (a b : Int) (w : World) : (buildChgF #[(0, .int .i64 a), (1, .int .i64 b)]).run Try.prog w = .ok (.agg (iA [a, b, 0])) w := run_build w _ _ _ (by kernel_rfl)
theorem buildChgF_none (w : World) : (buildChgF #[]).run Try.prog w = .ok (.agg (iA (zeros 3))) w := run_build w _ _ _ (by kernel_rfl)
end Go.Proofs.Ytoknodkgmeinmaa
