/- Views and changes by value, folded: laws for the walk. -/
import Derived.Test.YtpofcnokbmaooaaInts5
import Derived.Test.YtpofcnokbmaooaaLay
import Derived.Test.YtpofcnokbmaooaaInK
namespace Go.Proofs.Ytpofcnokbmaooaa
open Go.RowKit

theorem Try.infoView : (Try.prog.info? 28).map (·.size) = some 7 := by kernel_rfl
theorem Try.infoChg : (Try.prog.info? 24).map (·.size) = some 3 := by kernel_rfl
def loadViewF (x : Value) : Sem Value := Instr.loadAt 28 x
theorem loadViewF_fold (x : Value) : Instr.loadAt 28 x = loadViewF x := rfl
theorem loadViewF_has {w : World} {b o : Nat} (h : HasRow w b o 7) : (loadViewF (.pointer (some ⟨b, o, none⟩))).run Try.prog w = .ok (.agg (rowAt w b o 7)) w := run_loadAt_has Try.underlying28 rfl Try.infoView h
def storeViewF (x v : Value) : Sem Unit := Instr.storeAt 28 x v
theorem storeViewF_fold (x v : Value) : Instr.storeAt 28 x v = storeViewF x v := rfl
theorem storeViewF_has {w : World} {b o : Nat} {ys : List Int} (h : Room w b o 7) (hl : Is 7 ys) : (storeViewF (.pointer (some ⟨b, o, none⟩)) (.agg (iA ys))).run Try.prog w = .ok () (w.setCells b o (iV ys)) := run_storeAt_is Try.infoView h hl
def allocViewF (b : Bool) (x : Value) : Sem Value := Instr.alloc 28 b x
theorem allocViewF_fold (b : Bool) (x : Value) : Instr.alloc 28 b x = allocViewF b x := rfl
theorem allocViewF_run (w : World) : (allocViewF true (.tuple #[])).run Try.prog w = .ok (.pointer (some ⟨w.heap.size, 0, none⟩)) (w.alloc (.cells (iA (zeros 7)) 28)) := by kernel_rfl
def buildViewF (x : Array (Nat × Value)) : Sem Value := Instr.build 28 x
theorem buildViewF_fold (x : Array (Nat × Value)) : Instr.build 28 x = buildViewF x := rfl
theorem buildViewF_none (w : World) : (buildViewF #[]).run Try.prog w = .ok (.agg (iA (zeros 7))) w := run_build w _ _ _ (by kernel_rfl)
theorem buildViewF_two (a b : Int) (w : World) : (buildViewF #[(0, .int .i64 a), (1, .int .i64 b)]).run Try.prog w = .ok (.agg (iA [a, b, 0, 0, 0, 0, 0])) w := run_build w _ _ _ (by kernel_rfl)
def loadChgF (x : Value) : Sem Value := Instr.loadAt 24 x
theorem loadChgF_fold (x : Value) : Instr.loadAt 24 x = loadChgF x := rfl
theorem loadChgF_has {w : World} {b o : Nat} (h : HasRow w b o 3) : (loadChgF (.pointer (some ⟨b, o, none⟩))).run Try.prog w = .ok (.agg (rowAt w b o 3)) w := run_loadAt_has Try.underlying24 rfl Try.infoChg h
def storeChgF (x v : Value) : Sem Unit := Instr.storeAt 24 x v
theorem storeChgF_fold (x v : Value) : Instr.storeAt 24 x v = storeChgF x v := rfl
theorem storeChgF_has {w : World} {b o : Nat} {ys : List Int} (h : Room w b o 3) (hl : Is 3 ys) : (storeChgF (.pointer (some ⟨b, o, none⟩)) (.agg (iA ys))).run Try.prog w = .ok () (w.setCells b o (iV ys)) := run_storeAt_is Try.infoChg h hl
def allocChgF (b : Bool) (x : Value) : Sem Value := Instr.alloc 24 b x
theorem allocChgF_fold (b : Bool) (x : Value) : Instr.alloc 24 b x = allocChgF b x := rfl
theorem allocChgF_run (w : World) : (allocChgF true (.tuple #[])).run Try.prog w = .ok (.pointer (some ⟨w.heap.size, 0, none⟩)) (w.alloc (.cells (iA (zeros 3)) 24)) := by kernel_rfl
def buildChgF (x : Array (Nat × Value)) : Sem Value := Instr.build 24 x
theorem buildChgF_fold (x : Array (Nat × Value)) : Instr.build 24 x = buildChgF x := rfl
theorem buildChgF_three (a b c : Int) (w : World) : (buildChgF #[(0, .int .i64 a), (1, .int .i64 b), (2, .int .i64 c)]).run Try.prog w = .ok (.agg (iA [a, b, c])) w := run_build w _ _ _ (by kernel_rfl)
end Go.Proofs.Ytpofcnokbmaooaa
