/- Views by value, folded: laws for the walk. -/
import Derived.Test.YtoknodkgmeinmaaInts5
import Derived.Test.YtoknodkgmeinmaaChgA
import Derived.Test.YtoknodkgmeinmaaLay
import Derived.Test.YtoknodkgmeinmaaInK
namespace Go.Proofs.Ytoknodkgmeinmaa
open Go.RowKit

theorem Try.infoView : (Try.prog.info? 27).map (·.size) = some 7 := by kernel_rfl
def loadViewF (x : Value) : Sem Value := Instr.loadAt 27 x
theorem loadViewF_fold (x : Value) : Instr.loadAt 27 x = loadViewF x := rfl
theorem loadViewF_has {w : World} {b o : Nat} (h : HasRow w b o 7) : (loadViewF (.pointer (some ⟨b, o, none⟩))).run Try.prog w = .ok (.agg (rowAt w b o 7)) w := run_loadAt_has Try.underlying27 rfl Try.infoView h
def storeViewF (x v : Value) : Sem Unit := Instr.storeAt 27 x v
theorem storeViewF_fold (x v : Value) : Instr.storeAt 27 x v = storeViewF x v := rfl
theorem storeViewF_has {w : World} {b o : Nat} {ys : List Int} (h : Room w b o 7) (hl : Is 7 ys) : (storeViewF (.pointer (some ⟨b, o, none⟩)) (.agg (iA ys))).run Try.prog w = .ok () (w.setCells b o (iV ys)) := run_storeAt_is Try.infoView h hl
def allocViewF (b : Bool) (x : Value) : Sem Value := Instr.alloc 27 b x
theorem allocViewF_fold (b : Bool) (x : Value) : Instr.alloc 27 b x = allocViewF b x := rfl
theorem allocViewF_run (w : World) : (allocViewF true (.tuple #[])).run Try.prog w = .ok (.pointer (some ⟨w.heap.size, 0, none⟩)) (w.alloc (.cells (iA (zeros 7)) 27)) := by kernel_rfl
def buildViewF (x : Array (Nat × Value)) : Sem Value := Instr.build 27 x
theorem buildViewF_fold (x : Array (Nat × Value)) : Instr.build 27 x = buildViewF x := rfl
theorem buildViewF_none (w : World) : (buildViewF #[]).run Try.prog w = .ok (.agg (iA (zeros 7))) w := run_build w _ _ _ (by kernel_rfl)
theorem buildViewF_two (a b : Int) (w : World) : (buildViewF #[(0, .int .i64 a), (1, .int .i64 b)]).run Try.prog w = .ok (.agg (iA [a, b, 0, 0, 0, 0, 0])) w := run_build w _ _ _ (by kernel_rfl)
end Go.Proofs.Ytoknodkgmeinmaa
