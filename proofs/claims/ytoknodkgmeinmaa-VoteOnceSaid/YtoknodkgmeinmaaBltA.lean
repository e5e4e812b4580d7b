/- Ballots and acceptors by value, folded: laws for the walk. -/
import Derived.Test.YtoknodkgmeinmaaChgA
import Derived.Test.YtoknodkgmeinmaaLay
namespace Go.Proofs.Ytoknodkgmeinmaa
open Go.RowKit

theorem Try.infoBlt : (Try.prog.info? 31).map (·.size) = some 2 := by kernel_rfl
def loadBltF (x : Value) : Sem Value := Instr.loadAt 31 x
theorem loadBltF_fold (x : Value) : Instr.loadAt 31 x = loadBltF x := rfl
theorem loadBltF_has {w : World} {b o : Nat} (h : HasRow w b o 2) : (loadBltF (.pointer (some ⟨b, o, none⟩))).run Try.prog w = .ok (.agg (rowAt w b o 2)) w := run_loadAt_has Try.underlying31 rfl Try.infoBlt h
def storeBltF (x v : Value) : Sem Unit := Instr.storeAt 31 x v
theorem storeBltF_fold (x v : Value) : Instr.storeAt 31 x v = storeBltF x v := rfl
theorem storeBltF_has {w : World} {b o : Nat} {ys : List Int} (h : Room w b o 2) (hl : Is 2 ys) : (storeBltF (.pointer (some ⟨b, o, none⟩)) (.agg (iA ys))).run Try.prog w = .ok () (w.setCells b o (iV ys)) := run_storeAt_is Try.infoBlt h hl
def allocBltF (b : Bool) (x : Value) : Sem Value := Instr.alloc 31 b x
theorem allocBltF_fold (b : Bool) (x : Value) : Instr.alloc 31 b x = allocBltF b x := rfl
theorem allocBltF_run (w : World) : (allocBltF true (.tuple #[])).run Try.prog w = .ok (.pointer (some ⟨w.heap.size, 0, none⟩)) (w.alloc (.cells (iA (zeros 2)) 31)) := by kernel_rfl
def buildBltF (x : Array (Nat × Value)) : Sem Value := Instr.build 31 x
theorem buildBltF_fold (x : Array (Nat × Value)) : Instr.build 31 x = buildBltF x := rfl
theorem buildBltF_none (w : World) : (buildBltF #[]).run Try.prog w = .ok (.agg (iA [0, 0])) w := run_build w _ _ _ (by kernel_rfl)
theorem buildBltF_0 (z0 : Int) (w : World) : (buildBltF #[(0, .int .i64 z0)]).run Try.prog w = .ok (.agg (iA [z0, 0])) w := run_build w _ _ _ (by kernel_rfl)
theorem buildBltF_0_1 (z0 z1 : Int) (w : World) : (buildBltF #[(0, .int .i64 z0), (1, .int .i64 z1)]).run Try.prog w = .ok (.agg (iA [z0, z1])) w := run_build w _ _ _ (by kernel_rfl)
theorem Try.infoAcc : (Try.prog.info? 35).map (·.size) = some 8 := by kernel_rfl
def loadAccF (x : Value) : Sem Value := Instr.loadAt 35 x
theorem loadAccF_fold (x : Value) : Instr.loadAt 35 x = loadAccF x := rfl
theorem loadAccF_has {w : World} {b o : Nat} (h : HasRow w b o 8) : (loadAccF (.pointer (some ⟨b, o, none⟩))).run Try.prog w = .ok (.agg (rowAt w b o 8)) w := run_loadAt_has Try.underlying35 rfl Try.infoAcc h
def storeAccF (x v : Value) : Sem Unit := Instr.storeAt 35 x v
theorem storeAccF_fold (x v : Value) : Instr.storeAt 35 x v = storeAccF x v := rfl
theorem storeAccF_has {w : World} {b o : Nat} {ys : List Int} (h : Room w b o 8) (hl : Is 8 ys) : (storeAccF (.pointer (some ⟨b, o, none⟩)) (.agg (iA ys))).run Try.prog w = .ok () (w.setCells b o (iV ys)) := run_storeAt_is Try.infoAcc h hl
def allocAccF (b : Bool) (x : Value) : Sem Value := Instr.alloc 35 b x
theorem allocAccF_fold (b : Bool) (x : Value) : Instr.alloc 35 b x = allocAccF b x := rfl
theorem allocAccF_run (w : World) : (allocAccF true (.tuple #[])).run Try.prog w = .ok (.pointer (some ⟨w.heap.size, 0, none⟩)) (w.alloc (.cells (iA (zeros 8)) 35)) := by kernel_rfl
def buildAccF (x : Array (Nat × Value)) : Sem Value := Instr.build 35 x
theorem buildAccF_fold (x : Array (Nat × Value)) : Instr.build 35 x = buildAccF x := rfl
theorem buildAccF_none (w : World) : (buildAccF #[]).run Try.prog w = .ok (.agg (iA [0, 0, 0, 0, 0, 0, 0, 0])) w := run_build w _ _ _ (by kernel_rfl)
theorem buildAccF_0 (z0 : Int) (w : World) : (buildAccF #[(0, .int .i64 z0)]).run Try.prog w = .ok (.agg (iA [z0, 0, 0, 0, 0, 0, 0, 0])) w := run_build w _ _ _ (by kernel_rfl)
end Go.Proofs.Ytoknodkgmeinmaa
