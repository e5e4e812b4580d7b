/- legateelaw12.Call: folded; opened. -/
import Derived.Test.YtfcoeopemgcjlaaOpenK
import Derived.Test.YtfcoeopemgcjlaaBltO
namespace Go.Proofs.Ytfcoeopemgcjlaa
open Go.ChangeShapes Go.WideShapes Go.ChangeAt Go.RowKit

abbrev kindsD : List Kind := [.b, .i, .i, .i, .i, .i, .i]
def zeroD : List Value := [.bool false, .int .i64 0, .int .i64 0, .int .i64 0, .int .i64 0, .int .i64 0, .int .i64 0]
theorem Try.infoD : (Try.prog.info? 31).map (·.size) = some 7 := by kernel_rfl
def loadD (x : Value) : Sem Value := Instr.loadAt 31 x
theorem loadD_fold (x : Value) : Instr.loadAt 31 x = loadD x := rfl
theorem loadD_has {w : World} {b o : Nat} (h : HasRow w b o 7) : (loadD (.pointer (some ⟨b, o, none⟩))).run Try.prog w = .ok (.agg (rowAt w b o 7)) w := run_loadAt_has Try.underlying31 rfl Try.infoD h
def storeD (x v : Value) : Sem Unit := Instr.storeAt 31 x v
theorem storeD_fold (x v : Value) : Instr.storeAt 31 x v = storeD x v := rfl
theorem storeD_has {w : World} {b o : Nat} {vs : List Value} (h : Room w b o 7) (hl : IsV 7 vs) : (storeD (.pointer (some ⟨b, o, none⟩)) (.agg vs.toArray)).run Try.prog w = .ok () (w.setCells b o vs) := run_storeAt_v Try.infoD h hl
def allocD (b : Bool) (x : Value) : Sem Value := Instr.alloc 31 b x
theorem allocD_fold (b : Bool) (x : Value) : Instr.alloc 31 b x = allocD b x := rfl
theorem allocD_run (w : World) : (allocD true (.tuple #[])).run Try.prog w = .ok (.pointer (some ⟨w.heap.size, 0, none⟩)) (w.alloc (.cells zeroD.toArray 31)) := by kernel_rfl
theorem Try.opensD {H : Type} {enc : TypeId × Value → H} {w : World} : OpensK enc Try.prog w 31 kindsD :=
  opensK_struct Try.underlying31 (by kernel_rfl) (by kernel_rfl) (by
    intro f hf
    simp at hf
    rcases hf with rfl | rfl | rfl | rfl
    · exact opensK_bool Try.underlying4
    · exact opensK_int Try.underlying3
    · exact opensK_flat (n := 2) Try.underlying25 Try.opensBlt (by kernel_rfl)
    · exact opensK_flat (n := 3) Try.underlying27 Try.opensChg (by kernel_rfl))
end Go.Proofs.Ytfcoeopemgcjlaa
