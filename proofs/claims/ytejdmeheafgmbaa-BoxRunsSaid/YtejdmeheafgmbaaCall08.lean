/- legateelaw08.Call: folded; opened. -/
import Derived.Test.YtejdmeheafgmbaaOpenK
import Derived.Test.YtejdmeheafgmbaaBoxL
import Derived.Test.YtejdmeheafgmbaaStrO
namespace Go.Proofs.Ytejdmeheafgmbaa
open Go.ChangeShapes Go.WideShapes Go.ChangeAt Go.RowKit

abbrev kindsQ : List Kind := [.i, .s]
def zeroQ : List Value := [.int .i64 0, .slice none 0 0]
theorem Try.infoQ : (Try.prog.info? 29).map (·.size) = some 2 := by kernel_rfl
def loadQ (x : Value) : Sem Value := Instr.loadAt 29 x
theorem loadQ_fold (x : Value) : Instr.loadAt 29 x = loadQ x := rfl
theorem loadQ_has {w : World} {b o : Nat} (h : HasRow w b o 2) : (loadQ (.pointer (some ⟨b, o, none⟩))).run Try.prog w = .ok (.agg (rowAt w b o 2)) w := run_loadAt_has Try.underlying29 rfl Try.infoQ h
def storeQ (x v : Value) : Sem Unit := Instr.storeAt 29 x v
theorem storeQ_fold (x v : Value) : Instr.storeAt 29 x v = storeQ x v := rfl
theorem storeQ_has {w : World} {b o : Nat} {vs : List Value} (h : Room w b o 2) (hl : Is 2 vs) : (storeQ (.pointer (some ⟨b, o, none⟩)) (.agg vs.toArray)).run Try.prog w = .ok () (w.setCells b o vs) := run_storeAt_v Try.infoQ h hl
def allocQ (b : Bool) (x : Value) : Sem Value := Instr.alloc 29 b x
theorem allocQ_fold (b : Bool) (x : Value) : Instr.alloc 29 b x = allocQ b x := rfl
theorem allocQ_run (w : World) : (allocQ true (.tuple #[])).run Try.prog w = .ok (.pointer (some ⟨w.heap.size, 0, none⟩)) (w.alloc (.cells zeroQ.toArray 29)) := by kernel_rfl
theorem Try.opensQ {H : Type} {enc : TypeId × Value → H} {w : World} : OpensK enc Try.prog w 29 kindsQ :=
  opensK_struct Try.underlying29 (by kernel_rfl) (by kernel_rfl) (by
    intro f hf
    simp at hf
    rcases hf with rfl | rfl
    · exact opensK_int Try.underlying3
    · exact opensK_bytes Try.underlying27 Try.underlying5 (by kernel_rfl))
end Go.Proofs.Ytejdmeheafgmbaa
