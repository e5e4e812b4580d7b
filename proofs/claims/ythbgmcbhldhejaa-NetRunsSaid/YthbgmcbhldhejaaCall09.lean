/- legateelaw09.Call: folded; opened. -/
import Derived.Test.YthbgmcbhldhejaaOpenK
import Derived.Test.YthbgmcbhldhejaaNetF
import Derived.Test.YthbgmcbhldhejaaStrO
namespace Go.Proofs.Ythbgmcbhldhejaa
open Go.ChangeShapes Go.WideShapes Go.ChangeAt Go.RowKit

abbrev kindsQ : List Kind := [.i, .i, .b, .s]
def zeroQ : List Value := [.int .i64 0, .int .i64 0, .bool false, .slice none 0 0]
theorem Try.infoQ : (Try.prog.info? 31).map (·.size) = some 4 := by kernel_rfl
def loadQ (x : Value) : Sem Value := Instr.loadAt 31 x
theorem loadQ_fold (x : Value) : Instr.loadAt 31 x = loadQ x := rfl
theorem loadQ_has {w : World} {b o : Nat} (h : HasRow w b o 4) : (loadQ (.pointer (some ⟨b, o, none⟩))).run Try.prog w = .ok (.agg (rowAt w b o 4)) w := run_loadAt_has Try.underlying31 rfl Try.infoQ h
def storeQ (x v : Value) : Sem Unit := Instr.storeAt 31 x v
theorem storeQ_fold (x v : Value) : Instr.storeAt 31 x v = storeQ x v := rfl
theorem storeQ_has {w : World} {b o : Nat} {vs : List Value} (h : Room w b o 4) (hl : Is 4 vs) : (storeQ (.pointer (some ⟨b, o, none⟩)) (.agg vs.toArray)).run Try.prog w = .ok () (w.setCells b o vs) := run_storeAt_v Try.infoQ h hl
def allocQ (b : Bool) (x : Value) : Sem Value := Instr.alloc 31 b x
theorem allocQ_fold (b : Bool) (x : Value) : Instr.alloc 31 b x = allocQ b x := rfl
theorem allocQ_run (w : World) : (allocQ true (.tuple #[])).run Try.prog w = .ok (.pointer (some ⟨w.heap.size, 0, none⟩)) (w.alloc (.cells zeroQ.toArray 31)) := by kernel_rfl
theorem Try.opensQ {H : Type} {enc : TypeId × Value → H} {w : World} : OpensK enc Try.prog w 31 kindsQ :=
  opensK_struct Try.underlying31 (by kernel_rfl) (by kernel_rfl) (by
    intro f hf
    simp at hf
    rcases hf with rfl | rfl | rfl | rfl
    · exact opensK_int Try.underlying3
    · exact opensK_int Try.underlying3
    · exact opensK_bool Try.underlying4
    · exact opensK_bytes Try.underlying29 Try.underlying5 (by kernel_rfl))
end Go.Proofs.Ythbgmcbhldhejaa
