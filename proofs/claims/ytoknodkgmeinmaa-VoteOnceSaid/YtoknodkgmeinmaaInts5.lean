/- [5]int by value, folded: laws for the walk. -/
import Derived.Test.YtoknodkgmeinmaaAggZ
namespace Go.Proofs.Ytoknodkgmeinmaa
open Go.RowKit

theorem Try.indexInts (l : List Int) (k : Nat) (hk : k < 5) (hl : l.length = 5) (w : World) : (Instr.index 25 (.agg (iA l)) (.int .i64 (k : Int))).run Try.prog w = .ok (.int .i64 (l.getD k 0)) w := by
  obtain ⟨a, b, c, d, e, rfl⟩ : ∃ a b c d e, l = [a, b, c, d, e] := by
    match l, hl with
    | [a, b, c, d, e], _ => exact ⟨_, _, _, _, _, rfl⟩
  rcases (by omega : k = 0 ∨ k = 1 ∨ k = 2 ∨ k = 3 ∨ k = 4) with rfl | rfl | rfl | rfl | rfl
  all_goals kernel_rfl
def loadInts5 (x : Value) : Sem Value := Instr.loadAt 25 x
theorem loadInts5_fold (x : Value) : Instr.loadAt 25 x = loadInts5 x := rfl
theorem Try.infoInts5 : (Try.prog.info? 25).map (·.size) = some 5 := by kernel_rfl
theorem loadInts5_has {w : World} {b o : Nat} (h : HasRow w b o 5) : (loadInts5 (.pointer (some ⟨b, o, none⟩))).run Try.prog w = .ok (.agg (rowAt w b o 5)) w := run_loadAt_has Try.underlying25 rfl Try.infoInts5 h
theorem Try.infoInts : (Try.prog.info? 25).map (·.size) = some 5 := by kernel_rfl
def loadInts5F (x : Value) : Sem Value := Instr.loadAt 25 x
theorem loadInts5F_fold (x : Value) : Instr.loadAt 25 x = loadInts5F x := rfl
theorem loadInts5F_has {w : World} {b o : Nat} (h : HasRow w b o 5) : (loadInts5F (.pointer (some ⟨b, o, none⟩))).run Try.prog w = .ok (.agg (rowAt w b o 5)) w := run_loadAt_has Try.underlying25 rfl Try.infoInts h
def storeInts5F (x v : Value) : Sem Unit := Instr.storeAt 25 x v
theorem storeInts5F_fold (x v : Value) : Instr.storeAt 25 x v = storeInts5F x v := rfl
theorem storeInts5F_has {w : World} {b o : Nat} {ys : List Int} (h : Room w b o 5) (hl : Is 5 ys) : (storeInts5F (.pointer (some ⟨b, o, none⟩)) (.agg (iA ys))).run Try.prog w = .ok () (w.setCells b o (iV ys)) := run_storeAt_is Try.infoInts h hl
def indexInts5F (x y : Value) : Sem Value := Instr.index 25 x y
theorem indexInts5F_fold (x y : Value) : Instr.index 25 x y = indexInts5F x y := rfl
theorem indexInts5F_at {l : List Int} {k : Nat} (hk : k < 5) (hl : Is 5 l) (w : World) : (indexInts5F (.agg (iA l)) (.int .i64 (k : Int))).run Try.prog w = .ok (.int .i64 (l.getD k 0)) w := Try.indexInts l k hk hl w
end Go.Proofs.Ytoknodkgmeinmaa
