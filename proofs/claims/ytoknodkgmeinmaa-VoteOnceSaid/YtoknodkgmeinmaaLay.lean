/- A block that is made and stored whole. -/
import Derived.Test.YtoknodkgmeinmaaAggZ
namespace Go.Proofs.Ytoknodkgmeinmaa
open Go.RowKit

/-- A block that is made and stored whole. -/
theorem lay {n : Nat} {t : TypeId} {w : World} {B : Nat} {a : World} {g : List Int} (hB : Below B a w) (hg : g.length = n) (h : B ≤ w.heap.size) :
    Room (w.alloc (.cells (iA (zeros n)) t)) w.heap.size 0 n ∧ IBlk ((w.alloc (.cells (iA (zeros n)) t)).setCells w.heap.size 0 (iV g)) w.heap.size t g ∧
      Only (fun _ => False) w ((w.alloc (.cells (iA (zeros n)) t)).setCells w.heap.size 0 (iV g)) ∧ Below B a ((w.alloc (.cells (iA (zeros n)) t)).setCells w.heap.size 0 (iV g)) := by
  have hnew : IBlk (w.alloc (.cells (iA (zeros n)) t)) w.heap.size t (zeros n) := IBlk.new _ _ _
  have hO : Only (fun _ => False) w ((w.alloc (.cells (iA (zeros n)) t)).setCells w.heap.size 0 (iV g)) := Only.setCells _ (.inr (Nat.le_refl _)) _ _ ((Only.refl _ _).alloc _)
  exact ⟨hnew.room 0 n (by rw [zeros_length]; omega), hnew.fill (by rw [hg, zeros_length]), hO, below_only hB hO (fun _ e => e.elim) h⟩
end Go.Proofs.Ytoknodkgmeinmaa
