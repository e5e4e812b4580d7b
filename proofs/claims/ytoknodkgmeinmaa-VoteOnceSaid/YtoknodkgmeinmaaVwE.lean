/- The contract of view's Enough. -/
import Derived.Test.YtoknodkgmeinmaaVwM
namespace Go.Proofs.Ytoknodkgmeinmaa
open Go.RowKit

attribute [local go_sem ↓] loadViewF_fold storeViewF_fold allocViewF_fold buildViewF_fold
attribute [local go_sem] loadViewF_has storeViewF_has allocViewF_run buildViewF_none buildViewF_two
set_option maxRecDepth 100000 in
set_option maxHeartbeats 800000 in
theorem enough_any (v : V) (hl : v.h.length = 5) (bs : Int) (w : World) :
    Calls Try.prog 24 #[.agg (iA (zV v)), .int .i64 bs] w fun e w' => e = .returned (.bool (mostB bs (v.m : Int))) ∧ Below w.heap.size w w' := by
  have hI : IBlk (w.alloc (.cells (iA (zV v)) 27)) w.heap.size 27 (zV v) := IBlk.new _ _ _
  have hB : Below w.heap.size w (w.alloc (.cells (iA (zV v)) 27)) := (Below.refl _ _).alloc (Nat.le_refl _) _
  have zl := zV_length hl
  have c1 := hI.cell (i := 1) (by omega)
  rw [show (zV v).getD 1 0 = (v.m : Int) from rfl] at c1
  generalize (v.m : Int) = mm at *
  go_enter Try.func24, Try.ntmps24
  go_upto_region 1 with fail
  generalize w.alloc (.cells (iA (zV v)) 27) = w1 at hI hB c1
  generalize hbe : w.heap.size = b at c1
  clear hI zl
  go_wp2_with fail
  (with_reducible refine (most_any bs mm w1).mono ?_)
  rintro e w' ⟨rfl, hb⟩
  go_wp2_with fail
  go_ret
  exact ⟨rfl, hB.trans (hb.mono hB.size)⟩
end Go.Proofs.Ytoknodkgmeinmaa
