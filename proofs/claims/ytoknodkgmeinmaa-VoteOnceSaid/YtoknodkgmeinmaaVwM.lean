/- The contracts of view's machine and Member. -/
import Derived.Test.YtoknodkgmeinmaaVwP
import Derived.RegionTactic
import Derived.Deep.Draws
import Derived.Deep.RegionWith
import Derived.Deep.DeepCutAuto
namespace Go.Proofs.Ytoknodkgmeinmaa
open Go.RowKit

theorem mach_any (n : Int) (w : World) :
    Calls Try.prog 23 #[.int .i64 n] w fun e w' => e = .returned (.bool (inK n 5)) ∧ w = w' := by
  by_cases h0 : 0 ≤ n
  · by_cases h1 : n < 5
    · have d0 : decide (0 ≤ n) = true := by simpa using h0
      have d1 : decide (n < 5) = true := by simpa using h1
      rw [inK, d0, d1]
      go_enter Try.func23, Try.ntmps23
      go_wp2
      go_ret
      exact ⟨rfl, rfl⟩
    · have d0 : decide (0 ≤ n) = true := by simpa using h0
      have d1 : decide (n < 5) = false := by simpa using h1
      rw [inK, d0, d1]
      go_enter Try.func23, Try.ntmps23
      go_wp2
      go_ret
      exact ⟨rfl, rfl⟩
  · have d0 : decide (0 ≤ n) = false := by simpa using h0
    rw [inK, d0]
    go_enter Try.func23, Try.ntmps23
    go_wp2
    go_ret
    exact ⟨rfl, rfl⟩

attribute [local go_sem ↓] loadViewF_fold storeViewF_fold allocViewF_fold buildViewF_fold
attribute [local go_sem] loadViewF_has storeViewF_has allocViewF_run buildViewF_none buildViewF_two
set_option maxRecDepth 100000 in
set_option maxHeartbeats 800000 in
theorem member_any (v : V) (hl : v.h.length = 5) (who : Int) (w : World) :
    Calls Try.prog 12 #[.agg (iA (zV v)), .int .i64 who] w fun e w' => e = .returned (.bool (inV v.m who)) ∧ Below w.heap.size w w' := by
  have hI : IBlk (w.alloc (.cells (iA (zV v)) 27)) w.heap.size 27 (zV v) := IBlk.new _ _ _
  have hB : Below w.heap.size w (w.alloc (.cells (iA (zV v)) 27)) := (Below.refl _ _).alloc (Nat.le_refl _) _
  have zl := zV_length hl
  cases hk : inK who 5 with
  | false =>
    rw [inV_out hk]
    go_enter Try.func12, Try.ntmps12
    go_upto_region 1 with fail
    generalize w.alloc (.cells (iA (zV v)) 27) = w1 at hI hB
    clear hI
    go_wp2_with fail
    (with_reducible refine (mach_any who w1).mono ?_)
    rintro e w' ⟨rfl, rfl⟩
    rw [hk]
    go_wp2_with fail
    go_ret
    exact ⟨rfl, hB⟩
  | true =>
    obtain ⟨k, rfl, hk5⟩ := inK_nat hk
    have hb := hasB_nat v.m k
    rw [inV_nat hk5]
    have c1 := hI.cell (i := 1) (by omega)
    rw [show (zV v).getD 1 0 = (v.m : Int) from rfl] at c1
    generalize v.m.testBit k = bb at *
    have hb' : (bits BinOp.and IntKind.i64 ((v.m : Int) / 2 ^ k) 1 == 1) = bb := hb
    generalize (v.m : Int) = mm at c1 hb'
    go_enter Try.func12, Try.ntmps12
    go_upto_region 1 with fail
    generalize w.alloc (.cells (iA (zV v)) 27) = w1 at hI hB c1
    generalize hbe : w.heap.size = b at c1
    clear hI hb zl
    go_wp2_with fail
    (with_reducible refine (mach_any (k : Int) w1).mono ?_)
    rintro e w' ⟨rfl, rfl⟩
    rw [hk]
    cases bb
    all_goals
      go_wp2_with fail
      go_ret
      exact ⟨rfl, hB⟩
end Go.Proofs.Ytoknodkgmeinmaa
