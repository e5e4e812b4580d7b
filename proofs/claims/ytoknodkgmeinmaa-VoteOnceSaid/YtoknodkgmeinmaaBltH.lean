/- The contract of ballot's hears. -/
import Derived.Test.YtoknodkgmeinmaaBltP
namespace Go.Proofs.Ytoknodkgmeinmaa
open Go.RowKit

attribute [local go_sem ↓] loadBltF_fold storeBltF_fold allocBltF_fold buildBltF_fold loadAccF_fold storeAccF_fold allocAccF_fold buildAccF_fold
attribute [local go_sem] loadBltF_has storeBltF_has allocBltF_run buildBltF_none buildBltF_0 buildBltF_0_1 loadAccF_has storeAccF_has allocAccF_run buildAccF_none buildAccF_0
set_option maxRecDepth 100000 in
set_option maxHeartbeats 1600000 in
theorem hears_any (a : Acc) (e r v : Int) (w : World) :
    Calls Try.prog 22 #[.agg (iA (accL a)), .int .i64 e, .agg (iA [r, v])] w fun e' w' => e' = .returned (.bool (hearsB a e r v)) ∧ Below w.heap.size w w' := by
  have hI : IBlk ((w.alloc (.cells (iA (accL a)) 35)).alloc (.cells (iA [r, v]) 31)) w.heap.size 35 (accL a) := (IBlk.new _ _ _).alloc _
  have hJ : IBlk ((w.alloc (.cells (iA (accL a)) 35)).alloc (.cells (iA [r, v]) 31)) (w.heap.size + 1) 31 [r, v] := by
    have := IBlk.new (w.alloc (.cells (iA (accL a)) 35)) 31 [r, v]
    simpa using this
  have hB : Below w.heap.size w ((w.alloc (.cells (iA (accL a)) 35)).alloc (.cells (iA [r, v]) 31)) := ((Below.refl _ _).alloc (Nat.le_refl _) _).alloc (by simp) _
  have HL := fun w => less_any r v a.r a.w w
  have HH := hide (show hearsB a e r v = ((e == a.e) && decide (1 ≤ r) && !lessB r v a.r a.w) from rfl)
  generalize lessB r v a.r a.w = lb at HL HH
  go_enter Try.func22, Try.ntmps22
  go_upto_region 1 with fail
  generalize (w.alloc (.cells (iA (accL a)) 35)).alloc (.cells (iA [r, v]) 31) = wz at hI hJ hB
  have c0 := hI.cellAt 0 a.e rfl
  have c1 := hJ.cellAt 0 r rfl
  obtain ⟨q1, h1⟩ := hJ.whole (n := 2) rfl
  obtain ⟨q2, h2⟩ := hI.got 1 2 (by rw [accL_length]; decide)
  rw [show ((accL a).drop 1).take 2 = [a.r, a.w] from rfl] at q2
  generalize a.r = ar at *
  generalize a.w = aw at *
  generalize a.e = ae at *
  clear hI hJ
  by_cases g1 : e = ae
  · have d1 : (e == ae) = true := by simpa using g1
    by_cases g2 : 1 ≤ r
    · have d2 : decide (1 ≤ r) = true := decide_eq_true g2
      rw [d1, d2] at HH
      clear g1 g2
      go_wp2_with fail
      (with_reducible refine (HL wz).mono ?_)
      rintro x wy ⟨rfl, hb⟩
      go_wp2_with fail
      go_ret
      exact ⟨by rw [HH.out]; rfl, hB.trans (hb.mono hB.size)⟩
    · have d2 : decide (1 ≤ r) = false := decide_eq_false g2
      rw [d1, d2] at HH
      clear g1 g2
      go_wp2_with fail
      go_ret
      exact ⟨by rw [HH.out]; rfl, hB⟩
  · have d1 : (e == ae) = false := by simpa using g1
    rw [d1] at HH
    clear g1
    go_wp2_with fail
    go_ret
    exact ⟨by rw [HH.out]; rfl, hB⟩
end Go.Proofs.Ytoknodkgmeinmaa
