/- The contract of ballot's Ask. -/
import Derived.Test.YtoknodkgmeinmaaBltH
namespace Go.Proofs.Ytoknodkgmeinmaa
open Go.RowKit

attribute [local go_sem ↓] loadBltF_fold storeBltF_fold allocBltF_fold buildBltF_fold loadAccF_fold storeAccF_fold allocAccF_fold buildAccF_fold
attribute [local go_sem] loadBltF_has storeBltF_has allocBltF_run buildBltF_none buildBltF_0 buildBltF_0_1 loadAccF_has storeAccF_has allocAccF_run buildAccF_none buildAccF_0
set_option maxRecDepth 100000 in
set_option maxHeartbeats 1600000 in
theorem ask_any (a : Acc) (e r v : Int) (w : World) :
    Calls Try.prog 10 #[.agg (iA (accL a)), .int .i64 e, .agg (iA [r, v])] w fun e' w' => e' = .returned (.tuple #[.agg (iA (accL (askA a e r v))), .bool (hearsB a e r v)]) ∧ Below w.heap.size w w' := by
  have hB0 : Below w.heap.size w ((w.alloc (.cells (iA (accL a)) 35)).alloc (.cells (iA [r, v]) 31)) := ((Below.refl _ _).alloc (Nat.le_refl _) _).alloc (by simp) _
  have hI0 : IBlk ((w.alloc (.cells (iA (accL a)) 35)).alloc (.cells (iA [r, v]) 31)) w.heap.size 35 (accL a) := (IBlk.new _ _ _).alloc _
  have hJ0 : IBlk ((w.alloc (.cells (iA (accL a)) 35)).alloc (.cells (iA [r, v]) 31)) (w.heap.size + 1) 31 [r, v] := by
    have := IBlk.new (w.alloc (.cells (iA (accL a)) 35)) 31 [r, v]
    simpa using this
  have hs : ((w.alloc (.cells (iA (accL a)) 35)).alloc (.cells (iA [r, v]) 31)).heap.size = w.heap.size + 2 := by simp
  have hK : IBlk (((w.alloc (.cells (iA (accL a)) 35)).alloc (.cells (iA [r, v]) 31)).alloc (.cells (iA (zeros 8)) 35)) (w.heap.size + 2) 35 (zeros 8) := by
    have := IBlk.new ((w.alloc (.cells (iA (accL a)) 35)).alloc (.cells (iA [r, v]) 31)) 35 (zeros 8)
    rwa [hs] at this
  have hI := hI0.alloc (.cells (iA (zeros 8)) 35)
  have hJ := hJ0.alloc (.cells (iA (zeros 8)) 35)
  have hB := hB0.alloc hB0.size (.cells (iA (zeros 8)) 35)
  clear hB0 hI0 hJ0 hs
  have HL := fun w => hears_any a e r v w
  obtain ⟨z, hz⟩ : ∃ z, z = askA a e r v := ⟨_, rfl⟩
  rw [← hz]
  have HZ := hide hz
  clear hz
  have al := accL_length a
  have i8 := Try.infoAcc
  go_enter Try.func10, Try.ntmps10
  go_upto_region 1 with fail
  generalize ((w.alloc (.cells (iA (accL a)) 35)).alloc (.cells (iA [r, v]) 31)).alloc (.cells (iA (zeros 8)) 35) = wz at hI hJ hB hK
  obtain ⟨q1, h1⟩ := hI.whole al
  obtain ⟨q2, h2⟩ := hJ.whole (n := 2) rfl
  go_wp2_with fail
  (with_reducible refine (HL wz).mono ?_)
  rintro x w1 ⟨rfl, hb⟩
  have hI1 := hI.below hb hI.lt
  have hJ1 := hJ.below hb hJ.lt
  have hK1 := hK.below hb hK.lt
  have hB1 := hB.trans (hb.mono hB.size)
  clear hI hJ hK hB hb HL q1 h1 q2 h2
  obtain ⟨q1, h1⟩ := hI1.whole al
  obtain ⟨q2, h2⟩ := hJ1.whole (n := 2) rfl
  cases hh : hearsB a e r v with
  | false =>
    obtain rfl : z = a := by rw [HZ.out, askA, hh]; rfl
    clear HZ
    have i8a : Is 8 (accL z) := al
    have rm := hK1.room 0 8 (by rw [zeros_length]; decide)
    have g7 := hK1.fill (ys := accL z) al
    have b7 := below_only hB1 (only_cells _ (w.heap.size + 2) 0 (iV (accL z))) (fun i (e : i = w.heap.size + 2) => by omega) hB1.size
    clear hI1 hJ1 hK1 hB1
    go_wp2_with fail
    exact bodyPost_ret (results_i2 rfl rfl g7 Try.underlying35 rfl i8 _ rfl) rfl ⟨by rw [hh]; rfl, b7⟩
  | true =>
    have al2 := accL_length z
    have is2 : Is 2 [r, v] := rfl
    have rm1 := hI1.room 1 2 (by rw [al]; decide)
    have hI2 := hI1.setN (o := 1) (xs := [r, v]) (by rw [al]; show 1 + 2 ≤ 8; decide)
    rw [show (accL a).take 1 ++ [r, v] ++ (accL a).drop (1 + [r, v].length) = accL z by rw [HZ.out, askA, hh]; rfl] at hI2
    have hO2 := only_cells w1 w.heap.size 1 (iV [r, v])
    have hK2 := hK1.only hO2 (by omega)
    have hB2 := below_only hB1 hO2 (fun i (e : i = w.heap.size) => by omega) hB1.size
    have i8a : Is 8 (accL z) := al2
    clear HZ
    have HE : Hid (accL z = accL z) := hide rfl
    generalize hzz : accL z = zz at hI2 al2 i8a
    replace HE := hide hzz
    clear hzz
    go_upto_region 4 with fail
    generalize w1.setCells w.heap.size 1 (iV [r, v]) = w2 at *
    clear hI1 hJ1 hK1 hB1 q1 h1 q2 h2 rm1 hO2
    obtain ⟨q1, h1⟩ := hI2.whole al2
    have rm := hK2.room 0 8 (by rw [zeros_length]; decide)
    have g7 := hK2.fill (ys := zz) al2
    have b7 := below_only hB2 (only_cells _ (w.heap.size + 2) 0 (iV zz)) (fun i (e : i = w.heap.size + 2) => by omega) hB2.size
    clear hI2 hK2 hB2
    go_wp2_with fail
    refine bodyPost_ret (results_i2 rfl rfl g7 Try.underlying35 rfl (by rw [al2]; exact i8) _ rfl) rfl ⟨by rw [HE.out, hh]; rfl, b7⟩
end Go.Proofs.Ytoknodkgmeinmaa
