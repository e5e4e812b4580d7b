/- The contract of ballot's Put. -/
import Derived.Test.YtoknodkgmeinmaaBltH
namespace Go.Proofs.Ytoknodkgmeinmaa
open Go.RowKit

attribute [local go_sem ↓] loadBltF_fold storeBltF_fold allocBltF_fold buildBltF_fold loadAccF_fold storeAccF_fold allocAccF_fold buildAccF_fold loadChgF_fold storeChgF_fold allocChgF_fold buildChgF_fold
attribute [local go_sem] loadBltF_has storeBltF_has allocBltF_run buildBltF_none buildBltF_0 buildBltF_0_1 loadAccF_has storeAccF_has allocAccF_run buildAccF_none buildAccF_0 loadChgF_has storeChgF_has allocChgF_run buildChgF_three buildChgF_none
set_option maxRecDepth 100000 in
set_option maxHeartbeats 1600000 in
theorem put_any (a : Acc) (e r v k x j : Int) (w : World) :
    Calls Try.prog 15 #[.agg (iA (accL a)), .int .i64 e, .agg (iA [r, v]), .agg (iA [k, x, j])] w fun e' w' => e' = .returned (.tuple #[.agg (iA (accL (putA a e r v k x j))), .bool (hearsB a e r v)]) ∧ Below w.heap.size w w' := by
  obtain ⟨w0, hw0⟩ : ∃ w0, w0 = (w.alloc (.cells (iA (accL a)) 35)).alloc (.cells (iA [r, v]) 31) := ⟨_, rfl⟩
  have hB0 : Below w.heap.size w w0 := by rw [hw0]; exact ((Below.refl _ _).alloc (Nat.le_refl _) _).alloc (by simp) _
  have hI0 : IBlk w0 w.heap.size 35 (accL a) := by rw [hw0]; exact (IBlk.new _ _ _).alloc _
  have hJ0 : IBlk w0 (w.heap.size + 1) 31 [r, v] := by
    have := IBlk.new (w.alloc (.cells (iA (accL a)) 35)) 31 [r, v]
    rw [hw0]
    simpa using this
  have hs : w0.heap.size = w.heap.size + 2 := by rw [hw0]; simp
  have hC0 : IBlk (w0.alloc (.cells (iA [k, x, j]) 33)) (w.heap.size + 2) 33 [k, x, j] := by
    have := IBlk.new w0 33 [k, x, j]
    rwa [hs] at this
  have hs3 : (w0.alloc (.cells (iA [k, x, j]) 33)).heap.size = w.heap.size + 3 := by simp [hs]
  have hK : IBlk ((w0.alloc (.cells (iA [k, x, j]) 33)).alloc (.cells (iA (zeros 8)) 35)) (w.heap.size + 3) 35 (zeros 8) := by
    have := IBlk.new (w0.alloc (.cells (iA [k, x, j]) 33)) 35 (zeros 8)
    rwa [hs3] at this
  have hI := (hI0.alloc (.cells (iA [k, x, j]) 33)).alloc (.cells (iA (zeros 8)) 35)
  have hJ := (hJ0.alloc (.cells (iA [k, x, j]) 33)).alloc (.cells (iA (zeros 8)) 35)
  have hC := hC0.alloc (.cells (iA (zeros 8)) 35)
  have hB := (hB0.alloc hB0.size (.cells (iA [k, x, j]) 33)).alloc (by rw [hs3]; omega) (.cells (iA (zeros 8)) 35)
  rw [hw0] at hI hJ hC hB hK
  clear hB0 hI0 hJ0 hs hs3 hC0 hw0 w0
  have HL := fun w => hears_any a e r v w
  obtain ⟨z, hz⟩ : ∃ z, z = putA a e r v k x j := ⟨_, rfl⟩
  rw [← hz]
  have HZ := hide hz
  clear hz
  have al := accL_length a
  have i8 := Try.infoAcc
  go_enter Try.func15, Try.ntmps15
  go_upto_region 1 with fail
  generalize (((w.alloc (.cells (iA (accL a)) 35)).alloc (.cells (iA [r, v]) 31)).alloc (.cells (iA [k, x, j]) 33)).alloc (.cells (iA (zeros 8)) 35) = wz at hI hJ hB hK hC
  obtain ⟨q1, h1⟩ := hI.whole al
  obtain ⟨q2, h2⟩ := hJ.whole (n := 2) rfl
  go_wp2_with fail
  (with_reducible refine (HL wz).mono ?_)
  rintro x1 w1 ⟨rfl, hb⟩
  have hI1 := hI.below hb hI.lt
  have hJ1 := hJ.below hb hJ.lt
  have hK1 := hK.below hb hK.lt
  have hC1 := hC.below hb hC.lt
  have hB1 := hB.trans (hb.mono hB.size)
  clear hI hJ hK hB hC hb HL q1 h1 q2 h2
  cases hh : hearsB a e r v with
  | false =>
    obtain ⟨q1, h1⟩ := hI1.whole al
    obtain rfl : z = a := by rw [HZ.out, putA, hh]; rfl
    clear HZ
    have i8a : Is 8 (accL z) := al
    have rm := hK1.room 0 8 (by rw [zeros_length]; decide)
    have g7 := hK1.fill (ys := accL z) al
    have b7 := below_only hB1 (only_cells _ (w.heap.size + 3) 0 (iV (accL z))) (fun i (e : i = w.heap.size + 3) => by omega) hB1.size
    clear hI1 hJ1 hK1 hB1
    go_wp2_with fail
    exact bodyPost_ret (results_i2 rfl rfl g7 Try.underlying35 rfl i8 _ rfl) rfl ⟨by rw [hh]; rfl, b7⟩
  | true =>
    have al2 := accL_length z
    have is2 : Is 2 [r, v] := rfl
    have is3 : Is 3 [k, x, j] := rfl
    obtain ⟨q1, h1⟩ := hJ1.drew.whole (n := 2) rfl
    obtain ⟨q2, h2⟩ := hC1.drew.whole (n := 3) rfl
    have rm1 := hI1.drew.room 1 2 (by rw [al]; decide)
    have rm2 := (hI1.drew.room 3 2 (by rw [al]; decide)).cells w.heap.size 1 (iV [r, v])
    have rm3 := ((hI1.drew.room 5 3 (by rw [al]; decide)).cells w.heap.size 1 (iV [r, v])).cells w.heap.size 3 (iV [r, v])
    have hI2 := hI1.drew.setN (o := 1) (xs := [r, v]) (by rw [al]; show 1 + 2 ≤ 8; decide)
    have hI3 := hI2.setN (o := 3) (xs := [r, v]) (by show 3 + 2 ≤ 8; decide)
    have hI4 := hI3.setN (o := 5) (xs := [k, x, j]) (by show 5 + 3 ≤ 8; decide)
    have HE := hide (show _ = accL z from (show [a.e, r, v, r, v, k, x, j] = accL z by rw [HZ.out, putA, hh]; rfl))
    have hI5 : IBlk (((w1.drew.setCells w.heap.size 1 (iV [r, v])).setCells w.heap.size 3 (iV [r, v])).setCells w.heap.size 5 (iV [k, x, j])) w.heap.size 35 [a.e, r, v, r, v, k, x, j] := hI4
    rw [HE.out] at hI5
    have hO1 := only_cells w1.drew w.heap.size 1 (iV [r, v])
    have hO2 := only_cells (w1.drew.setCells w.heap.size 1 (iV [r, v])) w.heap.size 3 (iV [r, v])
    have hO3 := only_cells ((w1.drew.setCells w.heap.size 1 (iV [r, v])).setCells w.heap.size 3 (iV [r, v])) w.heap.size 5 (iV [k, x, j])
    have hO := (hO1.trans_ hO2).trans_ hO3
    have hK2 := hK1.drew.only hO (by omega)
    have hB2 := below_only (Below.drewR hB1) hO (fun i (e : i = w.heap.size) => by omega) hB1.size
    have hJ2 := hJ1.drew.only hO1 (by omega)
    have hC2 := hC1.drew.only hO1 (by omega)
    have hJ3 := hJ2.only hO2 (by omega)
    have hC3 := hC2.only hO2 (by omega)
    obtain ⟨q3, h3⟩ := hJ2.whole (n := 2) rfl
    obtain ⟨q4, h4⟩ := hC2.whole (n := 3) rfl
    obtain ⟨q6, h6⟩ := hC3.whole (n := 3) rfl
    clear hJ2 hC2 hJ3 hC3
    go_upto_region 3 with fail
    clear HE HZ hI1 hJ1 hK1 hC1 hB1 hI2 hI3 hI4 hO1 hO2 hO3 hO
    go_region
    all_goals
      change Exit.then _ _ _ _ (((w1.drew.setCells w.heap.size 1 (iV [r, v])).setCells w.heap.size 3 (iV [r, v])).setCells w.heap.size 5 (iV [k, x, j]))
      generalize ((w1.drew.setCells w.heap.size 1 (iV [r, v])).setCells w.heap.size 3 (iV [r, v])).setCells w.heap.size 5 (iV [k, x, j]) = w2 at hI5 hK2 hB2 ⊢
      clear q1 h1 q2 h2 q3 h3 q4 h4 q6 h6 rm1 rm2 rm3
      obtain ⟨q1, h1⟩ := hI5.whole al2
      have i8a : Is 8 (accL z) := al2
      have rm := hK2.room 0 8 (by rw [zeros_length]; decide)
      have g7 := hK2.fill (ys := accL z) al2
      have b7 := below_only hB2 (only_cells _ (w.heap.size + 3) 0 (iV (accL z))) (fun i (e : i = w.heap.size + 3) => by omega) hB2.size
      clear hI5 hK2 hB2
      go_wp2_with fail
      exact bodyPost_ret (results_i2 rfl rfl g7 Try.underlying35 rfl (by rw [al2]; exact i8) _ rfl) rfl ⟨by rw [hh]; rfl, b7⟩
end Go.Proofs.Ytoknodkgmeinmaa
