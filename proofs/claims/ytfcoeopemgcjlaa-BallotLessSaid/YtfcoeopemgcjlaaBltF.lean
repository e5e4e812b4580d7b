/- Law 12's own fit. -/
import Derived.Test.YtfcoeopemgcjlaaBltK
import Derived.Test.YtfcoeopemgcjlaaBltU
namespace Go.Proofs.Ytfcoeopemgcjlaa
open Go.RowKit

attribute [local go_sem ↓] loadBltF_fold storeBltF_fold allocBltF_fold buildBltF_fold loadAccF_fold storeAccF_fold allocAccF_fold buildAccF_fold loadChgF_fold storeChgF_fold allocChgF_fold buildChgF_fold
attribute [local go_sem] loadBltF_has storeBltF_has allocBltF_run buildBltF_none buildBltF_0 buildBltF_0_1 loadAccF_has storeAccF_has allocAccF_run buildAccF_none buildAccF_0 loadChgF_has storeChgF_has allocChgF_run buildChgF_three buildChgF_none
set_option maxRecDepth 100000 in
set_option maxHeartbeats 3200000 in
theorem fit12_any (w : World) : Calls Try.prog 6 #[] w fun e w' => e = .returned (.bool true) ∧ Below w.heap.size w w' := by
  have HA := fun w => ask_any ⟨1, 0, 0, 0, 0, 0, 0, 0⟩ 1 2 0 w
  rw [show hearsB ⟨1, 0, 0, 0, 0, 0, 0, 0⟩ 1 2 0 = true from rfl, show accL (askA ⟨1, 0, 0, 0, 0, 0, 0, 0⟩ 1 2 0) = [1, 2, 0, 0, 0, 0, 0, 0] from rfl, show accL ⟨1, 0, 0, 0, 0, 0, 0, 0⟩ = [1, 0, 0, 0, 0, 0, 0, 0] from rfl] at HA
  have HP := fun w => put_any ⟨1, 2, 0, 0, 0, 0, 0, 0⟩ 1 1 0 0 0 0 w
  rw [show hearsB ⟨1, 2, 0, 0, 0, 0, 0, 0⟩ 1 1 0 = false from rfl, show accL (putA ⟨1, 2, 0, 0, 0, 0, 0, 0⟩ 1 1 0 0 0 0) = [1, 2, 0, 0, 0, 0, 0, 0] from rfl, show accL ⟨1, 2, 0, 0, 0, 0, 0, 0⟩ = [1, 2, 0, 0, 0, 0, 0, 0] from rfl] at HP
  rw [show Value.agg (iA [0, 0, 0]) = Value.agg (iA (zeros 3)) from rfl] at HP
  have HL := fun w => less_any 1 0 1 1 w
  rw [show lessB 1 0 1 1 = true from rfl] at HL
  have hl : ([1, 2, 0, 0, 0, 0, 0, 0] : List Int).length = 8 := rfl
  have hi8 : Is 8 [1, 2, 0, 0, 0, 0, 0, 0] := rfl
  have z1 : ([1, 2, 0, 0, 0, 0, 0, 0] : List Int)[1]? = some 2 := rfl
  generalize ([1, 2, 0, 0, 0, 0, 0, 0] : List Int) = zz at *
  go_enter Try.func6, Try.ntmps6
  go_wp2_with fail
  (with_reducible refine (HA w).mono ?_)
  rintro e w1 ⟨rfl, B1⟩
  obtain ⟨rm, hX, hO, B2⟩ := lay (t := 29) B1 hl B1.size
  clear HA
  go_upto_region 2 with fail
  generalize w1.heap.size = p at hX hO B2
  generalize (w1.alloc (.cells (iA (zeros 8)) 29)).setCells p 0 (iV zz) = w2 at hX hO B2
  clear rm hO B1
  obtain ⟨q1, h1⟩ := hX.whole hl
  go_wp2_with fail
  (with_reducible refine (HP w2).mono ?_)
  rintro e w3 ⟨rfl, hb3⟩
  have hX3 := hX.below hb3 hX.lt
  have B3 := B2.trans (hb3.mono B2.size)
  clear hX B2 hb3 HP q1 h1
  obtain ⟨rm, hY, hO, B4⟩ := lay (t := 29) B3 hl B3.size
  have hX4 := hX3.only hO (fun h => h)
  go_upto_region 3 with fail
  generalize w3.heap.size = p at hX4 hY hO B4
  generalize (w3.alloc (.cells (iA (zeros 8)) 29)).setCells p 0 (iV zz) = w4 at hX4 hY hO B4
  have c1 := hX4.cellAt 1 2 z1
  clear rm hO B3 hX3 hX4 hY
  go_wp2_with fail
  (with_reducible refine (HL w4).mono ?_)
  rintro e w5 ⟨rfl, hb5⟩
  go_wp2_with fail
  go_ret
  exact ⟨rfl, B4.trans (hb5.mono B4.size)⟩
end Go.Proofs.Ytfcoeopemgcjlaa
