/- The contract of vote's Putting. -/
import Derived.Test.YtoknodkgmeinmaaVtL
import Derived.Test.YtoknodkgmeinmaaVwE
namespace Go.Proofs.Ytoknodkgmeinmaa
open Go.RowKit

attribute [local go_sem ↓] loadViewF_fold storeViewF_fold allocViewF_fold buildViewF_fold loadBltF_fold storeBltF_fold allocBltF_fold buildBltF_fold loadChgF_fold storeChgF_fold allocChgF_fold buildChgF_fold
attribute [local go_sem] loadViewF_has storeViewF_has allocViewF_run buildViewF_none buildViewF_two loadBltF_has storeBltF_has allocBltF_run buildBltF_none buildBltF_0 buildBltF_0_1 loadChgF_has storeChgF_has allocChgF_run buildChgF_three buildChgF_none
set_option maxRecDepth 100000 in
set_option maxHeartbeats 1600000 in
theorem vPutting_any (x : Vt) (hx : x.Ok) (p : Nat) (w : World) (hI : IBlk w p 70 (vtL x)) :
    Calls Try.prog 13 #[.pointer (some ⟨p, 0, none⟩)] w fun e w' => e = .returned (.bool (putsB x)) ∧ Below w.heap.size w w' := by
  have HL := fun w => enough_any x.v hx.v.len (x.vo : Int) w
  obtain ⟨q1, h1⟩ := vt_gotV hx hI.drew
  have c1 := vt_vo hx hI.drew
  clear hI
  rw [show mostB (x.vo : Int) (x.v.m : Int) = putsB x from rfl] at HL
  generalize (x.vo : Int) = vo at c1 HL
  generalize putsB x = pb at HL ⊢
  go_enter Try.func13, Try.ntmps13
  go_upto_region 1 with fail
  go_region_with
    (go_at_call 24
     (with_reducible refine (HL _).mono ?_)
     rintro e w2 ⟨rfl, hb⟩)
  all_goals
    go_wp2_with fail
    go_ret
    exact ⟨rfl, (Below.drewR (Below.refl w.heap.size w)).trans hb⟩
end Go.Proofs.Ytoknodkgmeinmaa
