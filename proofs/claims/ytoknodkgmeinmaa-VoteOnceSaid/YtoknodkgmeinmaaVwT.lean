/- The contract of view's First. -/
import Derived.Test.YtoknodkgmeinmaaVwP
import Derived.RegionTactic
import Derived.Deep.Draws
import Derived.Deep.RegionWith
import Derived.Deep.DeepCutAuto
namespace Go.Proofs.Ytoknodkgmeinmaa
open Go.RowKit

attribute [local go_sem ↓] loadViewF_fold storeViewF_fold allocViewF_fold buildViewF_fold
attribute [local go_sem] loadViewF_has storeViewF_has allocViewF_run buildViewF_none buildViewF_two
set_option maxRecDepth 100000 in
theorem first_any (w : World) :
    Calls Try.prog 18 #[] w fun e w' => e = .returned (.agg (iA (zV firstV))) ∧ Below w.heap.size w w' := by
  obtain ⟨hrm, hX, hO, hB⟩ := lay (n := 7) (t := 27) (w := w) (a := w) (B := w.heap.size) (g := [1, 7, 0, 0, 0, 0, 0]) (Below.refl _ _) rfl (Nat.le_refl _)
  have hi : Is 7 [1, 7, 0, 0, 0, 0, 0] := rfl
  go_enter Try.func18, Try.ntmps18
  go_wp2_with fail
  exact bodyPost_ret (results_i rfl rfl hX Try.underlying27 rfl Try.infoView) rfl ⟨rfl, hB⟩
end Go.Proofs.Ytoknodkgmeinmaa
