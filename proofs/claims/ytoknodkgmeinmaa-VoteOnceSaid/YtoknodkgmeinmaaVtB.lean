/- The contract of vote's Ballot. -/
import Derived.Test.YtoknodkgmeinmaaVtL
namespace Go.Proofs.Ytoknodkgmeinmaa
open Go.RowKit

attribute [local go_sem ↓] loadViewF_fold storeViewF_fold allocViewF_fold buildViewF_fold loadBltF_fold storeBltF_fold allocBltF_fold buildBltF_fold loadChgF_fold storeChgF_fold allocChgF_fold buildChgF_fold
attribute [local go_sem] loadViewF_has storeViewF_has allocViewF_run buildViewF_none buildViewF_two loadBltF_has storeBltF_has allocBltF_run buildBltF_none buildBltF_0 buildBltF_0_1 loadChgF_has storeChgF_has allocChgF_run buildChgF_three buildChgF_none
set_option maxRecDepth 100000 in
set_option maxHeartbeats 1600000 in
theorem vBallot_any (x : Vt) (hx : x.Ok) (p : Nat) (w : World) (hI : IBlk w p 70 (vtL x)) :
    Calls Try.prog 11 #[.pointer (some ⟨p, 0, none⟩)] w fun e w' => e = .returned (.agg (iA ([x.r, x.w]))) ∧ Below w.heap.size w w' := by
  obtain ⟨z, hz⟩ : ∃ z, z = [x.r, x.w] := ⟨_, rfl⟩
  have hl : z.length = 2 := by rw [hz]; rfl
  have i1 : Is 2 z := hl
  have hI1 := hI.alloc (.cells (iA (zeros 2)) 31)
  have g := vt_gotB hx hI1
  rw [← hz] at g ⊢
  obtain ⟨q1, h1⟩ := g
  have hB := (Below.refl w.heap.size w).alloc (Nat.le_refl _) (.cells (iA (zeros 2)) 31)
  have hN := IBlk.new w 31 (zeros 2)
  have hne : w.heap.size < (w.alloc (.cells (iA (zeros 2)) 31)).heap.size := by simp
  clear hI hI1 hz
  go_enter Try.func11, Try.ntmps11
  go_upto_region 1 with fail
  generalize w.alloc (.cells (iA (zeros 2)) 31) = w1 at q1 h1 hB hN hne
  have rm := hN.room 0 2 (by rw [zeros_length]; decide)
  have hF := hN.fill (ys := z) (by rw [hl, zeros_length])
  have b2 := below_only hB (only_cells w1 w.heap.size 0 (iV z)) (fun i (e : i = w.heap.size) => by omega) hB.size
  clear hB hN hne
  go_wp2_with fail
  exact bodyPost_ret (results_i rfl rfl hF Try.underlying31 rfl (by rw [hl]; exact Try.infoBlt)) rfl ⟨rfl, b2⟩
end Go.Proofs.Ytoknodkgmeinmaa
