/- The contract of view's Next. -/
import Derived.Test.YtoknodkgmeinmaaVwL
namespace Go.Proofs.Ytoknodkgmeinmaa
open Go.RowKit

theorem resVw_len {o : Option V} (h : ∀ v, o = some v → v.h.length = 5) : (resVw o).length = 7 := by
  cases o with
  | none => exact zeros_length 7
  | some v => exact zV_length (h v rfl)
theorem joinR_len {v : V} (h : v.Ok) (who : Int) : (resVw (joinR v who)).length = 7 := resVw_len fun u hu => by
  unfold joinR at hu
  split at hu
  · injection hu with hu; subst hu; exact h.len
  · cases hu
theorem leaveR_len (v : V) (who heir : Int) : (resVw (leaveR v who heir)).length = 7 := resVw_len fun u hu => by
  unfold leaveR at hu
  split at hu
  · injection hu with hu; subst hu; simp [leaveV]
  · cases hu
attribute [local go_sem ↓] loadViewF_fold storeViewF_fold allocViewF_fold buildViewF_fold
attribute [local go_sem] loadViewF_has storeViewF_has allocViewF_run buildViewF_none buildViewF_two
set_option maxRecDepth 100000 in
set_option maxHeartbeats 3200000 in
theorem next_any (v : V) (ho : v.Ok) (he : v.e < 1000000) (c : List Int) (hc : c.length = 3) (w : World) :
    Calls Try.prog 8 #[.agg (iA (zV v)), .agg (iA c)] w fun e w' => e = .returned (.tuple #[.agg (iA (resVw (nextL v c))), .int .i64 (resE (nextL v c))]) ∧ Below w.heap.size w w' := by
  have hI : IBlk (((w.alloc (.cells (iA (zV v)) 27)).alloc (.cells (iA c) 33)).alloc (.cells (iA (zeros 7)) 27)) w.heap.size 27 (zV v) := ((IBlk.new _ _ _).alloc _).alloc _
  have hC : IBlk (((w.alloc (.cells (iA (zV v)) 27)).alloc (.cells (iA c) 33)).alloc (.cells (iA (zeros 7)) 27)) (w.heap.size + 1) 33 c := by
    have := (IBlk.new (w.alloc (.cells (iA (zV v)) 27)) 33 c).alloc (.cells (iA (zeros 7)) 27)
    simpa using this
  have hJ : IBlk (((w.alloc (.cells (iA (zV v)) 27)).alloc (.cells (iA c) 33)).alloc (.cells (iA (zeros 7)) 27)) (w.heap.size + 2) 27 (zeros 7) := by
    have := IBlk.new ((w.alloc (.cells (iA (zV v)) 27)).alloc (.cells (iA c) 33)) 27 (zeros 7)
    simpa using this
  have hB : Below w.heap.size w (((w.alloc (.cells (iA (zV v)) 27)).alloc (.cells (iA c) 33)).alloc (.cells (iA (zeros 7)) 27)) := (((Below.refl _ _).alloc (Nat.le_refl _) _).alloc (by simp) _).alloc (by simp only [World.size_alloc]; omega) _
  have zl := zV_length ho.len
  have i7 := Try.infoView
  have iz := is_zeros 7
  have bad : ∀ w2, Below w.heap.size w w2 → IBlk w2 (w.heap.size + 2) 27 (zeros 7) → ∀ zz : List Int, zz.length = 7 → Room w2 (w.heap.size + 2) 0 7 ∧ IBlk (w2.setCells (w.heap.size + 2) 0 (iV zz)) (w.heap.size + 2) 27 zz ∧ Below w.heap.size w (w2.setCells (w.heap.size + 2) 0 (iV zz)) := fun w2 hB2 hJ2 zz hz =>
    ⟨hJ2.room 0 7 (by rw [zeros_length]; decide), hJ2.fill hz, below_only hB2 (only_cells _ (w.heap.size + 2) 0 (iV zz)) (fun i (e : i = w.heap.size + 2) => by omega) hB2.size⟩
  have c0 := hC.cell (i := 0) (by omega)
  have c1 := hC.cell (i := 1) (by omega)
  have c2 := hC.cell (i := 2) (by omega)
  unfold nextL
  generalize c.getD 0 0 = kd at *
  generalize c.getD 1 0 = who at *
  generalize c.getD 2 0 = heir at *
  obtain ⟨r1, h1⟩ := hI.whole zl
  by_cases k0 : kd = 0
  · subst k0
    rw [show nextV v 0 who heir = joinR v who from rfl]
    have hz := joinR_len ho who
    have hJn := fun w => join_any v ho he who w
    generalize resE (joinR v who) = er at *
    generalize resVw (joinR v who) = zz at *
    have hzi : Is 7 zz := hz
    clear c2
    go_enter Try.func8, Try.ntmps8
    go_upto_region 1 with fail
    generalize ((w.alloc (.cells (iA (zV v)) 27)).alloc (.cells (iA c) 33)).alloc (.cells (iA (zeros 7)) 27) = w1 at *
    go_wp2_with fail
    (with_reducible refine (hJn w1).mono ?_)
    rintro e w2 ⟨rfl, hb2⟩
    obtain ⟨b1, b2, b3⟩ := bad w2 (hB.trans (hb2.mono hB.size)) (hJ.below hb2 hJ.lt) zz hz
    clear bad c0 c1 hI hJ hB hC h1 r1
    go_wp2_with fail
    exact bodyPost_ret (results_i2 rfl rfl b2 Try.underlying27 rfl (by rw [hz]; exact i7) _ rfl) rfl ⟨rfl, b3⟩
  · have d0 : (kd == 0) = false := by simpa using k0
    by_cases k1 : kd = 1
    · subst k1
      rw [show nextV v 1 who heir = leaveR v who heir from rfl]
      have hz := leaveR_len v who heir
      have hJn := fun w => leave_any v ho he who heir w
      generalize resE (leaveR v who heir) = er at *
      generalize resVw (leaveR v who heir) = zz at *
      have hzi : Is 7 zz := hz
      clear d0 k0
      go_enter Try.func8, Try.ntmps8
      go_upto_region 1 with fail
      generalize ((w.alloc (.cells (iA (zV v)) 27)).alloc (.cells (iA c) 33)).alloc (.cells (iA (zeros 7)) 27) = w1 at *
      go_wp2_with fail
      (with_reducible refine (hJn w1).mono ?_)
      rintro e w2 ⟨rfl, hb2⟩
      obtain ⟨b1, b2, b3⟩ := bad w2 (hB.trans (hb2.mono hB.size)) (hJ.below hb2 hJ.lt) zz hz
      clear bad c0 c1 hI hJ hB hC h1 r1
      go_wp2_with fail
      exact bodyPost_ret (results_i2 rfl rfl b2 Try.underlying27 rfl (by rw [hz]; exact i7) _ rfl) rfl ⟨rfl, b3⟩
    · have d1 : (kd == 1) = false := by simpa using k1
      rw [show nextV v kd who heir = none by rw [nextV, if_neg k0, if_neg k1]]
      obtain ⟨b1, b2, b3⟩ := bad _ hB hJ (zeros 7) (zeros_length 7)
      clear bad k0 k1
      go_enter Try.func8, Try.ntmps8
      go_upto_region 1 with fail
      generalize ((w.alloc (.cells (iA (zV v)) 27)).alloc (.cells (iA c) 33)).alloc (.cells (iA (zeros 7)) 27) = w1 at *
      go_wp2_with fail
      exact bodyPost_ret (results_i2 rfl rfl b2 Try.underlying27 rfl i7 _ rfl) rfl ⟨rfl, b3⟩
end Go.Proofs.Ytoknodkgmeinmaa
