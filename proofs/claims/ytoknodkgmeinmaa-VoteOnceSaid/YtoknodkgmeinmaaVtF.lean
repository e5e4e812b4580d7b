/- Law 13's own fit. -/
import Derived.Test.YtoknodkgmeinmaaVtW
import Derived.Test.YtoknodkgmeinmaaVtT
import Derived.Test.YtoknodkgmeinmaaVtB
import Derived.Test.YtoknodkgmeinmaaVtC
import Derived.Test.YtoknodkgmeinmaaVwT
namespace Go.Proofs.Ytoknodkgmeinmaa
open Go.RowKit

def x0F : Vt := newV firstV 1 0 [0, 3, 0]
def x1F : Vt := { x0F with vo := 1 }
def x2F : Vt := { x0F with vo := 3 }
def x3F : Vt := { x2F with tk := 1 }
def x4F : Vt := { x2F with tk := 5 }
theorem x0F_ok : x0F.Ok := newV_ok firstV_ok 1 0 rfl
theorem x1F_ok : x1F.Ok := ⟨firstV_ok, rfl, by decide, by decide⟩
theorem x2F_ok : x2F.Ok := ⟨firstV_ok, rfl, by decide, by decide⟩
theorem x3F_ok : x3F.Ok := ⟨firstV_ok, rfl, by decide, by decide⟩
theorem x4F_ok : x4F.Ok := ⟨firstV_ok, rfl, by decide, by decide⟩
theorem wf_small {a b : Int} (ha : -100 ≤ a ∧ a ≤ 100000) (hb : -100 ≤ b ∧ b ≤ 100000) : wf64 [a, b] := by
  intro z hz
  have key : ∀ n : Int, -100 ≤ n → n ≤ 100000 → (Lit.int .i64 n).wf = true := fun n h1 h2 => by
    simp only [Lit.wf, Bool.and_eq_true, decide_eq_true_eq]
    exact ⟨Int.le_trans (show IntKind.i64.min ≤ -100 by decide) h1, Int.le_trans h2 (by decide)⟩
  simp only [List.mem_cons, List.not_mem_nil, or_false] at hz
  rcases hz with rfl | rfl
  · exact key _ ha.1 ha.2
  · exact key _ hb.1 hb.2
theorem fit_puts : putsB x0F = false ∧ putsB x1F = false ∧ putsB x2F = true ∧ mostB 1 7 = false ∧ mostB 5 7 = true := by decide +kernel
theorem fit_in : inV 7 0 = true ∧ inV 7 1 = true ∧ inV 7 2 = true := by decide +kernel
theorem fit_cnt {m : Nat} {x : Vt} (h : x.r = 1) (h' : x.w = 0) (hm : x.v.m = m) {k : Int} (hk : inV m k = true) : cntB x k 1 0 = true := by rw [cntB, h, h', hm, hk]; rfl
theorem heard_zero (x : Vt) (c : List Int) : heardV x 0 0 c = x := by rw [heardV, laterB]; rfl
theorem fit_v0 : vowV x0F 0 1 0 0 0 [0, 0, 0] = x1F ∧ vowB x0F 0 1 0 0 0 [0, 0, 0] = false := by
  obtain ⟨h1, h2⟩ := cnt_yes x0F 0 1 0 0 0 [0, 0, 0] fit_puts.1 (fit_cnt rfl rfl rfl fit_in.1)
  rw [heard_zero] at h1 h2
  exact ⟨h1, h2.trans fit_puts.2.1⟩
theorem fit_v1 : vowV x1F 1 1 0 0 0 [0, 0, 0] = x2F ∧ vowB x1F 1 1 0 0 0 [0, 0, 0] = true := by
  obtain ⟨h1, h2⟩ := cnt_yes x1F 1 1 0 0 0 [0, 0, 0] fit_puts.2.1 (fit_cnt rfl rfl rfl fit_in.2.1)
  rw [heard_zero] at h1 h2
  exact ⟨h1, h2.trans fit_puts.2.2.1⟩
theorem fit_t0 : takV x2F 0 1 0 = x3F ∧ takB x2F 0 1 0 = false := by
  obtain ⟨h1, h2⟩ := tak_yes x2F 0 1 0 fit_puts.2.2.1 (fit_cnt rfl rfl rfl fit_in.1)
  exact ⟨h1, h2.trans fit_puts.2.2.2.1⟩
theorem fit_t2 : takV x3F 2 1 0 = x4F ∧ takB x3F 2 1 0 = true := by
  obtain ⟨h1, h2⟩ := tak_yes x3F 2 1 0 fit_puts.2.2.1 (fit_cnt rfl rfl rfl fit_in.2.2)
  exact ⟨h1, h2.trans fit_puts.2.2.2.2⟩
attribute [local go_sem ↓] loadBltF_fold storeBltF_fold allocBltF_fold buildBltF_fold loadChgF_fold storeChgF_fold allocChgF_fold buildChgF_fold
attribute [local go_sem] loadBltF_has storeBltF_has allocBltF_run buildBltF_none buildBltF_0 buildBltF_0_1 loadChgF_has storeChgF_has allocChgF_run buildChgF_three buildChgF_none buildChgF_two
set_option maxRecDepth 100000 in
set_option maxHeartbeats 3200000 in
theorem fit13_any (w : World) : Calls Try.prog 6 #[] w fun e w' => e = .returned (.bool true) ∧ Below w.heap.size w w' := by
  have ws := wf_small (a := 1) (b := 0) (by decide) (by decide)
  have hz3 : zeros 3 = [0, 0, 0] := rfl
  have H0 := fun w => vnew_any firstV rfl 1 0 [0, 3, 0] rfl w
  have H1 := fun p w h => vVowed_any x0F x0F_ok ws 0 1 0 0 0 ws [0, 0, 0] rfl p w h
  have H2 := fun p w h => vVowed_any x1F x1F_ok ws 1 1 0 0 0 ws [0, 0, 0] rfl p w h
  have H3 := fun p w h => vTaken_any x2F x2F_ok ws 0 1 0 ws p w h
  have H4 := fun p w h => vTaken_any x3F x3F_ok ws 2 1 0 ws p w h
  have H5 := fun p w h => vChange_any x4F x4F_ok p w h
  have H6 := fun p w h => vBallot_any x4F x4F_ok p w h
  have H7 := fun w => less_any 1 0 0 0 w
  rw [show lessB 1 0 0 0 = false from rfl] at H7
  rw [fit_v0.1, fit_v0.2] at H1
  rw [fit_v1.1, fit_v1.2] at H2
  rw [fit_t0.1, fit_t0.2] at H3
  rw [fit_t2.1, fit_t2.2] at H4
  rw [show newV firstV 1 0 [0, 3, 0] = x0F from rfl] at H0
  rw [show x4F.c = [0, 3, 0] from rfl] at H5
  rw [show [x4F.r, x4F.w] = [1, 0] from rfl] at H6
  rw [← hz3] at H1 H2
  clear hz3 ws
  generalize x0F = x0 at H0 H1
  generalize x1F = x1 at H1 H2
  generalize x2F = x2 at H2 H3
  generalize x3F = x3 at H3 H4
  generalize x4F = x4 at H4 H5 H6
  go_enter Try.func6, Try.ntmps6
  go_wp2_with fail
  (with_reducible refine (first_any w).mono ?_)
  rintro e w1 ⟨rfl, B1⟩
  go_wp2_with fail
  (with_reducible refine (H0 w1).mono ?_)
  rintro e w2 ⟨g, rfl, hg, I2, hb⟩
  have B2 := B1.trans (hb.mono B1.size)
  have hg0 := Nat.le_trans B1.size hg
  clear B1 hb H0 hg
  go_wp2_with fail
  (with_reducible refine (H1 g w2 I2).mono ?_)
  rintro e w3 ⟨rfl, I3, hb⟩
  have B3 := below_only B2 hb (fun i (e : i = g) => by omega) B2.size
  clear B2 hb I2 H1
  go_wp2_with fail
  (with_reducible refine (H2 g w3 I3).mono ?_)
  rintro e w4 ⟨rfl, I4, hb⟩
  have B4 := below_only B3 hb (fun i (e : i = g) => by omega) B3.size
  clear B3 hb I3 H2
  go_wp2_with fail
  (with_reducible refine (H3 g w4 I4).mono ?_)
  rintro e w5 ⟨rfl, I5, hb⟩
  have B5 := below_only B4 hb (fun i (e : i = g) => by omega) B4.size
  clear B4 hb I4 H3
  go_wp2_with fail
  (with_reducible refine (H4 g w5 I5).mono ?_)
  rintro e w6 ⟨rfl, I6, hb⟩
  have B6 := below_only B5 hb (fun i (e : i = g) => by omega) B5.size
  clear B5 hb I5 H4
  go_wp2_with fail
  (with_reducible refine (H5 g w6 I6).mono ?_)
  rintro e w7 ⟨rfl, hb⟩
  have I7 := I6.below hb I6.lt
  have B7 := B6.trans (hb.mono B6.size)
  clear B6 hb I6 H5
  have hfd : (Instr.field 33 (.agg (iA [0, 3, 0])) 1).run Try.prog w7 = .ok (.int .i64 3) w7 := by kernel_rfl
  go_wp2_with fail
  (with_reducible refine (H6 g w7 I7).mono ?_)
  rintro e w8 ⟨rfl, hb⟩
  have B8 := B7.trans (hb.mono B7.size)
  clear B7 hb I7 H6
  go_wp2_with fail
  (with_reducible refine (H7 w8).mono ?_)
  rintro e w9 ⟨rfl, hb⟩
  have B9 := B8.trans (hb.mono B8.size)
  go_wp2_with fail
  go_ret
  exact ⟨rfl, B9⟩
end Go.Proofs.Ytoknodkgmeinmaa
