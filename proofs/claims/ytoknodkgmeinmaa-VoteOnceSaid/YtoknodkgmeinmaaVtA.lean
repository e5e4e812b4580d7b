/- Votes folded; New. -/
import Derived.Test.YtoknodkgmeinmaaVtP
namespace Go.Proofs.Ytoknodkgmeinmaa
open Go.RowKit

theorem Try.infoVt : (Try.prog.info? 70).map (·.size) = some 16 := by kernel_rfl
def allocVtF (b : Bool) (x : Value) : Sem Value := Instr.alloc 70 b x
theorem allocVtF_fold (b : Bool) (x : Value) : Instr.alloc 70 b x = allocVtF b x := rfl
theorem allocVtF_run (w : World) : (allocVtF true (.tuple #[])).run Try.prog w = .ok (.pointer (some ⟨w.heap.size, 0, none⟩)) (w.alloc (.cells (iA (zeros 16)) 70)) := by kernel_rfl
def buildVtF (x : Array (Nat × Value)) : Sem Value := Instr.build 70 x
theorem buildVtF_fold (x : Array (Nat × Value)) : Instr.build 70 x = buildVtF x := rfl
theorem lit7 {l : List Int} (h : Is 7 l) : ∃ a b c d e f g, l = [a, b, c, d, e, f, g] := by
  match l, h with
  | [a, b, c, d, e, f, g], _ => exact ⟨a, b, c, d, e, f, g, rfl⟩
theorem lit2 {l : List Int} (h : Is 2 l) : ∃ a b, l = [a, b] := by
  match l, h with
  | [a, b], _ => exact ⟨a, b, rfl⟩
theorem lit3 {l : List Int} (h : Is 3 l) : ∃ a b c, l = [a, b, c] := by
  match l, h with
  | [a, b, c], _ => exact ⟨a, b, c, rfl⟩
theorem buildVtF_three {vs bs cs : List Int} (hv : Is 7 vs) (hb : Is 2 bs) (hc : Is 3 cs) (w : World) :
    (buildVtF #[(0, .agg (iA vs)), (1, .agg (iA bs)), (2, .agg (iA cs))]).run Try.prog w = .ok (.agg (iA (vs ++ (bs ++ cs ++ [0, 0, 0, 0])))) w := by
  obtain ⟨a, b, c, d, e, f, g, rfl⟩ := lit7 hv
  obtain ⟨x, y, rfl⟩ := lit2 hb
  obtain ⟨p, q, r, rfl⟩ := lit3 hc
  exact run_build w _ _ _ (by kernel_rfl)
/-- Blocks that are made one behind another. -/
theorem two_new (w : World) (t1 t2 : TypeId) (l1 l2 : List Int) :
    IBlk ((w.alloc (.cells (iA l1) t1)).alloc (.cells (iA l2) t2)) w.heap.size t1 l1 ∧ IBlk ((w.alloc (.cells (iA l1) t1)).alloc (.cells (iA l2) t2)) (w.heap.size + 1) t2 l2 ∧
      Below w.heap.size w ((w.alloc (.cells (iA l1) t1)).alloc (.cells (iA l2) t2)) ∧ ((w.alloc (.cells (iA l1) t1)).alloc (.cells (iA l2) t2)).heap.size = w.heap.size + 1 + 1 :=
  ⟨(IBlk.new _ _ _).alloc _, by have := IBlk.new (w.alloc (.cells (iA l1) t1)) t2 l2; simpa using this, ((Below.refl _ _).alloc (Nat.le_refl _) _).alloc (by simp) _, by simp⟩
theorem three_new (w : World) (t1 t2 t3 : TypeId) (l1 l2 l3 : List Int) :
    IBlk (((w.alloc (.cells (iA l1) t1)).alloc (.cells (iA l2) t2)).alloc (.cells (iA l3) t3)) w.heap.size t1 l1 ∧ IBlk (((w.alloc (.cells (iA l1) t1)).alloc (.cells (iA l2) t2)).alloc (.cells (iA l3) t3)) (w.heap.size + 1) t2 l2 ∧
      IBlk (((w.alloc (.cells (iA l1) t1)).alloc (.cells (iA l2) t2)).alloc (.cells (iA l3) t3)) (w.heap.size + 1 + 1) t3 l3 ∧ Below w.heap.size w (((w.alloc (.cells (iA l1) t1)).alloc (.cells (iA l2) t2)).alloc (.cells (iA l3) t3)) ∧
      (((w.alloc (.cells (iA l1) t1)).alloc (.cells (iA l2) t2)).alloc (.cells (iA l3) t3)).heap.size = w.heap.size + 1 + 1 + 1 := by
  obtain ⟨h1, h2, h3, h4⟩ := two_new w t1 t2 l1 l2
  refine ⟨h1.alloc _, h2.alloc _, ?_, h3.alloc (by omega) _, by simp⟩
  have := IBlk.new ((w.alloc (.cells (iA l1) t1)).alloc (.cells (iA l2) t2)) t3 l3
  rwa [h4] at this
/-- A vote of which nobody told anything yet. -/
def newV (v : V) (r w : Int) (c : List Int) : Vt := ⟨v, r, w, c, 0, 0, 0, 0⟩
theorem newV_ok {v : V} (h : v.Ok) (r w : Int) {c : List Int} (hc : c.length = 3) : (newV v r w c).Ok := ⟨h, hc, Nat.zero_lt_succ _, Nat.zero_lt_succ _⟩
attribute [local go_sem ↓] loadViewF_fold storeViewF_fold allocViewF_fold buildViewF_fold loadBltF_fold storeBltF_fold allocBltF_fold buildBltF_fold loadChgF_fold storeChgF_fold allocChgF_fold buildChgF_fold buildVtF_fold
attribute [local go_sem] loadViewF_has storeViewF_has allocViewF_run buildViewF_none buildViewF_two loadBltF_has storeBltF_has allocBltF_run buildBltF_none buildBltF_0 buildBltF_0_1 loadChgF_has storeChgF_has allocChgF_run buildChgF_three buildChgF_none buildVtF_three
set_option maxRecDepth 100000 in
set_option maxHeartbeats 1600000 in
theorem vnew_any (v : V) (hl : v.h.length = 5) (r u : Int) (c : List Int) (hc : c.length = 3) (w : World) :
    Calls Try.prog 9 #[.agg (iA (zV v)), .agg (iA [r, u]), .agg (iA c)] w fun e w' => ∃ g, e = .returned (.pointer (some ⟨g, 0, none⟩)) ∧ w.heap.size ≤ g ∧ IBlk w' g 70 (vtL (newV v r u c)) ∧ Below w.heap.size w w' := by
  obtain ⟨zz, hzz⟩ : ∃ zz, zz = zV v := ⟨_, rfl⟩
  have z7 : zz.length = 7 := by rw [hzz]; exact zV_length hl
  have HE : vtL (newV v r u c) = zz ++ ([r, u] ++ c ++ [0, 0, 0, 0]) := by rw [hzz]; rfl
  rw [HE, ← hzz]
  have i7 : Is 7 zz := z7
  have i2 : Is 2 [r, u] := rfl
  have i3 : Is 3 c := hc
  clear hzz HE hl
  obtain ⟨hV, hB, hC, hb, hs⟩ := three_new w 27 31 33 zz [r, u] c
  go_enter Try.func9, Try.ntmps9
  go_upto_region 1 with fail
  generalize ((w.alloc (.cells (iA zz) 27)).alloc (.cells (iA [r, u]) 31)).alloc (.cells (iA c) 33) = w1 at hV hB hC hb hs
  obtain ⟨q1, h1⟩ := hV.whole z7
  obtain ⟨q2, h2⟩ := hB.whole (n := 2) rfl
  obtain ⟨q3, h3⟩ := hC.whole hc
  have hN := IBlk.new w1 70 (zz ++ ([r, u] ++ c ++ [0, 0, 0, 0]))
  have hB2 := hb.alloc hb.size (.cells (iA (zz ++ ([r, u] ++ c ++ [0, 0, 0, 0]))) 70)
  have h5 := hb.size
  clear hV hB hC hb hs
  go_wp2_with fail
  go_ret
  exact ⟨_, rfl, h5, hN, hB2⟩
end Go.Proofs.Ytoknodkgmeinmaa
