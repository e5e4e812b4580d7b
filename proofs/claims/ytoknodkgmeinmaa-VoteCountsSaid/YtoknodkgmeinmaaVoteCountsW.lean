/- The walk of VoteCounts. (Printed by gen_vcounts.py.) -/
import Derived.Test.YtoknodkgmeinmaaVtF
import Derived.Test.YtoknodkgmeinmaaIntsIn
import Derived.Test.YtoknodkgmeinmaaOpenA3
import Derived.Test.YtoknodkgmeinmaaChgO
import Derived.Test.YtoknodkgmeinmaaBitsI
import Derived.BigQuiet
import Derived.Deep.Light
import Derived.Deep.RegionHeld3
namespace Go.Proofs.Ytoknodkgmeinmaa.voteCounts
open Go.RowKit

theorem Try.infoTri : (Try.prog.info? 62).map (·.size) = some 3 := by kernel_rfl
def loadTriF (x : Value) : Sem Value := Instr.loadAt 62 x
theorem loadTriF_fold (x : Value) : Instr.loadAt 62 x = loadTriF x := rfl
theorem loadTriF_has {w : World} {b o : Nat} (h : HasRow w b o 3) : (loadTriF (.pointer (some ⟨b, o, none⟩))).run Try.prog w = .ok (.agg (rowAt w b o 3)) w := run_loadAt_has Try.underlying62 rfl Try.infoTri h
def storeTriF (x v : Value) : Sem Unit := Instr.storeAt 62 x v
theorem storeTriF_fold (x v : Value) : Instr.storeAt 62 x v = storeTriF x v := rfl
theorem storeTriF_has {w : World} {b o : Nat} {ys : List Int} (h : Room w b o 3) (hl : Is 3 ys) : (storeTriF (.pointer (some ⟨b, o, none⟩)) (.agg (iA ys))).run Try.prog w = .ok () (w.setCells b o (iV ys)) := run_storeAt_is Try.infoTri h hl
def allocTriF (b : Bool) (x : Value) : Sem Value := Instr.alloc 62 b x
theorem allocTriF_fold (b : Bool) (x : Value) : Instr.alloc 62 b x = allocTriF b x := rfl
theorem allocTriF_run (w : World) : (allocTriF true (.tuple #[])).run Try.prog w = .ok (.pointer (some ⟨w.heap.size, 0, none⟩)) (w.alloc (.cells (iA (zeros 3)) 62)) := by kernel_rfl
theorem most8 : ∀ m : Fin 8, mostB (m.val : Int) 7 = (((m.val : Int) == 3) || ((m.val : Int) == 5) || ((m.val : Int) == 6) || ((m.val : Int) == 7)) := by decide +kernel
theorem in8 : ∀ k : Fin 8, inV 7 (k.val : Int) = decide ((k.val : Int) < 3) := by decide +kernel
theorem or8 : ∀ m k : Fin 8, k.val < 3 → m.val ||| 2 ^ k.val < 8 := by decide +kernel
theorem wf_three {a : Int} (h : 0 ≤ a ∧ a < 2) : wf64 [1, a, 2] := by
  intro z hz
  simp only [List.mem_cons, List.not_mem_nil, or_false] at hz
  rcases hz with rfl | rfl | rfl
  · decide
  · simp only [Lit.wf, Bool.and_eq_true, decide_eq_true_eq]
    exact ⟨Int.le_trans (show IntKind.i64.min ≤ 0 by decide) h.1, Int.le_trans (Int.le_of_lt h.2) (by decide)⟩
  · decide
/-- The vote that the law holds. -/
structure Xo (x : Vt) : Prop where
  ok : x.Ok
  v : x.v = firstV
  r : x.r = 3
  w : x.w = 1
  vo : x.vo < 8
  tk : x.tk < 8
  wf : wf64 x.c
theorem Xo.start {c : List Int} (hc : c.length = 3) (wc : wf64 c) : Xo (newV firstV 3 1 c) := ⟨newV_ok firstV_ok 3 1 hc, rfl, rfl, rfl, by show 0 < 8; decide, by show 0 < 8; decide, wc⟩
theorem Xo.puts {x : Vt} (h : Xo x) : putsB x = (((x.vo : Int) == 3) || ((x.vo : Int) == 5) || ((x.vo : Int) == 6) || ((x.vo : Int) == 7)) := by
  rw [putsB, h.v]
  exact most8 ⟨x.vo, h.vo⟩
theorem Xo.cnt {x : Vt} (h : Xo x) {k : Nat} (hk : k < 8) (r : Int) : cntB x (k : Int) r 1 = (decide (r = 3) && decide ((k : Int) < 3)) := by
  rw [cntB, h.v, h.r, h.w, show firstV.m = 7 from rfl, in8 ⟨k, hk⟩]
  congr 1
  exact decide_eq_decide.2 ⟨fun e => by injection e, fun e => by rw [e]⟩
theorem Xo.heard {x : Vt} (h : Xo x) (hr hw : Int) {c : List Int} (hc : c.length = 3) (wc : wf64 c) : Xo (heardV x hr hw c) := by
  obtain ⟨h1, h2, h3, h4, h5⟩ := heard_v x hr hw c
  refine ⟨h.ok.heard hc, h1.trans h.v, h2.trans h.r, h3.trans h.w, by rw [h4]; exact h.vo, by rw [h5]; exact h.tk, ?_⟩
  unfold heardV
  split
  · exact wc
  · exact h.wf
theorem Xo.setVo {x : Vt} (h : Xo x) {k : Nat} (hk : k < 3) : Xo { x with vo := x.vo ||| 2 ^ k } :=
  ⟨⟨h.ok.v, h.ok.c, by have := or8 ⟨x.vo, h.vo⟩ ⟨k, by omega⟩ hk; show x.vo ||| 2 ^ k < 32; exact Nat.lt_trans this (by decide), h.ok.tk⟩, h.v, h.r, h.w, or8 ⟨x.vo, h.vo⟩ ⟨k, by omega⟩ hk, h.tk, h.wf⟩
theorem Xo.setTk {x : Vt} (h : Xo x) {k : Nat} (hk : k < 3) : Xo { x with tk := x.tk ||| 2 ^ k } :=
  ⟨⟨h.ok.v, h.ok.c, h.ok.vo, by have := or8 ⟨x.tk, h.tk⟩ ⟨k, by omega⟩ hk; show x.tk ||| 2 ^ k < 32; exact Nat.lt_trans this (by decide)⟩, h.v, h.r, h.w, h.vo, or8 ⟨x.tk, h.tk⟩ ⟨k, by omega⟩ hk, h.wf⟩
/-- What the law holds: its ballot, the vote, what it wants, what it has. -/
structure Vc (w0 : World) (q g e f : Nat) (os : List Int) (x : Vt) (wc hd : List Int) (w : World) : Prop where
  b : IBlk w q 31 os
  x : IBlk w g 70 (vtL x)
  we : IBlk w e 33 wc
  wf : IBlk w f 31 hd
  under : Below w0.heap.size w0 w
  g0 : w0.heap.size ≤ g
  e0 : w0.heap.size ≤ e
  f0 : w0.heap.size ≤ f
  qg : q ≠ g
  qe : q ≠ e
  qf : q ≠ f
  ge : g ≠ e
  gf : g ≠ f
  ef : e ≠ f
section
variable {w0 w w' : World} {q g e f : Nat} {os wc hd wc' hd' : List Int} {x y : Vt}
theorem Vc.next (h : Vc w0 q g e f os x wc hd w) (k : Below w.heap.size w w') : Vc w0 q g e f os x wc hd w' :=
  ⟨h.b.below k h.b.lt, h.x.below k h.x.lt, h.we.below k h.we.lt, h.wf.below k h.wf.lt, h.under.trans (k.mono h.under.size), h.g0, h.e0, h.f0, h.qg, h.qe, h.qf, h.ge, h.gf, h.ef⟩
theorem Vc.drew (h : Vc w0 q g e f os x wc hd w) : Vc w0 q g e f os x wc hd w.drew := h.next (Below.drewR (Below.refl _ _))
theorem Vc.vote (h : Vc w0 q g e f os x wc hd w) (hi : IBlk w' g 70 (vtL y)) (k : Only (· = g) w w') : Vc w0 q g e f os y wc hd w' :=
  ⟨h.b.only k h.qg, hi, h.we.only k (fun u => h.ge u.symm), h.wf.only k (fun u => h.gf u.symm), below_only h.under k (fun i (u : i = g) => by have := h.g0; omega) h.under.size, h.g0, h.e0, h.f0, h.qg, h.qe, h.qf, h.ge, h.gf, h.ef⟩
theorem Vc.setE (h : Vc w0 q g e f os x wc hd w) (hl : wc'.length = wc.length) : Vc w0 q g e f os x wc' hd (w.setCells e 0 (iV wc')) :=
  ⟨h.b.only (only_cells _ _ _ _) h.qe, h.x.only (only_cells _ _ _ _) h.ge, h.we.fill hl, h.wf.only (only_cells _ _ _ _) (fun u => h.ef u.symm), below_only h.under (only_cells w e 0 (iV wc')) (fun i (u : i = e) => by have := h.e0; omega) h.under.size, h.g0, h.e0, h.f0, h.qg, h.qe, h.qf, h.ge, h.gf, h.ef⟩
theorem Vc.setF (h : Vc w0 q g e f os x wc hd w) (hl : hd'.length = hd.length) : Vc w0 q g e f os x wc hd' (w.setCells f 0 (iV hd')) :=
  ⟨h.b.only (only_cells _ _ _ _) h.qf, h.x.only (only_cells _ _ _ _) h.gf, h.we.only (only_cells _ _ _ _) h.ef, h.wf.fill hl, below_only h.under (only_cells w f 0 (iV hd')) (fun i (u : i = f) => by have := h.f0; omega) h.under.size, h.g0, h.e0, h.f0, h.qg, h.qe, h.qf, h.ge, h.gf, h.ef⟩
end
/-- A round's own: what is told, a change, whose ballot. -/
structure Vr (w0 : World) (q g e f ph pd pt : Nat) (os : List Int) (x : Vt) (wc hd hs ds ts : List Int) (w : World) : Prop where
  c : Vc w0 q g e f os x wc hd w
  h : IBlk w ph 31 hs
  d : IBlk w pd 33 ds
  t : IBlk w pt 31 ts
  ne : ∀ b, b = g ∨ b = e ∨ b = f → ph ≠ b ∧ pd ≠ b ∧ pt ≠ b
section
variable {w0 w w' : World} {q g e f ph pd pt : Nat} {os wc hd wc' hd' hs ds ts : List Int} {x y : Vt}
theorem Vr.next (h : Vr w0 q g e f ph pd pt os x wc hd hs ds ts w) (k : Below w.heap.size w w') : Vr w0 q g e f ph pd pt os x wc hd hs ds ts w' :=
  ⟨h.c.next k, h.h.below k h.h.lt, h.d.below k h.d.lt, h.t.below k h.t.lt, h.ne⟩
theorem Vr.drew (h : Vr w0 q g e f ph pd pt os x wc hd hs ds ts w) : Vr w0 q g e f ph pd pt os x wc hd hs ds ts w.drew := h.next (Below.drewR (Below.refl _ _))
theorem Vr.vote (h : Vr w0 q g e f ph pd pt os x wc hd hs ds ts w) (hi : IBlk w' g 70 (vtL y)) (k : Only (· = g) w w') : Vr w0 q g e f ph pd pt os y wc hd hs ds ts w' :=
  have n := h.ne g (.inl rfl)
  ⟨h.c.vote hi k, h.h.only k n.1, h.d.only k n.2.1, h.t.only k n.2.2, h.ne⟩
theorem Vr.setE (h : Vr w0 q g e f ph pd pt os x wc hd hs ds ts w) (hl : wc'.length = wc.length) : Vr w0 q g e f ph pd pt os x wc' hd hs ds ts (w.setCells e 0 (iV wc')) :=
  have n := h.ne e (.inr (.inl rfl))
  ⟨h.c.setE hl, h.h.only (only_cells _ _ _ _) n.1, h.d.only (only_cells _ _ _ _) n.2.1, h.t.only (only_cells _ _ _ _) n.2.2, h.ne⟩
theorem Vr.setF (h : Vr w0 q g e f ph pd pt os x wc hd hs ds ts w) (hl : hd'.length = hd.length) : Vr w0 q g e f ph pd pt os x wc hd' hs ds ts (w.setCells f 0 (iV hd')) :=
  have n := h.ne f (.inr (.inr rfl))
  ⟨h.c.setF hl, h.h.only (only_cells _ _ _ _) n.1, h.d.only (only_cells _ _ _ _) n.2.1, h.t.only (only_cells _ _ _ _) n.2.2, h.ne⟩
end
attribute [local go_sem ↓] loadViewF_fold storeViewF_fold allocViewF_fold buildViewF_fold loadBltF_fold storeBltF_fold allocBltF_fold buildBltF_fold loadChgF_fold storeChgF_fold allocChgF_fold buildChgF_fold loadTriF_fold storeTriF_fold allocTriF_fold
attribute [local go_sem] loadViewF_has storeViewF_has allocViewF_run buildViewF_none buildViewF_two loadBltF_has storeBltF_has allocBltF_run loadChgF_has storeChgF_has allocChgF_run loadTriF_has storeTriF_has allocTriF_run
set_option maxRecDepth 100000 in
set_option maxHeartbeats 6400000 in
theorem walk (w : World) (cs : List Int) (hcl : cs.length = 3) (wc : wf64 cs) (A : Option Addr) (n c : Nat) (zs : List Int) (hR : IntsIn w w.heap.size 3 A n zs) (_ : n ≤ c) (_ : c ≤ maxLen) :
    Calls Try.prog 4 #[.agg (iA cs), .slice A n c] w fun e w' => e = .returned (.bool true) ∧ Below w.heap.size w w' := by
  have hb0 := IBlk.new w 33 cs
  have B0 := (Below.refl w.heap.size w).alloc (Nat.le_refl _) (.cells (iA cs) 33)
  go_enter Try.func4, Try.ntmps4
  go_upto_region 1 with fail
  generalize w.alloc (.cells (iA cs) 33) = w1 at hb0 B0
  go_wp2_with fail
  (with_reducible refine (fit13_any w1).mono ?_)
  rintro e w2 ⟨rfl, hb⟩
  have hb2 := hb0.below hb hb0.lt
  have B2 := B0.trans (hb.mono B0.size)
  clear hb0 B0 hb
  by_cases h60 : 60 < n
  · have d1 : (60 : Int) < (n : Int) := by omega
    go_wp2_with fail
    go_ret
    exact ⟨rfl, B2⟩
  have d1 : ¬ (60 : Int) < (n : Int) := by omega
  go_wp2_with fail
  (with_reducible refine (first_any w2).mono ?_)
  rintro e w3 ⟨rfl, hb⟩
  have hb3 := hb2.below hb hb2.lt
  have B3 := B2.trans (hb.mono B2.size)
  clear hb2 B2 hb
  have HV0 := fun w => vnew_any firstV rfl 3 1 cs hcl w
  have hX0 := Xo.start hcl wc
  generalize hx0 : newV firstV 3 1 cs = x0 at HV0 hX0
  have hxc : x0.c = cs := by rw [← hx0]; rfl
  have hxh : [x0.hr, x0.hw] = [0, 0] := by rw [← hx0]; rfl
  have hxv : (0 : Int) = (x0.vo : Int) := by rw [← hx0]; rfl
  have hxt : (0 : Int) = (x0.tk : Int) := by rw [← hx0]; rfl
  have hxp : false = putsB x0 := by rw [hX0.puts, ← hxv]; rfl
  have HX := hide (And.intro hxc (And.intro hxh (And.intro hxv (And.intro hxt hxp))))
  clear hx0 hxc hxh hxv hxt hxp
  obtain ⟨zz, hzz⟩ : ∃ zz, zz = zV firstV := ⟨_, rfl⟩
  have vl : zz.length = 7 := by rw [hzz]; rfl
  rw [← hzz] at HV0 ⊢
  clear hzz
  have i7 : Is 7 zz := vl
  obtain ⟨rm, hX, hO, B4⟩ := lay (t := 27) B3 vl B3.size
  have hb4 := hb3.only hO (fun h => h)
  go_upto_region 6 with fail
  generalize w3.heap.size = p at hX hO B4 hb4 rm
  generalize (w3.alloc (.cells (iA (zeros 7)) 27)).setCells p 0 (iV zz) = w4 at hX hO B4 hb4 rm
  clear rm hO hb3 B3
  obtain ⟨os, hos⟩ : ∃ os : List Int, os = [3, 1] := ⟨_, rfl⟩
  have ol : os.length = 2 := by rw [hos]; rfl
  have o2 : Is 2 os := ol
  have hbld : ∀ w, (buildBltF #[(0, .int .i64 3), (1, .int .i64 1)]).run Try.prog w = .ok (.agg (iA os)) w := fun w => by rw [hos]; exact buildBltF_0_1 3 1 w
  rw [← hos] at HV0
  have HO := hide hos
  clear hos
  obtain ⟨rm, hQ, hO, B5⟩ := lay (t := 31) B4 ol B4.size
  have hX5 := hX.only hO (fun h => h)
  have hb5 := hb4.only hO (fun h => h)
  go_upto_region 7 with fail
  have hq0 := B4.size
  generalize w4.heap.size = q at hQ hO B5 hb5 hX5 rm hq0
  generalize (w4.alloc (.cells (iA (zeros 2)) 31)).setCells q 0 (iV os) = w5 at hQ hO B5 hb5 hX5 rm
  clear rm hO hb4 hX B4
  obtain ⟨q1, h1⟩ := hX5.whole vl
  obtain ⟨q2, h2⟩ := hQ.whole ol
  obtain ⟨q3, h3⟩ := hb5.whole hcl
  go_wp2_with fail
  (with_reducible refine (HV0 w5).mono ?_)
  rintro e w6 ⟨g, rfl, hg, hI, hb⟩
  have hg0 : w.heap.size ≤ g := Nat.le_trans B5.size hg
  have hqg : q ≠ g := by have := hQ.lt; omega
  have hb6 := hb5.below hb hb5.lt
  have hQ6 := hQ.below hb hQ.lt
  have B6 := B5.trans (hb.mono B5.size)
  clear hb5 hX5 hQ B5 hb HV0 q1 h1 q2 h2 q3 h3 i7 hbld hg
  have i3 : Is 3 cs := hcl
  obtain ⟨q3, h3⟩ := hb6.whole hcl
  obtain ⟨rm, hE, hO, B7⟩ := lay (t := 33) B6 hcl B6.size
  have hQ7 := hQ6.only hO (fun h => h)
  have hI7 := hI.only hO (fun h => h)
  go_upto_region 10 with fail
  have he0 := B6.size
  have hqe : q ≠ w6.heap.size := by have := hQ6.lt; omega
  have hge : g ≠ w6.heap.size := by have := hI.lt; omega
  generalize w6.heap.size = e at *
  generalize (w6.alloc (.cells (iA (zeros 3)) 33)).setCells e 0 (iV cs) = w7 at *
  clear rm hO hb6 hQ6 hI B6 q3 h3
  obtain ⟨hd, hhd⟩ : ∃ hd : List Int, hd = [0, 0] := ⟨_, rfl⟩
  have hdl : hd.length = 2 := by rw [hhd]; rfl
  have hd2 : Is 2 hd := hdl
  have hbld : ∀ w, (buildBltF #[]).run Try.prog w = .ok (.agg (iA hd)) w := fun w => by rw [hhd]; exact buildBltF_none w
  have HD := hide hhd
  clear hhd
  obtain ⟨rm, hF, hO, B8⟩ := lay (t := 31) B7 hdl B7.size
  have hf0 := B7.size
  have hne : q ≠ w7.heap.size ∧ g ≠ w7.heap.size ∧ e ≠ w7.heap.size := ⟨by have := hQ7.lt; omega, by have := hI7.lt; omega, by have := hE.lt; omega⟩
  have hC := Vc.mk (hQ7.only hO (fun h => h)) (hI7.only hO (fun h => h)) (hE.only hO (fun h => h)) hF B8 hg0 he0 hf0 hqg hqe hne.1 hge hne.2.1 hne.2.2
  go_upto_region 11 with fail
  clear hF hO B8 hQ7 hI7 hE B7 hne hf0
  generalize w7.heap.size = f at *
  generalize (w7.alloc (.cells (iA (zeros 2)) 31)).setCells f 0 (iV hd) = w8 at *
  clear rm hbld hd2 i3
  obtain rfl := HX.out.1
  have hxh : hd = [x0.hr, x0.hw] := HD.out.trans HX.out.2.1.symm
  subst hxh
  clear HD
  go_wp2_with fail
  go_loopw [8, 9, 12, 38] (fun s8 s9 s12 s38 wr => ∃ (i : Nat) (x : Vt), i ≤ n ∧ Xo x ∧ s8 = .int .i64 (x.vo : Int) ∧ s9 = .int .i64 (x.tk : Int) ∧ s12 = .bool (putsB x) ∧ s38 = .int .i64 (i : Int) ∧ Vc w q g e f os x x.c [x.hr, x.hw] wr) (fun _ _ _ s38 _ => n - (intOf s38).toNat)
  case atStart => exact ⟨0, x0, Nat.zero_le _, hX0, by rw [← HX.out.2.2.1], by rw [← HX.out.2.2.2.1], by rw [← HX.out.2.2.2.2], rfl, hC⟩
  case round =>
    clear hC HX hX0
    obtain ⟨i, x, hi, hX, rfl, rfl, rfl, rfl, hC⟩ := hrel
    by_cases hlt : i < n
    · obtain ⟨ab, off, rfl, habl, _⟩ := hR.at_ (by omega)
      obtain ⟨r0, h0⟩ := (hR.below hC.under (Nat.le_refl _)).got rfl hlt
      obtain ⟨hcl2, hcw⟩ := hR.one hlt
      have e1 : (i : Int) < (n : Int) := by omega
      generalize oneZ 3 zs i = ks at r0 hcl2 hcw
      have ki : Is 3 ks := hcl2
      obtain ⟨k0, k1, k2, hks⟩ := lit3 ki
      have HK := hide hks
      have w3 : ∀ z ∈ [k0, k1, k2], -9223372036854775808 ≤ z ∧ z ≤ 9223372036854775807 := fun z hz => bounds_i64 (hcw z (by rw [hks]; exact hz))
      clear hks
      have hm0 := i64_and_mask k0 3 (by decide)
      have hm4 := i64_and_mask k1 1 (by decide)
      obtain ⟨K, hK, hK8⟩ : ∃ K : Nat, bits .and .i64 k0 7 = (K : Int) ∧ K < 8 := ⟨(k0 % 8).toNat, by rw [show ((7 : Int)) = ((2 ^ 3 - 1 : Nat) : Int) from rfl, hm0]; omega, by omega⟩
      obtain ⟨a4, ha4, hb4⟩ : ∃ a4 : Int, bits .and .i64 k1 1 = a4 ∧ (0 ≤ a4 ∧ a4 < 2) := ⟨k1 % 2, by rw [show ((1 : Int)) = ((2 ^ 1 - 1 : Nat) : Int) from rfl, hm4]; rfl, by omega⟩
      clear hm0 hm4
      obtain ⟨a1, ha1⟩ : ∃ a1 : Int, bits .and .i64 k1 3 = a1 := ⟨_, rfl⟩
      obtain ⟨a2, ha2⟩ : ∃ a2 : Int, bits .and .i64 (k1 / 4) 3 = a2 := ⟨_, rfl⟩
      have ha2' : bits .and .i64 (k1 / 2 ^ 2) 3 = a2 := ha2
      obtain ⟨ow, how⟩ : ∃ ow : Bool, (bits .and .i64 k2 8 == 0) = ow := ⟨_, rfl⟩
      obtain ⟨kb, hkb⟩ : ∃ kb : Bool, (bits .and .i64 k2 1 == 0) = kb := ⟨_, rfl⟩
      have BC := hC.under
      obtain ⟨rm, hA, hO, BA⟩ := lay (t := 62) BC hcl2 BC.size
      have hCA := hC.next (by have := lay (t := 62) (Below.refl wr.heap.size wr) hcl2 (Nat.le_refl _); exact this.2.2.2)
      have hpa : g < wr.heap.size ∧ e < wr.heap.size ∧ f < wr.heap.size := ⟨hC.x.lt, hC.we.lt, hC.wf.lt⟩
      go_upto_region 15 with fail
      clear hC BC hO
      generalize wr.heap.size = pa at *
      generalize (wr.alloc (.cells (iA (zeros 3)) 62)).setCells pa 0 (iV ks) = wa at *
      clear rm r0 h0
      have c0 := hA.cellAt 0 k0 (by rw [HK.out]; rfl)
      have c1 := hA.cellAt 1 k1 (by rw [HK.out]; rfl)
      go_upto_region 16 with fail
      obtain ⟨hs, hhs⟩ : ∃ hs : List Int, hs = [a1, a2] := ⟨_, rfl⟩
      have hsl : hs.length = 2 := by rw [hhs]; rfl
      have hs2 : Is 2 hs := hsl
      have hbld : ∀ w, (buildBltF #[(0, .int .i64 a1), (1, .int .i64 a2)]).run Try.prog w = .ok (.agg (iA hs)) w := fun w => by rw [hhs]; exact buildBltF_0_1 a1 a2 w
      have HHS := hide hhs
      clear hhs
      have hpa2 := hA.lt
      obtain ⟨rm, hH, hO, BH⟩ := lay (t := 31) BA hsl BA.size
      have hCH := hCA.next (by have := lay (t := 31) (Below.refl wa.heap.size wa) hsl (Nat.le_refl _); exact this.2.2.2)
      have hAH := hA.only hO (fun h => h)
      go_upto_region 17 with fail
      clear hCA BA hO hA c0 c1
      generalize wa.heap.size = ph at *
      generalize (wa.alloc (.cells (iA (zeros 2)) 31)).setCells ph 0 (iV hs) = wh at *
      clear rm hbld hs2
      have c1 := hAH.cellAt 1 k1 (by rw [HK.out]; rfl)
      obtain ⟨ds, hds⟩ : ∃ ds : List Int, ds = [1, a4, 2] := ⟨_, rfl⟩
      have dsl : ds.length = 3 := by rw [hds]; rfl
      have ds3 : Is 3 ds := dsl
      have hbld : ∀ w, (buildChgF #[(0, .int .i64 1), (1, .int .i64 a4), (2, .int .i64 2)]).run Try.prog w = .ok (.agg (iA ds)) w := fun w => by rw [hds]; exact buildChgF_three 1 a4 2 w
      have HDS := hide hds
      clear hds
      have hpa3 := hH.lt
      obtain ⟨rm, hD, hO, BD⟩ := lay (t := 33) BH dsl BH.size
      have hCD := hCH.next (by have := lay (t := 33) (Below.refl wh.heap.size wh) dsl (Nat.le_refl _); exact this.2.2.2)
      have hAD := hAH.only hO (fun h => h)
      have hHD := hH.only hO (fun h => h)
      go_upto_region 18 with fail
      clear hCH BH hO hAH hH c1
      generalize wh.heap.size = pd at *
      generalize (wh.alloc (.cells (iA (zeros 3)) 33)).setCells pd 0 (iV ds) = wd at *
      clear rm hbld ds3
      have c2 := hAD.cellAt 2 k2 (by rw [HK.out]; rfl)
      go_upto_region 19 with fail
      obtain ⟨qo, ho⟩ := hCD.b.whole ol
      have hpa4 := hD.lt
      have hqp := hCD.b.lt
      obtain ⟨rm, hTT, hO, BT⟩ := lay (t := 31) BD ol BD.size
      have hCT := hCD.next (by have := lay (t := 31) (Below.refl wd.heap.size wd) ol (Nat.le_refl _); exact this.2.2.2)
      have hAT := hAD.only hO (fun h => h)
      have hHT := hHD.only hO (fun h => h)
      have hDT := hD.only hO (fun h => h)
      go_upto_region 20 with fail
      clear hCD BD hO hAD hHD hD c2 qo ho
      generalize wd.heap.size = pt at *
      generalize (wd.alloc (.cells (iA (zeros 2)) 31)).setCells pt 0 (iV os) = wt at *
      clear rm
      have hVr : Vr w q g e f ph pd pt os x x.c [x.hr, x.hw] hs ds os wt := ⟨hCT, hHT, hDT, hTT, fun b hb => by rcases hb with rfl | rfl | rfl <;> exact ⟨by omega, by omega, by omega⟩⟩
      have hpw : w.heap.size ≤ pt := by have := hCT.g0; omega
      clear hCT hHT hDT hTT BT
      go_upto_if 63 with fail
      go_cut [63] (fun s63 wx => s63 = .bool (!ow) ∧ ∃ ts : List Int, ts = [if ow = true then 3 else 4, 1] ∧ Vr w q g e f ph pd pt os x x.c [x.hr, x.hw] hs ds ts wx ∧ IBlk wx pa 62 ks)
      case first =>
        as_aux_lemma =>
        cases ow with
        | true =>
          go_wp2_with fail
          go_meet
          exact ⟨rfl, os, HO.out, hVr, hAT⟩
        | false =>
          have c0 := hVr.t.cellAt 0 3 (by rw [HO.out]; rfl)
          have f0 := hVr.t.frozen 0
          have hn := hVr.ne
          have hO := only_cell wt pt 0 (.int .i64 4)
          have hA2 := hAT.only hO (by omega)
          have hT2 := hVr.t.set 0 4
          have hc := hVr.c
          have n1 := hn g (.inl rfl)
          have n2 := hn e (.inr (.inl rfl))
          have n3 := hn f (.inr (.inr rfl))
          have hV2 : Vr w q g e f ph pd pt os x x.c [x.hr, x.hw] hs ds (os.set 0 4) (wt.setCell ⟨pt, 0, none⟩ (.int .i64 4)) :=
            ⟨⟨hc.b.only hO (by omega), hc.x.only hO (fun u => n1.2.2 u.symm), hc.we.only hO (fun u => n2.2.2 u.symm), hc.wf.only hO (fun u => n3.2.2 u.symm), below_only hc.under hO (fun i (u : i = pt) => by omega) hc.under.size, hc.g0, hc.e0, hc.f0, hc.qg, hc.qe, hc.qf, hc.ge, hc.gf, hc.ef⟩, hVr.h.only hO (by omega), hVr.d.only hO (by omega), hT2, hn⟩
          clear hVr hAT hO hT2 hc n1 n2 n3 hn
          go_wp2_with fail
          go_meet
          exact ⟨rfl, os.set 0 4, by rw [HO.out]; rfl, hV2, hA2⟩
      case rest =>
      clear hVr hAT
      obtain ⟨rfl, ts, hts, hVr, hAT⟩ := hcut
      rename World => wq
      have HTS := hide hts
      clear hts
      have c2 := hAT.cellAt 2 k2 (by rw [HK.out]; rfl)
      obtain ⟨mb, hmb⟩ : ∃ mb : Bool, decide ((K : Int) < 3) = mb := ⟨_, rfl⟩
      have tl : ts.length = 2 := by rw [HTS.out]; rfl
      obtain ⟨r, hr⟩ : ∃ r : Int, r = if ow = true then 3 else 4 := ⟨_, rfl⟩
      have hts : [r, 1] = ts := by rw [HTS.out, hr]
      have wr1 : wf64 [r, 1] := wf_small (by rw [hr]; split <;> decide) (by decide)
      have hcnt : cntB x (K : Int) r 1 = (ow && mb) := by rw [hX.cnt hK8, ← hmb, hr]; congr 1; cases ow <;> rfl
      have wx1 : wf64 [x.r, x.w] := by rw [hX.r, hX.w]; exact wf_small (by decide) (by decide)
      have wd1 : wf64 ds := by rw [HDS.out]; exact wf_three hb4
      have HVW := fun W h => vVowed_any x hX.ok wx1 (K : Int) r 1 a1 a2 wr1 ds dsl g W h
      have HTW := fun W h => vTaken_any x hX.ok wx1 (K : Int) r 1 wr1 g W h
      rw [hts] at HVW HTW
      rw [show [a1, a2] = hs from HHS.out.symm] at HVW
      have HXV : Xo (vowV x (K : Int) r 1 a1 a2 ds) := by
        unfold vowV
        split
        · rename_i hh
          rw [hcnt, Bool.and_eq_true, ← hmb] at hh
          rw [Int.toNat_natCast]
          exact (hX.setVo (by have := of_decide_eq_true hh.2.2; omega)).heard a1 a2 dsl wd1
        · exact hX
      have HXT : Xo (takV x (K : Int) r 1) := by
        unfold takV
        split
        · rename_i hh
          rw [hcnt, Bool.and_eq_true, ← hmb] at hh
          rw [Int.toNat_natCast]
          exact hX.setTk (by have := of_decide_eq_true hh.2.2; omega)
        · exact hX
      have CN := cnt_no x (K : Int) r 1 a1 a2 ds
      have CY := cnt_yes x K r 1 a1 a2 ds
      have TN := tak_no x (K : Int) r 1
      have TY := tak_yes x K r 1
      rw [hcnt] at CN CY TN TY
      have hvt := (vow_v x (K : Int) r 1 a1 a2 ds).2.2.2
      have htt := tak_v x (K : Int) r 1
      generalize vowB x (K : Int) r 1 a1 a2 ds = vb at HVW CN CY
      generalize vowV x (K : Int) r 1 a1 a2 ds = xv at HVW CN CY HXV hvt
      generalize takB x (K : Int) r 1 = tb at HTW TN TY
      generalize takV x (K : Int) r 1 = xt at HTW TN TY HXT htt
      have HR := hide (And.intro hr (And.intro hts hcnt))
      clear hr hts hcnt wr1 wx1 wd1
      as_aux_lemma =>
      go_upto_if 73 with fail
      go_cut [8, 9, 12] (fun s8 s9 s12 wx => ∃ x' : Vt, Xo x' ∧ s8 = .int .i64 (x'.vo : Int) ∧ s9 = .int .i64 (x'.tk : Int) ∧ s12 = .bool (putsB x') ∧ Vr w q g e f ph pd pt os x' x'.c [x'.hr, x'.hw] hs ds ts wx)
      case first =>
        cases kb with
        | true =>
          as_aux_lemma =>
          obtain ⟨pb, hpb⟩ : ∃ pb, putsB x = pb := ⟨_, rfl⟩
          rw [hpb] at CN CY
          have HPB := hide hpb
          clear hpb TN TY HTW HXT htt
          go_upto_region 25 with fail
          rw [HPB.out]
          go_cut [81] (fun s81 wx => s81 = .bool (!pb && ow && mb) ∧ wx = wq)
          case first =>
            as_aux_lemma =>
            cases pb <;> cases ow <;> cases mb <;>
            · go_wp2_with fail
              go_meet
              exact ⟨rfl, rfl⟩
          case rest =>
          obtain ⟨rfl, hcw⟩ := hcut
          have hcw := hcw.symm
          subst hcw
          generalize hok : (!pb && ow && mb) = ok
          go_upto_if 81 with fail
          go_cut [8, 12, 21] (fun s8 s12 s21 wx => s8 = .int .i64 (xv.vo : Int) ∧ s12 = .bool (putsB xv) ∧ s21 = .bool vb ∧ Vr w q g e f ph pd pt os x xv.c [xv.hr, xv.hw] hs ds ts wx)
          case first =>
            as_aux_lemma =>
            cases ok with
            | false =>
              obtain ⟨hv1, hv2⟩ := CN (by cases pb <;> cases ow <;> cases mb <;> first | (left; rfl) | (right; rfl) | cases hok)
              have hv2 := hide hv2
              have hv1 := hide hv1
              clear CN CY HVW
              go_wp2_with fail
              go_meet
              exact ⟨by rw [hv2.out], by rw [hv2.out, HPB.out], by rw [hv1.out], by rw [hv2.out]; exact hVr⟩
            | true =>
              have hall : pb = false ∧ ow = true ∧ mb = true := by cases pb <;> cases ow <;> cases mb <;> first | exact ⟨rfl, rfl, rfl⟩ | cases hok
              obtain ⟨hv1, hv2⟩ := CY hall.1 (by rw [hall.2.1, hall.2.2]; rfl)
              rw [heard_puts] at hv2
              have hk3 : K < 3 := by have := hall.2.2; rw [← hmb] at this; have := of_decide_eq_true this; omega
              have hM := or_is hX.ok.vo (k := K) (by omega)
              have hxo : xv.vo = x.vo ||| 2 ^ K := by rw [hv1]; exact (heard_v _ _ _ _).2.2.2.1
              have hpx := HXV.puts
              rw [hxo] at hpx
              have hvb : vb = putsB xv := by rw [hv2, hv1, heard_puts]
              have HV := hide (And.intro hv1 (And.intro hxo hvb))
              have HPX := hide hpx
              clear hv1 hv2 hxo hvb CN CY HVW hpx hall hok hmb
              have k0 : (0 : Int) ≤ (K : Int) := by omega
              have c0 := hVr.h.cellAt 0 a1 (by rw [HHS.out]; rfl)
              have c1 := hVr.h.cellAt 1 a2 (by rw [HHS.out]; rfl)
              have f0 := hVr.c.wf.cellAt 0 x.hr rfl
              have f1 := hVr.c.wf.cellAt 1 x.hw rfl
              as_aux_lemma =>
              go_upto_region 26 with fail
              go_cut [105] (fun s105 wx => s105 = .bool (laterB x a1 a2) ∧ wx = wq)
              case first =>
                as_aux_lemma =>
                  by_cases g1 : 0 < a1
                  · have d1 : decide (0 < a1) = true := decide_eq_true g1
                    by_cases g2 : x.hr < a1
                    · have d2 : decide (x.hr < a1) = true := decide_eq_true g2
                      have HE := hide (show laterB x a1 a2 = _ by rw [laterB, lessB, d1, d2])
                      clear g1 g2
                      go_wp2_with fail
                      go_meet
                      exact ⟨by rw [HE.out]; rfl, rfl⟩
                    · have d2 : decide (x.hr < a1) = false := decide_eq_false g2
                      by_cases g3 : x.hr = a1
                      · have d3 : (x.hr == a1) = true := by simpa using g3
                        have d3' : (a1 == x.hr) = true := by simpa using g3.symm
                        by_cases g4 : x.hw < a2
                        · have d4 : decide (x.hw < a2) = true := decide_eq_true g4
                          have HE := hide (show laterB x a1 a2 = _ by rw [laterB, lessB, d1, d2, d3, d4])
                          clear g1 g2 g3 g4
                          go_wp2_with fail
                          go_meet
                          exact ⟨by rw [HE.out]; rfl, rfl⟩
                        · have d4 : decide (x.hw < a2) = false := decide_eq_false g4
                          have HE := hide (show laterB x a1 a2 = _ by rw [laterB, lessB, d1, d2, d3, d4])
                          clear g1 g2 g3 g4
                          go_wp2_with fail
                          go_meet
                          exact ⟨by rw [HE.out]; rfl, rfl⟩
                      · have d3 : (x.hr == a1) = false := by simpa using g3
                        have d3' : (a1 == x.hr) = false := by rw [beq_eq_false_iff_ne]; exact fun u => g3 u.symm
                        have HE := hide (show laterB x a1 a2 = _ by rw [laterB, lessB, d1, d2, d3])
                        clear g1 g2 g3
                        go_wp2_with fail
                        go_meet
                        exact ⟨by rw [HE.out]; rfl, rfl⟩
                  · have d1 : decide (0 < a1) = false := decide_eq_false g1
                    have HE := hide (show laterB x a1 a2 = _ by rw [laterB, lessB, d1])
                    clear g1
                    go_wp2_with fail
                    go_meet
                    exact ⟨by rw [HE.out]; rfl, rfl⟩
              case rest =>
              obtain ⟨rfl, hcw⟩ := hcut
              have hcw := hcw.symm
              subst hcw
              clear c0 c1 f0 f1 hcw
              have HLB : Hid (∀ lb, laterB x a1 a2 = lb → xv = if lb = true then { x with vo := x.vo ||| 2 ^ K, hr := a1, hw := a2, c := ds } else { x with vo := x.vo ||| 2 ^ K }) := hide (fun lb hl => by
                rw [HV.out.1, heardV, show laterB { x with vo := x.vo ||| 2 ^ K } a1 a2 = laterB x a1 a2 from rfl, hl])
              generalize hlb : laterB x a1 a2 = lb
              have HXX := hide (HLB.out lb hlb)
              clear hlb HLB
              go_upto_if 105 with fail
              go_cut [105] (fun s105 wx => s105 = .bool lb ∧ Vr w q g e f ph pd pt os x xv.c [xv.hr, xv.hw] hs ds ts wx)
              case first =>
                as_aux_lemma =>
                cases lb with
                | false =>
                  go_wp2_with fail
                  go_meet
                  exact ⟨rfl, by rw [HXX.out]; exact hVr⟩
                | true =>
                  have xl := hX.ok.c
                  obtain ⟨q1, h1⟩ := hVr.drew.h.whole hsl
                  obtain ⟨q2, h2⟩ := hVr.drew.d.whole dsl
                  have hs2 : Is 2 hs := hsl
                  have ds3 : Is 3 ds := dsl
                  have rm1 := hVr.drew.c.wf.room 0 2 (by simp)
                  have rm2 := (hVr.drew.c.we.room 0 3 (by rw [xl]; decide)).cells f 0 (iV hs)
                  have hV7 := hVr.drew.setF (hd' := hs) hsl
                  obtain ⟨q3, h3⟩ := hV7.d.whole dsl
                  have hV8 := hV7.setE (wc' := ds) (by rw [dsl, xl])
                  clear hV7 hVr hAT
                  go_upto_region 27 with fail
                  go_region
                  all_goals
                    change Exit.then _ _ _ _ ((wq.drew.setCells f 0 (iV hs)).setCells e 0 (iV ds))
                    generalize ((wq.drew.setCells f 0 (iV hs)).setCells e 0 (iV ds)) = w6 at hV8 ⊢
                    clear q1 h1 q2 h2 q3 h3 rm1 rm2
                    go_wp2_with fail
                    go_meet
                    exact ⟨rfl, by rw [HXX.out]; show Vr w q g e f ph pd pt os x ds [a1, a2] hs ds ts _; rw [← HHS.out]; exact hV8⟩
              case rest =>
              clear hVr
              obtain ⟨rfl, hVr⟩ := hcut
              generalize hMM : ((x.vo ||| 2 ^ K : Nat) : Int) = M at hM
              have HPQ : Hid (putsB xv = ((M == 3) || (M == 5) || (M == 6) || (M == 7))) := hide (by rw [← hMM]; exact HPX.out)
              have HMM := hide hMM
              clear hMM HPX HXX
              as_aux_lemma =>
              cases h3 : (M == 3)
              · cases h5 : (M == 5)
                · cases h6 : (M == 6)
                  · cases h7 : (M == 7)
                    · go_wp2_with fail
                      go_meet
                      exact ⟨by rw [HV.out.2.1, HMM.out], by rw [HPQ.out, h3, h5, h6, h7]; rfl, by rw [HV.out.2.2, HPQ.out, h3, h5, h6, h7]; rfl, hVr⟩
                    · go_wp2_with fail
                      go_meet
                      exact ⟨by rw [HV.out.2.1, HMM.out], by rw [HPQ.out, h3, h5, h6, h7]; rfl, by rw [HV.out.2.2, HPQ.out, h3, h5, h6, h7]; rfl, hVr⟩
                  · go_wp2_with fail
                    go_meet
                    exact ⟨by rw [HV.out.2.1, HMM.out], by rw [HPQ.out, h3, h5, h6]; rfl, by rw [HV.out.2.2, HPQ.out, h3, h5, h6]; rfl, hVr⟩
                · go_wp2_with fail
                  go_meet
                  exact ⟨by rw [HV.out.2.1, HMM.out], by rw [HPQ.out, h3, h5]; rfl, by rw [HV.out.2.2, HPQ.out, h3, h5]; rfl, hVr⟩
              · go_wp2_with fail
                go_meet
                exact ⟨by rw [HV.out.2.1, HMM.out], by rw [HPQ.out, h3]; rfl, by rw [HV.out.2.2, HPQ.out, h3]; rfl, hVr⟩
          case rest =>
          clear hVr hok CN CY HPB
          obtain ⟨rfl, rfl, rfl, hVr⟩ := hcut
          rename World => wv
          as_aux_lemma =>
          obtain ⟨q1, h1⟩ := hVr.t.whole tl
          obtain ⟨q2, h2⟩ := hVr.h.whole hsl
          obtain ⟨q3, h3⟩ := hVr.d.whole dsl
          have hvv : (vb != vb) = false := by cases vb <;> rfl
          go_wp2_with fail
          (with_reducible refine (HVW wv hVr.c.x).mono ?_)
          rintro e5 w5 ⟨rfl, hI, ho⟩
          have hV5 := hVr.vote hI ho
          have HVT := hide hvt
          clear hVr hI ho q1 h1 q2 h2 q3 h3 HVW hvt
          go_wp2_with fail
          go_meet
          exact ⟨xv, HXV, rfl, by rw [HVT.out], rfl, hV5⟩
        | false =>
          as_aux_lemma =>
          obtain ⟨pb, hpb⟩ : ∃ pb, putsB x = pb := ⟨_, rfl⟩
          rw [hpb] at TN TY
          have HPB := hide hpb
          clear hpb CN CY HVW HXV hvt
          go_upto_region 34 with fail
          rw [HPB.out]
          go_cut [141] (fun s141 wx => s141 = .bool (pb && ow && mb) ∧ wx = wq)
          case first =>
            as_aux_lemma =>
            cases pb <;> cases ow <;> cases mb <;>
            · go_wp2_with fail
              go_meet
              exact ⟨rfl, rfl⟩
          case rest =>
          obtain ⟨rfl, hcw⟩ := hcut
          have hcw := hcw.symm
          subst hcw
          generalize hok : (pb && ow && mb) = ok
          go_upto_if 141 with fail
          go_cut [9, 22] (fun s9 s22 wx => s9 = .int .i64 (xt.tk : Int) ∧ s22 = .bool tb ∧ wx = wq)
          case first =>
            as_aux_lemma =>
            cases ok with
            | false =>
              obtain ⟨hv1, hv2⟩ := TN (by cases pb <;> cases ow <;> cases mb <;> first | (left; rfl) | (right; rfl) | cases hok)
              have hv2 := hide hv2
              have hv1 := hide hv1
              clear TN TY HTW htt
              go_wp2_with fail
              go_meet
              exact ⟨by rw [hv2.out], by rw [hv1.out], rfl⟩
            | true =>
              have hall : pb = true ∧ ow = true ∧ mb = true := by cases pb <;> cases ow <;> cases mb <;> first | exact ⟨rfl, rfl, rfl⟩ | cases hok
              obtain ⟨hv1, hv2⟩ := TY hall.1 (by rw [hall.2.1, hall.2.2]; rfl)
              have hk3 : K < 3 := by have := hall.2.2; rw [← hmb] at this; have := of_decide_eq_true this; omega
              have hM := or_is hX.ok.tk (k := K) (by omega)
              have hxo : xt.tk = x.tk ||| 2 ^ K := by rw [hv1]
              have hl8 := HXT.tk
              rw [hxo] at hl8
              rw [hX.v, show (firstV.m : Int) = 7 from rfl, most8 ⟨_, hl8⟩] at hv2
              dsimp only at hv2
              have HV := hide (And.intro hxo hv2)
              clear hv1 hv2 hxo TN TY HTW hall hok hmb hl8 htt
              have k0 : (0 : Int) ≤ (K : Int) := by omega
              generalize hMM : ((x.tk ||| 2 ^ K : Nat) : Int) = M at hM
              have HPQ : Hid (tb = ((M == 3) || (M == 5) || (M == 6) || (M == 7))) := hide (by rw [← hMM]; exact HV.out.2)
              have HMM := hide hMM
              clear hMM
              as_aux_lemma =>
              cases h3 : (M == 3)
              · cases h5 : (M == 5)
                · cases h6 : (M == 6)
                  · cases h7 : (M == 7)
                    · go_wp2_with fail
                      go_meet
                      exact ⟨by rw [HV.out.1, HMM.out], by rw [HPQ.out, h3, h5, h6, h7]; rfl, rfl⟩
                    · go_wp2_with fail
                      go_meet
                      exact ⟨by rw [HV.out.1, HMM.out], by rw [HPQ.out, h3, h5, h6, h7]; rfl, rfl⟩
                  · go_wp2_with fail
                    go_meet
                    exact ⟨by rw [HV.out.1, HMM.out], by rw [HPQ.out, h3, h5, h6]; rfl, rfl⟩
                · go_wp2_with fail
                  go_meet
                  exact ⟨by rw [HV.out.1, HMM.out], by rw [HPQ.out, h3, h5]; rfl, rfl⟩
              · go_wp2_with fail
                go_meet
                exact ⟨by rw [HV.out.1, HMM.out], by rw [HPQ.out, h3]; rfl, rfl⟩
          case rest =>
          clear hok TN TY
          obtain ⟨rfl, rfl, hcw⟩ := hcut
          have hcw := hcw.symm
          subst hcw
          clear hcw
          as_aux_lemma =>
          obtain ⟨q1, h1⟩ := hVr.t.whole tl
          have hvv : (tb != tb) = false := by cases tb <;> rfl
          go_wp2_with fail
          (with_reducible refine (HTW wq hVr.c.x).mono ?_)
          rintro e5 w5 ⟨rfl, hI, ho⟩
          have hV5 := hVr.vote hI ho
          have HVT := hide htt
          clear hVr hI ho q1 h1 HTW htt
          go_wp2_with fail
          go_meet
          exact ⟨xt, HXT, by rw [HVT.out.2.2.2.2.2.2], rfl, by rw [← HPB.out, putsB, putsB, HVT.out.1, HVT.out.2.2.2.2.2.2], by rw [HVT.out.2.2.2.1, HVT.out.2.2.2.2.1, HVT.out.2.2.2.2.2.1]; exact hV5⟩
      case rest =>
      clear HVW HTW CN CY TN TY hVr HXV HXT hvt htt hX
      obtain ⟨x', hX', rfl, rfl, rfl, hVr⟩ := hcut
      rename World => wz
      as_aux_lemma =>
      have xl := hX'.ok.c
      have HC := fun W h => vChange_any x' hX'.ok g W h
      have HB := fun W h => vBallot_any x' hX'.ok g W h
      have HP := fun W h => vPutting_any x' hX'.ok g W h
      rw [hX'.r, hX'.w, ← HO.out] at HB
      have HE := fun w => Try.eqChg xl xl hX'.wf hX'.wf w
      have HE2 := fun w => Try.eqBlt (xs := [3, 1]) (ys := [3, 1]) rfl rfl (wf_small (by decide) (by decide)) (wf_small (by decide) (by decide)) w
      rw [show decide (x'.c = x'.c) = true from decide_eq_true rfl] at HE
      rw [show decide (([3, 1] : List Int) = [3, 1]) = true from rfl, ← HO.out] at HE2
      have hnb : (putsB x' != putsB x') = false := by cases putsB x' <;> rfl
      go_upto_region 39 with fail
      refine wp_region_noPanic ?_
      refine wp_region_held_drew (S := (Vr w q g e f ph pd pt os x' x'.c [x'.hr, x'.hw] hs ds ts)) (by kernel_rfl) ?_ (fun hHeld => ?_)
      · exact hVr.drew
      refine wpAnyH_take (i := 0) (oi := _) (v := ?_) (by simp only [List.getElem?_toArray, List.getElem?_cons_zero]; rfl) (by kernel_rfl) (by kernel_rfl) (by kernel_rfl) (by exact fun _ _ _ h => h) (Or.inl ⟨by rfl, ?_⟩) (by assumption) ?_
      rotate_left
      · intro w hSw
        try dsimp only at hSw
        obtain ⟨q1, h1⟩ := hSw.c.b.whole ol
        obtain ⟨q2, h2⟩ := hSw.c.we.whole xl
        clear hSw
        go_simp
        try with_reducible rfl
      try simp only [Act.put, List.setIfInBounds_toArray, List.set_cons_zero, List.set_cons_succ]
      refine wpAnyH_take (i := 2) (oi := _) (v := ?_) (by simp only [List.getElem?_toArray, List.getElem?_cons_succ, List.getElem?_cons_zero]; rfl) (by kernel_rfl) (by kernel_rfl) (by kernel_rfl) (by exact fun _ _ _ h => h) (Or.inl ⟨by rfl, ?_⟩) (by assumption) ?_
      rotate_left
      · intro w hSw
        try dsimp only at hSw
        obtain ⟨q1, h1⟩ := hSw.c.b.whole ol
        obtain ⟨q2, h2⟩ := hSw.c.we.whole xl
        clear hSw
        go_simp
        try with_reducible rfl
      try simp only [Act.put, List.setIfInBounds_toArray, List.set_cons_zero, List.set_cons_succ]
      refine wpAnyH_ready (rs := [1]) (by kernel_rfl) (by simp) ?_
      refine AllReadyH.cons (o := _) (by simp only [List.getElem?_toArray, List.getElem?_cons_succ, List.getElem?_cons_zero]; rfl) (fun K hK => ?_) AllReadyH.nil
      go_simp
      try dsimp only at hHeld
      go_at_call 13
      (with_reducible refine (HP _ (Vc.x (Vr.c hHeld))).mono ?_)
      rintro x5 w5 ⟨rfl, hx5⟩
      have hh5 := Vr.next hHeld hx5
      try go_wp2_with fail
      refine hK.out _ _ ?_ (fun hHeld => ?_)
      · exact hh5
      clear hK K
      try simp only [Act.put, List.setIfInBounds_toArray, List.set_cons_zero, List.set_cons_succ]
      refine wpAnyH_take (i := 3) (oi := _) (v := ?_) (by simp only [List.getElem?_toArray, List.getElem?_cons_succ, List.getElem?_cons_zero]; rfl) (by kernel_rfl) (by kernel_rfl) (by kernel_rfl) (by exact fun _ _ _ h => h) (Or.inl ⟨by rfl, ?_⟩) (by assumption) ?_
      rotate_left
      · intro w hSw
        try dsimp only at hSw
        obtain ⟨q1, h1⟩ := hSw.c.b.whole ol
        obtain ⟨q2, h2⟩ := hSw.c.we.whole xl
        clear hSw
        go_simp
        try with_reducible rfl
      try simp only [Act.put, List.setIfInBounds_toArray, List.set_cons_zero, List.set_cons_succ]
      refine wpAnyH_take (i := 4) (oi := _) (v := ?_) (by simp only [List.getElem?_toArray, List.getElem?_cons_succ, List.getElem?_cons_zero]; rfl) (by kernel_rfl) (by kernel_rfl) (by kernel_rfl) (by exact fun _ _ _ h => h) (Or.inl ⟨by rfl, ?_⟩) (by assumption) ?_
      rotate_left
      · intro w hSw
        try dsimp only at hSw
        obtain ⟨q1, h1⟩ := hSw.c.b.whole ol
        obtain ⟨q2, h2⟩ := hSw.c.we.whole xl
        clear hSw
        go_simp
        try with_reducible rfl
      try simp only [Act.put, List.setIfInBounds_toArray, List.set_cons_zero, List.set_cons_succ]
      refine wpAnyH_take (i := 5) (oi := _) (v := ?_) (by simp only [List.getElem?_toArray, List.getElem?_cons_succ, List.getElem?_cons_zero]; rfl) (by kernel_rfl) (by kernel_rfl) (by kernel_rfl) (by exact fun _ _ _ h => h) (Or.inl ⟨by rfl, ?_⟩) (by assumption) ?_
      rotate_left
      · intro w hSw
        try dsimp only at hSw
        obtain ⟨q1, h1⟩ := hSw.c.b.whole ol
        obtain ⟨q2, h2⟩ := hSw.c.we.whole xl
        clear hSw
        go_simp
        try with_reducible rfl
      try simp only [Act.put, List.setIfInBounds_toArray, List.set_cons_zero, List.set_cons_succ]
      refine wpAnyH_take (i := 7) (oi := _) (v := ?_) (by simp only [List.getElem?_toArray, List.getElem?_cons_succ, List.getElem?_cons_zero]; rfl) (by kernel_rfl) (by kernel_rfl) (by kernel_rfl) (by exact fun _ _ _ h => h) (Or.inl ⟨by rfl, ?_⟩) (by assumption) ?_
      rotate_left
      · intro w hSw
        try dsimp only at hSw
        obtain ⟨q1, h1⟩ := hSw.c.b.whole ol
        obtain ⟨q2, h2⟩ := hSw.c.we.whole xl
        clear hSw
        go_simp
        try with_reducible rfl
      try simp only [Act.put, List.setIfInBounds_toArray, List.set_cons_zero, List.set_cons_succ]
      refine wpAnyH_ready (rs := [6]) (by kernel_rfl) (by simp) ?_
      refine AllReadyH.cons (o := _) (by simp only [List.getElem?_toArray, List.getElem?_cons_succ, List.getElem?_cons_zero]; rfl) (fun K hK => ?_) AllReadyH.nil
      go_simp
      try dsimp only at hHeld
      go_at_call 16
      (with_reducible refine (HC _ (Vc.x (Vr.c hHeld))).mono ?_)
      rintro x5 w5 ⟨rfl, hx5⟩
      have hh5 := Vr.next hHeld hx5
      try go_wp2_with fail
      refine hK.out _ _ ?_ (fun hHeld => ?_)
      · exact hh5
      clear hK K
      try simp only [Act.put, List.setIfInBounds_toArray, List.set_cons_zero, List.set_cons_succ]
      refine wpAnyH_take (i := 8) (oi := _) (v := ?_) (by simp only [List.getElem?_toArray, List.getElem?_cons_succ, List.getElem?_cons_zero]; rfl) (by kernel_rfl) (by kernel_rfl) (by kernel_rfl) (by exact fun _ _ _ h => h) (Or.inl ⟨by rfl, ?_⟩) (by assumption) ?_
      rotate_left
      · intro w hSw
        try dsimp only at hSw
        obtain ⟨q1, h1⟩ := hSw.c.b.whole ol
        obtain ⟨q2, h2⟩ := hSw.c.we.whole xl
        clear hSw
        go_simp
        try with_reducible rfl
      try simp only [Act.put, List.setIfInBounds_toArray, List.set_cons_zero, List.set_cons_succ]
      refine wpAnyH_take (i := 9) (oi := _) (v := ?_) (by simp only [List.getElem?_toArray, List.getElem?_cons_succ, List.getElem?_cons_zero]; rfl) (by kernel_rfl) (by kernel_rfl) (by kernel_rfl) (by exact fun _ _ _ h => h) (Or.inl ⟨by rfl, ?_⟩) (by assumption) ?_
      rotate_left
      · intro w hSw
        try dsimp only at hSw
        obtain ⟨q1, h1⟩ := hSw.c.b.whole ol
        obtain ⟨q2, h2⟩ := hSw.c.we.whole xl
        clear hSw
        go_simp
        try with_reducible rfl
      try simp only [Act.put, List.setIfInBounds_toArray, List.set_cons_zero, List.set_cons_succ]
      refine wpAnyH_take (i := 10) (oi := _) (v := ?_) (by simp only [List.getElem?_toArray, List.getElem?_cons_succ, List.getElem?_cons_zero]; rfl) (by kernel_rfl) (by kernel_rfl) (by kernel_rfl) (by exact fun _ _ _ h => h) (Or.inl ⟨by rfl, ?_⟩) (by assumption) ?_
      rotate_left
      · intro w hSw
        try dsimp only at hSw
        obtain ⟨q1, h1⟩ := hSw.c.b.whole ol
        obtain ⟨q2, h2⟩ := hSw.c.we.whole xl
        clear hSw
        go_simp
        try with_reducible rfl
      try simp only [Act.put, List.setIfInBounds_toArray, List.set_cons_zero, List.set_cons_succ]
      refine wpAnyH_take (i := 11) (oi := _) (v := ?_) (by simp only [List.getElem?_toArray, List.getElem?_cons_succ, List.getElem?_cons_zero]; rfl) (by kernel_rfl) (by kernel_rfl) (by kernel_rfl) (by exact fun _ _ _ h => h) (Or.inl ⟨by rfl, ?_⟩) (by assumption) ?_
      rotate_left
      · intro w hSw
        try dsimp only at hSw
        obtain ⟨q1, h1⟩ := hSw.c.b.whole ol
        obtain ⟨q2, h2⟩ := hSw.c.we.whole xl
        clear hSw
        go_simp
        try with_reducible rfl
      try simp only [Act.put, List.setIfInBounds_toArray, List.set_cons_zero, List.set_cons_succ]
      refine wpAnyH_take (i := 13) (oi := _) (v := ?_) (by simp only [List.getElem?_toArray, List.getElem?_cons_succ, List.getElem?_cons_zero]; rfl) (by kernel_rfl) (by kernel_rfl) (by kernel_rfl) (by exact fun _ _ _ h => h) (Or.inl ⟨by rfl, ?_⟩) (by assumption) ?_
      rotate_left
      · intro w hSw
        try dsimp only at hSw
        obtain ⟨q1, h1⟩ := hSw.c.b.whole ol
        obtain ⟨q2, h2⟩ := hSw.c.we.whole xl
        clear hSw
        go_simp
        try with_reducible rfl
      try simp only [Act.put, List.setIfInBounds_toArray, List.set_cons_zero, List.set_cons_succ]
      refine wpAnyH_ready (rs := [12]) (by kernel_rfl) (by simp) ?_
      refine AllReadyH.cons (o := _) (by simp only [List.getElem?_toArray, List.getElem?_cons_succ, List.getElem?_cons_zero]; rfl) (fun K hK => ?_) AllReadyH.nil
      go_simp
      try dsimp only at hHeld
      go_at_call 11
      (with_reducible refine (HB _ (Vc.x (Vr.c hHeld))).mono ?_)
      rintro x5 w5 ⟨rfl, hx5⟩
      have hh5 := Vr.next hHeld hx5
      try go_wp2_with fail
      refine hK.out _ _ ?_ (fun hHeld => ?_)
      · exact hh5
      clear hK K
      try simp only [Act.put, List.setIfInBounds_toArray, List.set_cons_zero, List.set_cons_succ]
      refine wpAnyH_take (i := 14) (oi := _) (v := ?_) (by simp only [List.getElem?_toArray, List.getElem?_cons_succ, List.getElem?_cons_zero]; rfl) (by kernel_rfl) (by kernel_rfl) (by kernel_rfl) (by exact fun _ _ _ h => h) (Or.inl ⟨by rfl, ?_⟩) (by assumption) ?_
      rotate_left
      · intro w hSw
        try dsimp only at hSw
        obtain ⟨q1, h1⟩ := hSw.c.b.whole ol
        obtain ⟨q2, h2⟩ := hSw.c.we.whole xl
        clear hSw
        go_simp
        try with_reducible rfl
      try simp only [Act.put, List.setIfInBounds_toArray, List.set_cons_zero, List.set_cons_succ]
      refine wpAnyH_take (i := 15) (oi := _) (v := ?_) (by simp only [List.getElem?_toArray, List.getElem?_cons_succ, List.getElem?_cons_zero]; rfl) (by kernel_rfl) (by kernel_rfl) (by kernel_rfl) (by exact fun _ _ _ h => h) (Or.inl ⟨by rfl, ?_⟩) (by assumption) ?_
      rotate_left
      · intro w hSw
        try dsimp only at hSw
        obtain ⟨q1, h1⟩ := hSw.c.b.whole ol
        obtain ⟨q2, h2⟩ := hSw.c.we.whole xl
        clear hSw
        go_simp
        try with_reducible rfl
      try simp only [Act.put, List.setIfInBounds_toArray, List.set_cons_zero, List.set_cons_succ]
      refine wpAnyH_done (by kernel_rfl) ?_ _
      refine NoPanic.normal ?_
      try dsimp only at hHeld
      go_wp2_with fail
      go_roundw
      exact ⟨i + 1, x', by omega, hX', rfl, rfl, rfl, by first | rfl | push_cast; rfl, Vr.c hHeld⟩
      go_light
      show n - ((i : Int) + 1).toNat < n - (i : Int).toNat
      omega
    · have e1 : ¬ (i : Int) < (n : Int) := by omega
      go_wp2_with fail
      go_ret
      exact ⟨rfl, hC.under⟩
end Go.Proofs.Ytoknodkgmeinmaa.voteCounts
