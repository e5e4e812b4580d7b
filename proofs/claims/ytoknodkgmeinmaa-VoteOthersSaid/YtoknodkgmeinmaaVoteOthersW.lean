/- The walk of VoteOthers. (Printed by gen_vothers.py.) -/
import Derived.Test.YtoknodkgmeinmaaVtF
import Derived.Test.YtoknodkgmeinmaaVwB
import Derived.Test.YtoknodkgmeinmaaChgO
import Derived.BigQuiet
import Derived.Deep.Light
import Derived.Deep.RegionHeld3
namespace Go.Proofs.Ytoknodkgmeinmaa.voteOthers
open Go.RowKit

theorem wf_chg : wf64 [0, 3, 0] := by
  intro z hz
  simp only [List.mem_cons, List.not_mem_nil, or_false] at hz
  rcases hz with rfl | rfl | rfl <;> decide
/-- What the law holds: what it was handed, a view, its own try, a vote. -/
structure Vo (w0 : World) (s p q g : Nat) (bs vs os : List Int) (x : Vt) (w : World) : Prop where
  b : IBlk w s 31 bs
  v : IBlk w p 27 vs
  o : IBlk w q 31 os
  x : IBlk w g 70 (vtL x)
  under : Below w0.heap.size w0 w
  g0 : w0.heap.size ≤ g
  sg : s ≠ g
  pg : p ≠ g
  qg : q ≠ g
section
variable {w0 w w' : World} {s p q g : Nat} {bs vs os : List Int} {x y : Vt}
theorem Vo.next (h : Vo w0 s p q g bs vs os x w) (k : Below w.heap.size w w') : Vo w0 s p q g bs vs os x w' :=
  ⟨h.b.below k h.b.lt, h.v.below k h.v.lt, h.o.below k h.o.lt, h.x.below k h.x.lt, h.under.trans (k.mono h.under.size), h.g0, h.sg, h.pg, h.qg⟩
theorem Vo.drew (h : Vo w0 s p q g bs vs os x w) : Vo w0 s p q g bs vs os x w.drew := h.next (Below.drewR (Below.refl _ _))
theorem Vo.vote (h : Vo w0 s p q g bs vs os x w) (hi : IBlk w' g 70 (vtL y)) (k : Only (· = g) w w') : Vo w0 s p q g bs vs os y w' :=
  ⟨h.b.only k h.sg, h.v.only k h.pg, h.o.only k h.qg, hi, below_only h.under k (fun i (e : i = g) => by have := h.g0; omega) h.under.size, h.g0, h.sg, h.pg, h.qg⟩
theorem Vo.got (h : Vo w0 s p q g bs vs os x w) (hb : bs.length = 2) (hv : vs.length = 7) (ho : os.length = 2) :
    (rowAt w s 0 2 = iA bs ∧ HasRow w s 0 2) ∧ (rowAt w p 0 7 = iA vs ∧ HasRow w p 0 7) ∧ (rowAt w q 0 2 = iA os ∧ HasRow w q 0 2) := ⟨h.b.whole hb, h.v.whole hv, h.o.whole ho⟩
end
attribute [local go_sem ↓] loadViewF_fold storeViewF_fold allocViewF_fold buildViewF_fold loadBltF_fold storeBltF_fold allocBltF_fold buildBltF_fold loadChgF_fold storeChgF_fold allocChgF_fold buildChgF_fold
attribute [local go_sem] loadViewF_has storeViewF_has allocViewF_run buildViewF_none buildViewF_two loadBltF_has storeBltF_has allocBltF_run buildBltF_none buildBltF_0 loadChgF_has storeChgF_has allocChgF_run buildChgF_three buildChgF_none buildChgF_two
set_option maxRecDepth 100000 in
set_option maxHeartbeats 6400000 in
theorem walk (w : World) (A : Option Addr) (n c : Nat) (zs : List Int) (hR : IntsIn w w.heap.size 3 A n zs) (_ : n ≤ c) (_ : c ≤ maxLen) (who : Int) (_ : -9223372036854775808 ≤ who) (_ : who ≤ 9223372036854775807) (bs : List Int) (hbl : bs.length = 2) (wb : wf64 bs) :
    Calls Try.prog 5 #[.slice A n c, .int .i64 who, .agg (iA bs)] w fun e w' => e = .returned (.bool true) ∧ Below w.heap.size w w' := by
  have hb0 := IBlk.new w 31 bs
  have B0 := (Below.refl w.heap.size w).alloc (Nat.le_refl _) (.cells (iA bs) 31)
  have hx := (behV_ok zs n).1
  have w03 := wf_chg
  have w72 := wf_small (a := 7) (b := 2) (by decide) (by decide)
  go_enter Try.func5, Try.ntmps5
  go_upto_region 1 with fail
  generalize w.alloc (.cells (iA bs) 31) = w1 at hb0 B0
  go_wp2_with fail
  (with_reducible refine (fit13_any w1).mono ?_)
  rintro e w2 ⟨rfl, hb⟩
  have hb2 := hb0.below hb hb0.lt
  have B2 := B0.trans (hb.mono B0.size)
  clear hb0 B0 hb
  by_cases h20 : 20 < n
  · have d1 : (20 : Int) < (n : Int) := by omega
    go_wp2_with fail
    go_ret
    exact ⟨rfl, B2⟩
  have d1 : ¬ (20 : Int) < (n : Int) := by omega
  go_wp2_with fail
  have HBH := behind_any A n c zs w2 ((hR.below B2 (Nat.le_refl _)).wide B2.size) (by omega)
  have hv0 := behV_ok zs n
  generalize (behV zs n).2 = m at HBH hv0
  generalize (behV zs n).1 = v at HBH hx hv0
  have hvl := hx.len
  have vl := zV_length hvl
  clear hv0 hR h20
  (with_reducible refine HBH.mono ?_)
  rintro e w3 ⟨rfl, hb⟩
  have hb3 := hb2.below hb hb2.lt
  have B3 := B2.trans (hb.mono B2.size)
  clear hb2 B2 hb HBH
  have HV0 := fun w => vnew_any v hvl 7 2 [0, 3, 0] rfl w
  have hY : (newV v 7 2 [0, 3, 0]).Ok := newV_ok hx 7 2 rfl
  obtain ⟨zz, hzz⟩ : ∃ zz, zz = zV v := ⟨_, rfl⟩
  rw [← hzz] at HV0 vl
  have HZ := hide hzz
  have i7 : Is 7 zz := vl
  obtain ⟨rm, hX, hO, B4⟩ := lay (t := 27) B3 vl B3.size
  have hb4 := hb3.only hO (fun h => h)
  rw [← hzz]
  clear hzz
  go_upto_region 6 with fail
  have hp0 := B3.size
  generalize w3.heap.size = p at hX hO B4 hb4 rm hp0
  generalize (w3.alloc (.cells (iA (zeros 7)) 27)).setCells p 0 (iV zz) = w4 at hX hO B4 hb4 rm
  clear rm hO hb3 B3
  obtain ⟨os, hos⟩ : ∃ os : List Int, os = [7, 2] := ⟨_, rfl⟩
  have ol : os.length = 2 := by rw [hos]; rfl
  have o2 : Is 2 os := ol
  have hbld : ∀ w, (buildBltF #[(0, .int .i64 7), (1, .int .i64 2)]).run Try.prog w = .ok (.agg (iA os)) w := fun w => by rw [hos]; exact buildBltF_0_1 7 2 w
  rw [← hos] at HV0
  have HO := hide hos
  clear hos
  obtain ⟨rm, hQ, hO, B5⟩ := lay (t := 31) B4 ol B4.size
  have hX5 := hX.only hO (fun h => h)
  have hb5 := hb4.only hO (fun h => h)
  have hpl := hX.lt
  go_upto_region 7 with fail
  have hq0 := B4.size
  generalize w4.heap.size = q at hQ hO B5 hb5 hX5 rm hq0 hpl
  generalize (w4.alloc (.cells (iA (zeros 2)) 31)).setCells q 0 (iV os) = w5 at hQ hO B5 hb5 hX5 rm
  clear rm hO hb4 hX B4
  obtain ⟨q1, h1⟩ := hX5.whole vl
  obtain ⟨q2, h2⟩ := hQ.whole ol
  go_wp2_with fail
  (with_reducible refine (HV0 w5).mono ?_)
  rintro e w6 ⟨g, rfl, hg, hI, hb⟩
  have hsg := hb5.lt
  have hql := hQ.lt
  have hg0 : w.heap.size ≤ g := Nat.le_trans B5.size hg
  have hVo : Vo w w.heap.size p q g bs zz os (newV v 7 2 [0, 3, 0]) w6 :=
    ⟨hb5.below hb hb5.lt, hX5.below hb hX5.lt, hQ.below hb hQ.lt, hI, B5.trans (hb.mono B5.size), hg0, by omega, by omega, by omega⟩
  clear hb5 hX5 hQ hI B5 hb HV0 q1 h1 q2 h2 hsg hql hpl hq0 hp0 i7 o2 hbld hg
  obtain ⟨r, u, rfl⟩ := lit2 hbl
  have HQ := fun w => Try.eqBlt (xs := [r, u]) (ys := [7, 2]) rfl rfl wb w72 w
  have HM := fun w => member_any v hvl who w
  have HC := fun W h => vChange_any (newV v 7 2 [0, 3, 0]) hY g W h
  have HB := fun W h => vBallot_any (newV v 7 2 [0, 3, 0]) hY g W h
  have HP := fun W h => vPutting_any (newV v 7 2 [0, 3, 0]) hY g W h
  rw [show putsB (newV v 7 2 [0, 3, 0]) = false from most_zero _] at HP
  rw [show (newV v 7 2 [0, 3, 0]).c = [0, 3, 0] from rfl] at HC
  rw [show [(newV v 7 2 [0, 3, 0]).r, (newV v 7 2 [0, 3, 0]).w] = [7, 2] from rfl] at HB
  have HVb : ∀ eb, decide ([r, u] = [7, 2]) = eb → eb = false → ∀ W, IBlk W g 70 (vtL (newV v 7 2 [0, 3, 0])) → Calls Try.prog 14 #[.pointer (some ⟨g, 0, none⟩), .int .i64 who, .agg (iA [r, u]), .agg (iA [9, 0]), .agg (iA (zeros 3))] W fun e w' => e = .returned (.bool false) ∧ IBlk w' g 70 (vtL (newV v 7 2 [0, 3, 0])) ∧ Only (· = g) W w' := fun eb he h0 W hI => by
    subst h0
    have := vVowed_any _ hY w72 who r u 9 0 wb (zeros 3) rfl g W hI
    obtain ⟨e1, e2⟩ := cnt_no (newV v 7 2 [0, 3, 0]) who r u 9 0 (zeros 3) (.inr (by rw [cntB]; show (decide ([r, u] = [7, 2]) && _) = false; rw [he]; rfl))
    rwa [e1, e2] at this
  have HTb : ∀ eb, decide ([r, u] = [7, 2]) = eb → eb = false → ∀ W, IBlk W g 70 (vtL (newV v 7 2 [0, 3, 0])) → Calls Try.prog 17 #[.pointer (some ⟨g, 0, none⟩), .int .i64 who, .agg (iA [r, u])] W fun e w' => e = .returned (.bool false) ∧ IBlk w' g 70 (vtL (newV v 7 2 [0, 3, 0])) ∧ Only (· = g) W w' := fun eb he h0 W hI => by
    subst h0
    have := vTaken_any _ hY w72 who r u wb g W hI
    obtain ⟨e1, e2⟩ := tak_no (newV v 7 2 [0, 3, 0]) who r u (.inr (by rw [cntB]; show (decide ([r, u] = [7, 2]) && _) = false; rw [he]; rfl))
    rwa [e1, e2] at this
  have HVo : ∀ ib, inV v.m who = ib → ib = false → ∀ W, IBlk W g 70 (vtL (newV v 7 2 [0, 3, 0])) → Calls Try.prog 14 #[.pointer (some ⟨g, 0, none⟩), .int .i64 who, .agg (iA [7, 2]), .agg (iA [9, 0]), .agg (iA (zeros 3))] W fun e w' => e = .returned (.bool false) ∧ IBlk w' g 70 (vtL (newV v 7 2 [0, 3, 0])) ∧ Only (· = g) W w' := fun ib he h0 W hI => by
    subst h0
    have := vVowed_any _ hY w72 who 7 2 9 0 w72 (zeros 3) rfl g W hI
    obtain ⟨e1, e2⟩ := cnt_no (newV v 7 2 [0, 3, 0]) who 7 2 9 0 (zeros 3) (.inr (by rw [cntB]; show (_ && inV v.m who) = false; rw [he, Bool.and_false]))
    rwa [e1, e2] at this
  have HTo : ∀ ib, inV v.m who = ib → ib = false → ∀ W, IBlk W g 70 (vtL (newV v 7 2 [0, 3, 0])) → Calls Try.prog 17 #[.pointer (some ⟨g, 0, none⟩), .int .i64 who, .agg (iA [7, 2])] W fun e w' => e = .returned (.bool false) ∧ IBlk w' g 70 (vtL (newV v 7 2 [0, 3, 0])) ∧ Only (· = g) W w' := fun ib he h0 W hI => by
    subst h0
    have := vTaken_any _ hY w72 who 7 2 w72 g W hI
    obtain ⟨e1, e2⟩ := tak_no (newV v 7 2 [0, 3, 0]) who 7 2 (.inr (by rw [cntB]; show (_ && inV v.m who) = false; rw [he, Bool.and_false]))
    rwa [e1, e2] at this
  have HE := fun w => Try.eqChg (xs := [0, 3, 0]) (ys := [0, 3, 0]) rfl rfl w03 w03 w
  have HE2 := fun w => Try.eqBlt (xs := [7, 2]) (ys := [7, 2]) rfl rfl w72 w72 w
  rw [show decide (([0, 3, 0] : List Int) = [0, 3, 0]) = true from rfl] at HE
  rw [show decide (([7, 2] : List Int) = [7, 2]) = true from rfl] at HE2
  generalize newV v 7 2 [0, 3, 0] = x at *
  rw [← HO.out] at HQ HB HVo HTo HE2
  rw [← HZ.out] at HM
  have hVb := HVb (decide ([r, u] = os)) (by rw [HO.out])
  have hTb := HTb (decide ([r, u] = os)) (by rw [HO.out])
  have hVo1 := HVo _ rfl
  have hTo1 := HTo _ rfl
  clear HVb HTb HVo HTo
  generalize decide ([r, u] = os) = eb at HQ hVb hTb
  generalize inV v.m who = ib at HM hVo1 hTo1
  generalize [r, u] = bs at *
  go_wp2_with fail
  go_loopw [26] (fun s26 wr => ∃ i : Nat, i ≤ 9 ∧ s26 = .int .i64 (i : Int) ∧ Vo w w.heap.size p q g bs zz os x wr) (fun s26 _ => 9 - (intOf s26).toNat)
  case atStart => exact ⟨0, by omega, rfl, hVo⟩
  case round =>
    clear hVo
    obtain ⟨i, hi, rfl, hV⟩ := hrel
    have ⟨⟨q1, h1⟩, ⟨q2, h2⟩, q3, h3⟩ := hV.got hbl vl ol
    by_cases hlt : i < 9
    · have d2 : decide ((i : Int) < 9) = true := decide_eq_true (by omega)
      cases eb
      · go_wp2_with fail
        (with_reducible refine (hVb (by trivial) wr hV.x).mono ?_)
        rintro e wv ⟨rfl, hI, ho⟩
        have hV2 := hV.vote hI ho
        clear hV hI ho q1 h1 q2 h2 q3 h3
        obtain ⟨⟨q1, h1⟩, ⟨q2, h2⟩, q3, h3⟩ := hV2.got hbl vl ol
        go_wp2_with fail
        (with_reducible refine (hTb (by trivial) wv hV2.x).mono ?_)
        rintro e wt ⟨rfl, hI, ho⟩
        have hV3 := hV2.vote hI ho
        clear hV2 hI ho q1 h1 q2 h2 q3 h3
        obtain ⟨⟨q1, h1⟩, ⟨q2, h2⟩, q3, h3⟩ := hV3.got hbl vl ol
        go_wp2_with fail
        (with_reducible refine (HM wt).mono ?_)
        rintro e wm ⟨rfl, hb⟩
        have hM := hV3.next hb
        clear hV3 hb q1 h1 q2 h2 q3 h3
        obtain ⟨⟨q1, h1⟩, ⟨q2, h2⟩, q3, h3⟩ := hM.got hbl vl ol
        cases ib
        · go_wp2_with fail
          (with_reducible refine (hVo1 (by trivial) wm hM.x).mono ?_)
          rintro e wm2 ⟨rfl, hI, ho⟩
          have hM2 := hM.vote hI ho
          clear hM hI ho q1 h1 q2 h2 q3 h3
          obtain ⟨⟨q1, h1⟩, ⟨q2, h2⟩, q3, h3⟩ := hM2.got hbl vl ol
          go_wp2_with fail
          (with_reducible refine (hTo1 (by trivial) wm2 hM2.x).mono ?_)
          rintro e wm3 ⟨rfl, hI, ho⟩
          have hM3 := hM2.vote hI ho
          clear hM2 hI ho q1 h1 q2 h2 q3 h3
          obtain ⟨⟨q1, h1⟩, ⟨q2, h2⟩, q3, h3⟩ := hM3.got hbl vl ol
          go_wp2_with fail
          go_roundw
          exact ⟨i + 1, by omega, by first | rfl | push_cast; rfl, hM3⟩
          show 9 - ((i : Int) + 1).toNat < 9 - (i : Int).toNat
          go_light
          omega
        · go_wp2_with fail
          go_roundw
          exact ⟨i + 1, by omega, by first | rfl | push_cast; rfl, hM⟩
          show 9 - ((i : Int) + 1).toNat < 9 - (i : Int).toNat
          go_light
          omega
      · go_wp2_with fail
        (with_reducible refine (HM wr).mono ?_)
        rintro e wm ⟨rfl, hb⟩
        have hM := hV.next hb
        clear hV hb q1 h1 q2 h2 q3 h3
        obtain ⟨⟨q1, h1⟩, ⟨q2, h2⟩, q3, h3⟩ := hM.got hbl vl ol
        cases ib
        · go_wp2_with fail
          (with_reducible refine (hVo1 (by trivial) wm hM.x).mono ?_)
          rintro e wm2 ⟨rfl, hI, ho⟩
          have hM2 := hM.vote hI ho
          clear hM hI ho q1 h1 q2 h2 q3 h3
          obtain ⟨⟨q1, h1⟩, ⟨q2, h2⟩, q3, h3⟩ := hM2.got hbl vl ol
          go_wp2_with fail
          (with_reducible refine (hTo1 (by trivial) wm2 hM2.x).mono ?_)
          rintro e wm3 ⟨rfl, hI, ho⟩
          have hM3 := hM2.vote hI ho
          clear hM2 hI ho q1 h1 q2 h2 q3 h3
          obtain ⟨⟨q1, h1⟩, ⟨q2, h2⟩, q3, h3⟩ := hM3.got hbl vl ol
          go_wp2_with fail
          go_roundw
          exact ⟨i + 1, by omega, by first | rfl | push_cast; rfl, hM3⟩
          show 9 - ((i : Int) + 1).toNat < 9 - (i : Int).toNat
          go_light
          omega
        · go_wp2_with fail
          go_roundw
          exact ⟨i + 1, by omega, by first | rfl | push_cast; rfl, hM⟩
          show 9 - ((i : Int) + 1).toNat < 9 - (i : Int).toNat
          go_light
          omega
    · have d2 : decide ((i : Int) < 9) = false := decide_eq_false (by omega)
      clear hVb hTb hVo1 hTo1 HM HQ hi hlt q1 h1 q2 h2 q3 h3
      go_wp2_with fail
      refine wp_region_noPanic ?_
      refine wp_region_held_drew (S := (Vo w w.heap.size p q g bs zz os x)) (by kernel_rfl) ?_ (fun hHeld => ?_)
      · exact hV.drew
      refine wpAnyH_take (i := 0) (oi := _) (v := ?_) (by simp only [List.getElem?_toArray, List.getElem?_cons_zero]; rfl) (by kernel_rfl) (by kernel_rfl) (by kernel_rfl) (by exact fun _ _ _ h => h) (Or.inl ⟨by rfl, ?_⟩) (by assumption) ?_
      rotate_left
      · intro w hSw
        try dsimp only at hSw
        obtain ⟨-, -, q3, h3⟩ := hSw.got hbl vl ol
        clear hSw
        go_simp
        try with_reducible rfl
      try simp only [Act.put, List.setIfInBounds_toArray, List.set_cons_zero, List.set_cons_succ]
      refine wpAnyH_take (i := 2) (oi := _) (v := ?_) (by simp only [List.getElem?_toArray, List.getElem?_cons_succ, List.getElem?_cons_zero]; rfl) (by kernel_rfl) (by kernel_rfl) (by kernel_rfl) (by exact fun _ _ _ h => h) (Or.inl ⟨by rfl, ?_⟩) (by assumption) ?_
      rotate_left
      · intro w hSw
        try dsimp only at hSw
        obtain ⟨-, -, q3, h3⟩ := hSw.got hbl vl ol
        clear hSw
        go_simp
        try with_reducible rfl
      try simp only [Act.put, List.setIfInBounds_toArray, List.set_cons_zero, List.set_cons_succ]
      refine wpAnyH_ready (rs := [1]) (by kernel_rfl) (by simp) ?_
      refine AllReadyH.cons (o := _) (by simp only [List.getElem?_toArray, List.getElem?_cons_succ, List.getElem?_cons_zero]; rfl) (fun K hK => ?_) AllReadyH.nil
      go_simp
      try dsimp only at hHeld
      go_at_call 16
      (with_reducible refine (HC _ (Vo.x hHeld)).mono ?_)
      rintro x5 w5 ⟨rfl, hx5⟩
      have hh5 := Vo.next hHeld hx5
      try go_wp2_with fail
      refine hK.out _ _ ?_ (fun hHeld => ?_)
      · exact hh5
      clear hK K
      try simp only [Act.put, List.setIfInBounds_toArray, List.set_cons_zero, List.set_cons_succ]
      refine wpAnyH_take (i := 3) (oi := _) (v := ?_) (by simp only [List.getElem?_toArray, List.getElem?_cons_succ, List.getElem?_cons_zero]; rfl) (by kernel_rfl) (by kernel_rfl) (by kernel_rfl) (by exact fun _ _ _ h => h) (Or.inl ⟨by rfl, ?_⟩) (by assumption) ?_
      rotate_left
      · intro w hSw
        try dsimp only at hSw
        obtain ⟨-, -, q3, h3⟩ := hSw.got hbl vl ol
        clear hSw
        go_simp
        try with_reducible rfl
      try simp only [Act.put, List.setIfInBounds_toArray, List.set_cons_zero, List.set_cons_succ]
      refine wpAnyH_take (i := 4) (oi := _) (v := ?_) (by simp only [List.getElem?_toArray, List.getElem?_cons_succ, List.getElem?_cons_zero]; rfl) (by kernel_rfl) (by kernel_rfl) (by kernel_rfl) (by exact fun _ _ _ h => h) (Or.inl ⟨by rfl, ?_⟩) (by assumption) ?_
      rotate_left
      · intro w hSw
        try dsimp only at hSw
        obtain ⟨-, -, q3, h3⟩ := hSw.got hbl vl ol
        clear hSw
        go_simp
        try with_reducible rfl
      try simp only [Act.put, List.setIfInBounds_toArray, List.set_cons_zero, List.set_cons_succ]
      refine wpAnyH_take (i := 5) (oi := _) (v := ?_) (by simp only [List.getElem?_toArray, List.getElem?_cons_succ, List.getElem?_cons_zero]; rfl) (by kernel_rfl) (by kernel_rfl) (by kernel_rfl) (by exact fun _ _ _ h => h) (Or.inl ⟨by rfl, ?_⟩) (by assumption) ?_
      rotate_left
      · intro w hSw
        try dsimp only at hSw
        obtain ⟨-, -, q3, h3⟩ := hSw.got hbl vl ol
        clear hSw
        go_simp
        try with_reducible rfl
      try simp only [Act.put, List.setIfInBounds_toArray, List.set_cons_zero, List.set_cons_succ]
      refine wpAnyH_ready (rs := [6]) (by kernel_rfl) (by simp) ?_
      refine AllReadyH.cons (o := _) (by simp only [List.getElem?_toArray, List.getElem?_cons_succ, List.getElem?_cons_zero]; rfl) (fun K hK => ?_) AllReadyH.nil
      go_simp
      try dsimp only at hHeld
      go_at_call 13
      (with_reducible refine (HP _ (Vo.x hHeld)).mono ?_)
      rintro x5 w5 ⟨rfl, hx5⟩
      have hh5 := Vo.next hHeld hx5
      try go_wp2_with fail
      refine hK.out _ _ ?_ (fun hHeld => ?_)
      · exact hh5
      clear hK K
      try simp only [Act.put, List.setIfInBounds_toArray, List.set_cons_zero, List.set_cons_succ]
      refine wpAnyH_take (i := 7) (oi := _) (v := ?_) (by simp only [List.getElem?_toArray, List.getElem?_cons_succ, List.getElem?_cons_zero]; rfl) (by kernel_rfl) (by kernel_rfl) (by kernel_rfl) (by exact fun _ _ _ h => h) (Or.inl ⟨by rfl, ?_⟩) (by assumption) ?_
      rotate_left
      · intro w hSw
        try dsimp only at hSw
        obtain ⟨-, -, q3, h3⟩ := hSw.got hbl vl ol
        clear hSw
        go_simp
        try with_reducible rfl
      try simp only [Act.put, List.setIfInBounds_toArray, List.set_cons_zero, List.set_cons_succ]
      refine wpAnyH_take (i := 8) (oi := _) (v := ?_) (by simp only [List.getElem?_toArray, List.getElem?_cons_succ, List.getElem?_cons_zero]; rfl) (by kernel_rfl) (by kernel_rfl) (by kernel_rfl) (by exact fun _ _ _ h => h) (Or.inl ⟨by rfl, ?_⟩) (by assumption) ?_
      rotate_left
      · intro w hSw
        try dsimp only at hSw
        obtain ⟨-, -, q3, h3⟩ := hSw.got hbl vl ol
        clear hSw
        go_simp
        try with_reducible rfl
      try simp only [Act.put, List.setIfInBounds_toArray, List.set_cons_zero, List.set_cons_succ]
      refine wpAnyH_take (i := 9) (oi := _) (v := ?_) (by simp only [List.getElem?_toArray, List.getElem?_cons_succ, List.getElem?_cons_zero]; rfl) (by kernel_rfl) (by kernel_rfl) (by kernel_rfl) (by exact fun _ _ _ h => h) (Or.inl ⟨by rfl, ?_⟩) (by assumption) ?_
      rotate_left
      · intro w hSw
        try dsimp only at hSw
        obtain ⟨-, -, q3, h3⟩ := hSw.got hbl vl ol
        clear hSw
        go_simp
        try with_reducible rfl
      try simp only [Act.put, List.setIfInBounds_toArray, List.set_cons_zero, List.set_cons_succ]
      refine wpAnyH_take (i := 10) (oi := _) (v := ?_) (by simp only [List.getElem?_toArray, List.getElem?_cons_succ, List.getElem?_cons_zero]; rfl) (by kernel_rfl) (by kernel_rfl) (by kernel_rfl) (by exact fun _ _ _ h => h) (Or.inl ⟨by rfl, ?_⟩) (by assumption) ?_
      rotate_left
      · intro w hSw
        try dsimp only at hSw
        obtain ⟨-, -, q3, h3⟩ := hSw.got hbl vl ol
        clear hSw
        go_simp
        try with_reducible rfl
      try simp only [Act.put, List.setIfInBounds_toArray, List.set_cons_zero, List.set_cons_succ]
      refine wpAnyH_take (i := 12) (oi := _) (v := ?_) (by simp only [List.getElem?_toArray, List.getElem?_cons_succ, List.getElem?_cons_zero]; rfl) (by kernel_rfl) (by kernel_rfl) (by kernel_rfl) (by exact fun _ _ _ h => h) (Or.inl ⟨by rfl, ?_⟩) (by assumption) ?_
      rotate_left
      · intro w hSw
        try dsimp only at hSw
        obtain ⟨-, -, q3, h3⟩ := hSw.got hbl vl ol
        clear hSw
        go_simp
        try with_reducible rfl
      try simp only [Act.put, List.setIfInBounds_toArray, List.set_cons_zero, List.set_cons_succ]
      refine wpAnyH_ready (rs := [11]) (by kernel_rfl) (by simp) ?_
      refine AllReadyH.cons (o := _) (by simp only [List.getElem?_toArray, List.getElem?_cons_succ, List.getElem?_cons_zero]; rfl) (fun K hK => ?_) AllReadyH.nil
      go_simp
      try dsimp only at hHeld
      go_at_call 11
      (with_reducible refine (HB _ (Vo.x hHeld)).mono ?_)
      rintro x5 w5 ⟨rfl, hx5⟩
      have hh5 := Vo.next hHeld hx5
      try go_wp2_with fail
      refine hK.out _ _ ?_ (fun hHeld => ?_)
      · exact hh5
      clear hK K
      try simp only [Act.put, List.setIfInBounds_toArray, List.set_cons_zero, List.set_cons_succ]
      refine wpAnyH_take (i := 13) (oi := _) (v := ?_) (by simp only [List.getElem?_toArray, List.getElem?_cons_succ, List.getElem?_cons_zero]; rfl) (by kernel_rfl) (by kernel_rfl) (by kernel_rfl) (by exact fun _ _ _ h => h) (Or.inl ⟨by rfl, ?_⟩) (by assumption) ?_
      rotate_left
      · intro w hSw
        try dsimp only at hSw
        obtain ⟨-, -, q3, h3⟩ := hSw.got hbl vl ol
        clear hSw
        go_simp
        try with_reducible rfl
      try simp only [Act.put, List.setIfInBounds_toArray, List.set_cons_zero, List.set_cons_succ]
      refine wpAnyH_take (i := 14) (oi := _) (v := ?_) (by simp only [List.getElem?_toArray, List.getElem?_cons_succ, List.getElem?_cons_zero]; rfl) (by kernel_rfl) (by kernel_rfl) (by kernel_rfl) (by exact fun _ _ _ h => h) (Or.inl ⟨by rfl, ?_⟩) (by assumption) ?_
      rotate_left
      · intro w hSw
        try dsimp only at hSw
        obtain ⟨-, -, q3, h3⟩ := hSw.got hbl vl ol
        clear hSw
        go_simp
        try with_reducible rfl
      try simp only [Act.put, List.setIfInBounds_toArray, List.set_cons_zero, List.set_cons_succ]
      refine wpAnyH_take (i := 15) (oi := _) (v := ?_) (by simp only [List.getElem?_toArray, List.getElem?_cons_succ, List.getElem?_cons_zero]; rfl) (by kernel_rfl) (by kernel_rfl) (by kernel_rfl) (by exact fun _ _ _ h => h) (Or.inl ⟨by rfl, ?_⟩) (by assumption) ?_
      rotate_left
      · intro w hSw
        try dsimp only at hSw
        obtain ⟨-, -, q3, h3⟩ := hSw.got hbl vl ol
        clear hSw
        go_simp
        try with_reducible rfl
      try simp only [Act.put, List.setIfInBounds_toArray, List.set_cons_zero, List.set_cons_succ]
      refine wpAnyH_done (by kernel_rfl) ?_ _
      refine NoPanic.normal ?_
      try dsimp only at hHeld
      go_wp2_with fail
      go_ret
      exact ⟨rfl, hHeld.under⟩
end Go.Proofs.Ytoknodkgmeinmaa.voteOthers
