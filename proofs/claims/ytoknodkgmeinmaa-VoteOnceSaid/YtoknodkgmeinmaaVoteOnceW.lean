/- The walk of VoteOnce. (Printed by gen_vonce.py.) -/
import Derived.Test.YtoknodkgmeinmaaVtF
import Derived.Test.YtoknodkgmeinmaaVtR
import Derived.Test.YtoknodkgmeinmaaVwB
import Derived.Test.YtoknodkgmeinmaaBltK
import Derived.Test.YtoknodkgmeinmaaBltU
import Derived.Test.YtoknodkgmeinmaaChgO
import Derived.Test.YtoknodkgmeinmaaBitsI
import Derived.BigQuiet
import Derived.Deep.Light
import Derived.Deep.RegionHeld3
namespace Go.Proofs.Ytoknodkgmeinmaa.voteOnce
open Go.RowKit vx

theorem Try.opensCal {H : Type} {enc : TypeId × Value → H} {w : World} {base : Nat} {spare : Nat → Bool} {held : Bool} : Opens enc Try.prog w base spare held 41 := opens_struct Try.underlying41 (by kernel_rfl) (by intro f hf; simp at hf; rcases hf with rfl | rfl | rfl | rfl; exact opens_int Try.underlying3; exact opens_int Try.underlying3; exact opens_int Try.underlying3; exact Try.opensChg)
theorem Try.infoCal : (Try.prog.info? 41).map (·.size) = some 6 := by kernel_rfl
def loadCalF (x : Value) : Sem Value := Instr.loadAt 41 x
theorem loadCalF_fold (x : Value) : Instr.loadAt 41 x = loadCalF x := rfl
theorem loadCalF_has {w : World} {b o : Nat} (h : HasRow w b o 6) : (loadCalF (.pointer (some ⟨b, o, none⟩))).run Try.prog w = .ok (.agg (rowAt w b o 6)) w := run_loadAt_has Try.underlying41 rfl Try.infoCal h
def storeCalF (x v : Value) : Sem Unit := Instr.storeAt 41 x v
theorem storeCalF_fold (x v : Value) : Instr.storeAt 41 x v = storeCalF x v := rfl
theorem storeCalF_has {w : World} {b o : Nat} {ys : List Int} (h : Room w b o 6) (hl : Is 6 ys) : (storeCalF (.pointer (some ⟨b, o, none⟩)) (.agg (iA ys))).run Try.prog w = .ok () (w.setCells b o (iV ys)) := run_storeAt_is Try.infoCal h hl
def allocCalF (b : Bool) (x : Value) : Sem Value := Instr.alloc 41 b x
theorem allocCalF_fold (b : Bool) (x : Value) : Instr.alloc 41 b x = allocCalF b x := rfl
theorem allocCalF_run (w : World) : (allocCalF true (.tuple #[])).run Try.prog w = .ok (.pointer (some ⟨w.heap.size, 0, none⟩)) (w.alloc (.cells (iA (zeros 6)) 41)) := by kernel_rfl
def allocAc5F (b : Bool) (x : Value) : Sem Value := Instr.alloc 36 b x
theorem allocAc5F_fold (b : Bool) (x : Value) : Instr.alloc 36 b x = allocAc5F b x := rfl
theorem allocAc5F_run (w : World) : (allocAc5F true (.tuple #[])).run Try.prog w = .ok (.pointer (some ⟨w.heap.size, 0, none⟩)) (w.alloc (.cells (iA (zeros 40)) 36)) := by kernel_rfl
/-- Those who vow and take, as the law sets them up: so many. -/
def initL (e : Int) (i : Nat) : List Int := fl 5 fun q => (if q < i then e else 0) :: zeros 7
theorem initL_len (e : Int) (i : Nat) : (initL e i).length = 40 := rfl
theorem initL_zero (e : Int) : initL e 0 = zeros 40 := rfl
theorem initL_set (e : Int) {i : Nat} (hi : i < 5) : (initL e i).set (i * 8) e = initL e (i + 1) := by
  match i, hi with
  | 0, _ => rfl
  | 1, _ => rfl
  | 2, _ => rfl
  | 3, _ => rfl
  | 4, _ => rfl
theorem lit6 {l : List Int} (h : Is 6 l) : ∃ a b c d e f, l = [a, b, c, d, e, f] := by
  match l, h with
  | [a, b, c, d, e, f], _ => exact ⟨a, b, c, d, e, f, rfl⟩
theorem place_N (a : Int) {N : Nat} (hN : 0 < N) : ∃ q p : Nat, bits .and .i64 a 65535 = (q : Int) ∧ (q : Int).tmod (N : Int) = (p : Int) ∧ (q : Int) % (N : Int) = (p : Int) ∧ p < N := by
  refine ⟨(a % 65536).toNat, (a % 65536).toNat % N, ?_, ?_, ?_, Nat.mod_lt _ hN⟩
  · rw [show bits .and .i64 a 65535 = a % 65536 from i64_and_mask a 16 (by omega)]; omega
  · rw [Int.tmod_eq_emod_of_nonneg (by omega)]; push_cast; rfl
  · push_cast; rfl
theorem al_new {wb W : World} (h : Below wb.heap.size wb W) : IBlk (W.alloc (.cells (iA (zeros 8)) 35)) W.heap.size 35 (zeros 8) ∧ wb.heap.size ≤ W.heap.size ∧ Below wb.heap.size wb (W.alloc (.cells (iA (zeros 8)) 35)) ∧ Room (W.alloc (.cells (iA (zeros 8)) 35)) W.heap.size 0 8 :=
  ⟨IBlk.new _ _ _, h.size, h.alloc h.size _, (IBlk.new _ _ _).room 0 8 (by rw [zeros_length]; decide)⟩
theorem al_next {W W' : World} {pz : Nat} (h : IBlk W pz 35 (zeros 8)) (k : Below W.heap.size W W') : IBlk W' pz 35 (zeros 8) ∧ Room W' pz 0 8 :=
  ⟨h.below k h.lt, (h.below k h.lt).room 0 8 (by rw [zeros_length]; decide)⟩
theorem al_fill {wb W : World} {pz : Nat} {zA : List Int} (h : Below wb.heap.size wb W) (hN : IBlk W pz 35 (zeros 8)) (hg : wb.heap.size ≤ pz) (hl : Is 8 zA) : IBlk (W.setCells pz 0 (iV zA)) pz 35 zA ∧ Below wb.heap.size wb (W.setCells pz 0 (iV zA)) :=
  ⟨hN.fill hl, below_only h (only_cells W pz 0 (iV zA)) (fun i (e : i = pz) => by omega) h.size⟩
theorem vlay (W : World) {us : List Value} (hl : IsV 6 us) : Room (W.alloc (.cells (vowL none).toArray 48)) W.heap.size 0 6 ∧ VBlk ((W.alloc (.cells (vowL none).toArray 48)).setCells W.heap.size 0 us) W.heap.size 48 us ∧
    Below W.heap.size W ((W.alloc (.cells (vowL none).toArray 48)).setCells W.heap.size 0 us) :=
  ⟨(VBlk.new _ _ _).room 0 6 (by decide), (VBlk.new _ _ _).fill (by rw [hl.1]; rfl), below_only ((Below.refl _ _).alloc (Nat.le_refl _) _) (only_cells _ W.heap.size 0 us) (fun i (e : i = W.heap.size) => by omega) (by simp)⟩
/-- How it all begins. -/
def s0 (v : V) (e : Int) : Ps := ⟨0, fun _ => newV v 0 0 [0, 0, 0], fun _ => ⟨e, 0, 0, 0, 0, 0, 0, 0⟩, fun _ _ => none, fun _ _ => false⟩
theorem s0_acc (v : V) (e : Int) : fl 5 (accF (s0 v e)) = initL e 5 := rfl
theorem s0_inv (v : V) (e : Int) : Inv v e (s0 v e) [] :=
  ⟨fun _ h => absurd h (Nat.not_lt_zero _), fun _ _ => rfl, fun _ _ => .inl ⟨rfl, rfl⟩, fun _ _ => ⟨Int.le_refl _, Int.le_refl _, .inl rfl⟩, fun _ _ h => absurd h (Nat.not_lt_zero _), fun _ _ _ _ _ h => absurd h (Nat.not_lt_zero _),
    fun _ _ h => absurd h (Nat.not_lt_zero _), fun _ h => absurd h (Nat.not_lt_zero _), fun _ _ h => absurd h (Nat.not_lt_zero _), fun _ h => absurd h (List.not_mem_nil)⟩
attribute [local go_sem ↓] loadViewF_fold storeViewF_fold allocViewF_fold buildViewF_fold loadBltF_fold storeBltF_fold allocBltF_fold buildBltF_fold loadChgF_fold storeChgF_fold allocChgF_fold buildChgF_fold loadAccF_fold storeAccF_fold allocAccF_fold loadVowF_fold storeVowF_fold allocVowF_fold buildVowF_fold buildVsF_fold buildTsF_fold oneF_fold apF_fold loadCalF_fold storeCalF_fold allocCalF_fold allocAc5F_fold
attribute [local go_sem] loadViewF_has storeViewF_has allocViewF_run buildViewF_none loadBltF_has storeBltF_has allocBltF_run buildBltF_0_1 loadChgF_has storeChgF_has allocChgF_run buildChgF_none loadAccF_has storeAccF_has allocAccF_run loadVowF_has storeVowF_has allocVowF_run buildVsF_none buildTsF_none oneF_ptr oneF_vs oneF_ts oneF_chg apF_has loadCalF_has storeCalF_has allocCalF_run allocAc5F_run
set_option maxRecDepth 100000 in
set_option maxHeartbeats 6400000 in
theorem walk (w : World) (A : Option Addr) (n c : Nat) (zs : List Int) (hR : IntsIn w w.heap.size 3 A n zs) (_ : n ≤ c) (_ : c ≤ maxLen) (A2 : Option Addr) (n2 c2 : Nat) (cs : List Int) (hS : IntsIn w w.heap.size 6 A2 n2 cs) (_ : n2 ≤ c2) (_ : c2 ≤ maxLen) :
    Calls Try.prog 3 #[.slice A n c, .slice A2 n2 c2] w fun e w' => e = .returned (.bool true) ∧ Below w.heap.size w w' := by
  have hx := (behV_ok zs n).1
  have hx1 := (behV_ok zs n).2
  go_enter Try.func3, Try.ntmps3
  go_wp2_with fail
  (with_reducible refine (fit13_any w).mono ?_)
  rintro e w2 ⟨rfl, B2⟩
  by_cases h20 : 20 < n
  · have d1 : (20 : Int) < (n : Int) := by omega
    go_wp2_with fail
    go_ret
    exact ⟨rfl, B2⟩
  have d1 : ¬ (20 : Int) < (n : Int) := by omega
  by_cases h250 : 250 < n2
  · have d2 : (250 : Int) < (n2 : Int) := by omega
    go_wp2_with fail
    go_ret
    exact ⟨rfl, B2⟩
  have d2 : ¬ (250 : Int) < (n2 : Int) := by omega
  go_wp2_with fail
  have HBH := behind_any A n c zs w2 ((hR.below B2 (Nat.le_refl _)).wide B2.size) (by omega)
  have he : (behV zs n).1.e < 100000 := by omega
  clear hx1
  generalize (behV zs n).2 = m at HBH
  generalize (behV zs n).1 = v at HBH hx he
  have hvl := hx.len
  have vl := zV_length hvl
  clear hR h20 d1
  (with_reducible refine HBH.mono ?_)
  rintro e w3 ⟨rfl, hb⟩
  have B3 := B2.trans (hb.mono B2.size)
  clear B2 hb HBH
  obtain ⟨zz, hzz⟩ : ∃ zz, zz = zV v := ⟨_, rfl⟩
  rw [← hzz] at vl ⊢
  have HZ := hide hzz
  clear hzz
  have i7 : Is 7 zz := vl
  obtain ⟨rm, hV, hO, B4⟩ := lay (t := 27) B3 vl B3.size
  go_upto_region 6 with fail
  have hp0 := B3.size
  generalize w3.heap.size = p5 at hV hO B4 rm hp0
  generalize (w3.alloc (.cells (iA (zeros 7)) 27)).setCells p5 0 (iV zz) = w4 at hV hO B4 rm
  clear rm hO B3 i7
  have hA := IBlk.new w4 36 (zeros 40)
  have hV5 := hV.alloc (.cells (iA (zeros 40)) 36)
  have B5 := B4.alloc B4.size (.cells (iA (zeros 40)) 36)
  have hp7 := B4.size
  have h57 := hV.lt
  go_upto_region 7 with fail
  generalize w4.heap.size = p7 at *
  generalize w4.alloc (.cells (iA (zeros 40)) 36) = w5 at *
  clear hV B4
  obtain ⟨ep, hep⟩ : ∃ ep : Int, ep = (v.e : Int) := ⟨_, rfl⟩
  have ze : zz[0]? = some ep := by rw [HZ.out, hep]; rfl
  have HE := hide hep
  clear hep
  go_wp2_with fail
  go_loopw [45] (fun s45 wr => ∃ i : Nat, i ≤ 5 ∧ s45 = .int .i64 (i : Int) ∧ IBlk wr p7 36 (initL ep i) ∧ IBlk wr p5 27 zz ∧ Below w.heap.size w wr) (fun s45 _ => 5 - (intOf s45).toNat)
  case atStart => exact ⟨0, by omega, rfl, hA, hV5, B5⟩
  case round =>
    clear hA hV5 B5
    obtain ⟨i, hi, rfl, hA, hV, hB⟩ := hrel
    by_cases hlt : i < 5
    · have e1 : (i : Int) < 5 := by omega
      have i0 : (0 : Int) ≤ (i : Int) := by omega
      have c0 := hV.cellAt 0 ep ze
      have c1 := hA.cell (i := i * 8) (by rw [initL_len]; omega)
      have f1 := hA.frozen (i * 8)
      have hA2 := hA.set (i * 8) ep
      rw [initL_set ep hlt] at hA2
      have hO := only_cell wr p7 (i * 8) (.int .i64 ep)
      have hV2 := hV.only hO (by omega)
      have hB2 := below_only hB hO (fun j (e : j = p7) => by omega) hB.size
      clear hA hV hB hO
      go_wp2_with fail
      refine ⟨⟨i + 1, by omega, by first | rfl | push_cast; rfl, hA2, hV2, hB2⟩, ?_⟩
      show 5 - ((i : Int) + 1).toNat < 5 - (i : Int).toNat
      go_light
      omega
    · have e1 : ¬ (i : Int) < 5 := by omega
      have hi5 : i = 5 := by omega
      rw [hi5] at hA
      clear hlt hi hi5
      go_wp2_with fail
      have hOn : On w p5 p7 (.slice none 0 0) (.slice none 0 0) (.slice none 0 0) (.slice none 0 0) (.slice none 0 0) [] v (s0 v ep) [] 0 0 0 0 wr :=
        ⟨by rw [← HZ.out]; exact hV, hA, World.ownsRow_nil _ _ _ _, fun _ h => absurd h (Nat.not_lt_zero _), fun _ _ _ h => absurd h (Nat.not_lt_zero _), World.ownsRow_nil _ _ _ _, World.ownsRow_nil _ _ _ _, ⟨[], World.ownsRow_nil _ _ _ _⟩, World.ownsRow_nil _ _ _ _, fun _ h => by simp [Value.ownBlock] at h, hB, hp7⟩
      have hInv := s0_inv v ep
      clear hA hV hB
      have hs0 : (s0 v ep).n = 0 := rfl
      generalize s0 v ep = s00 at hOn hInv hs0
      go_loopw [9, 10, 11, 12, 13, 56] (fun s9 s10 s11 s12 s13 s56 wr => ∃ (i : Nat) (s : Ps) (ch : List (List Int)) (gs : List Nat), i ≤ n2 ∧ s.n ≤ i ∧ ch.length ≤ i ∧ Inv v ep s ch ∧ s56 = .int .i64 (i : Int) ∧ On w p5 p7 s9 s10 s11 s12 s13 gs v s ch s.n s.n s.n s.n wr) (fun _ _ _ _ _ s56 _ => n2 - (intOf s56).toNat)
      case atStart => exact ⟨0, s00, [], [], Nat.zero_le _, by omega, Nat.zero_le _, hInv, rfl, by rw [hs0]; exact hOn⟩
      case round =>
        clear hOn hInv hs0
        obtain ⟨i, s, ch, gs, hi, hsn, hcl, hInv, rfl, hOn⟩ := hrel
        by_cases hlt : i < n2
        · obtain ⟨ab, off, rfl, habl, _⟩ := hS.at_ (by omega)
          obtain ⟨r0, h0⟩ := (hS.below hOn.under (Nat.le_refl _)).got rfl hlt
          obtain ⟨hcl2, hcw⟩ := hS.one hlt
          have e1 : (i : Int) < (n2 : Int) := by omega
          generalize oneZ 6 cs i = ks at r0 hcl2 hcw
          have ki : Is 6 ks := hcl2
          obtain ⟨k0, k1, k2, k3, k4, k5, hks⟩ := lit6 ki
          have wcc : wf64 [k3, k4, k5] := fun z hz => hcw z (by rw [hks]; simp only [List.mem_cons, List.not_mem_nil, or_false] at hz ⊢; rcases hz with rfl | rfl | rfl <;> simp)
          have HK := hide hks
          clear hks
          have hkb : -5 < k0.tmod 5 ∧ k0.tmod 5 < 5 := ⟨by have := Int.tmod_lt_of_pos (-k0) (b := 5) (by decide); rw [Int.neg_tmod] at this; omega, Int.tmod_lt_of_pos _ (by decide)⟩
          obtain ⟨kd, hkd, hk3, hk4⟩ : ∃ kd : Int, (k0.tmod 5 + 5) % 5 = kd ∧ 0 ≤ kd ∧ kd < 5 := ⟨_, rfl, Int.emod_nonneg _ (by decide), Int.emod_lt_of_pos _ (by decide)⟩
          obtain ⟨hkb1, hkb2⟩ := hkb
          have HKD := hide hkd
          clear hkd
          have BC := hOn.under
          obtain ⟨rm, hA, hO, BA⟩ := lay (t := 41) BC hcl2 BC.size
          have hOA := hOn.next (by have := lay (t := 41) (Below.refl wr.heap.size wr) hcl2 (Nat.le_refl _); exact this.2.2.2)
          go_upto_region 20 with fail
          clear hOn BC hO BA
          generalize wr.heap.size = pa at *
          generalize (wr.alloc (.cells (iA (zeros 6)) 41)).setCells pa 0 (iV ks) = wa at *
          clear rm r0 h0
          have c0 := hA.cellAt 0 k0 (by rw [HK.out]; rfl)
          go_upto_region 21 with fail
          rw [HKD.out]
          clear hkb1 hkb2 HKD c0
          by_cases hk0 : kd = 0
          · subst hk0
            as_aux_lemma =>
            have hKC : [k3, k4, k5] = (ks.drop 3).take 3 := by rw [HK.out]; rfl
            have HN := fun w => next_any v hx (by omega) [k3, k4, k5] rfl w
            obtain ⟨q1, h1⟩ := hOA.vw.whole (show (zV v).length = 7 from zV_length hvl)
            obtain ⟨q2, h2⟩ := hA.got 3 3 (by omega)
            rw [← hKC] at q2
            rw [← HZ.out] at HN q1
            generalize hcc : [k3, k4, k5] = cc at HN q2 wcc
            have ccl : cc.length = 3 := by rw [← hcc]; rfl
            have nl : (resVw (nextL v cc)).length = 7 := resVw_len fun u hu => (nextV_ok hx hu).1.len
            generalize nextL v cc = nv at HN nl
            have HCC := hide hcc
            clear hcc hKC
            go_wp2_with fail
            (with_reducible refine (HN wa).mono ?_)
            rintro e w6 ⟨rfl, hb⟩
            have hO6 := hOA.next hb
            have hA6 := hA.below hb hA.lt
            clear hOA hA hb HN q1 h1 q2 h2
            generalize hrv : resVw nv = rv at nl
            have HRV := hide hrv
            clear hrv
            have rv7 : Is 7 rv := nl
            have hw6 := hO6.under.size
            obtain ⟨rm, hJ, hO, BJ⟩ := lay (t := 27) (Below.refl w6.heap.size w6) nl (Nat.le_refl _)
            have hO7 := hO6.next BJ
            have hA7 := hA6.below BJ hA6.lt
            go_upto_region 23 with fail
            clear hO6 hA6 hO hJ BJ
            generalize (w6.alloc (.cells (iA (zeros 7)) 27)).setCells w6.heap.size 0 (iV rv) = w7 at *
            clear rm rv7 nl HRV
            cases nv with
            | none =>
              have he5 : resE none = 5 := rfl
              rw [he5]
              go_wp2_with fail
              go_roundw
              exact ⟨i + 1, s, ch, gs, by omega, by omega, by omega, hInv, by first | rfl | push_cast; rfl, hO7⟩
              show n2 - ((i : Int) + 1).toNat < n2 - (i : Int).toNat
              go_light
              omega
            | some nu =>
              have he0 : resE (some nu) = 0 := rfl
              rw [he0]
              clear he0
              obtain ⟨A9, k9, rfl, _, _⟩ := own_len hO7.g1
              obtain ⟨W, hW, hW8⟩ : ∃ W : Nat, bits .and .i64 k2 255 = (W : Int) ∧ W < 256 := ⟨(k2 % 256).toNat, by rw [show bits .and .i64 k2 255 = k2 % 256 from i64_and_mask k2 8 (by omega)]; omega, by omega⟩
              obtain ⟨q, hq, hq', hq5⟩ : ∃ q : Nat, (W : Int).tmod 5 = (q : Int) ∧ (W : Int) % 5 = (q : Int) ∧ q < 5 := ⟨W % 5, by rw [Int.tmod_eq_emod_of_nonneg (by omega)]; omega, by omega, by omega⟩
              have sn0 : (0 : Int) ≤ (s.n : Int) := by omega
              have sn1 : (s.n : Int) ≤ 250 := by omega
              have c2 := hA7.cellAt 2 k2 (by rw [HK.out]; rfl)
              obtain ⟨q1, h1⟩ := hO7.vw.whole (show (zV v).length = 7 from zV_length hvl)
              obtain ⟨q2, h2⟩ := hA7.got 3 3 (by omega)
              rw [show (ks.drop 3).take 3 = cc by rw [← HCC.out, HK.out]; rfl] at q2
              have HVN := fun w => vnew_any v hvl ((s.n + 1 : Nat) : Int) (q : Int) cc ccl w
              rw [show (((s.n + 1 : Nat) : Int)) = (s.n : Int) + 1 by push_cast; rfl] at HVN
              rw [← HZ.out] at HVN q1
              go_upto_region 24 with fail
              go_wp2_with fail
              (with_reducible refine (HVN w7).mono ?_)
              rintro e w8 ⟨g, rfl, hg, hI, hb⟩
              have hgn : ∀ j g', j < s.n → gs[j]? = some g' → g' ≠ g := fun j g' hj he => by
                obtain ⟨g2, x1, _, x3⟩ := hO7.g2 j hj
                obtain rfl : g2 = g' := Option.some.inj (x1.symm.trans he)
                have := x3.lt
                omega
              have hg0 : w.heap.size ≤ g := Nat.le_trans hO7.under.size hg
              have hO8 := hO7.next hb
              have hn9 : s.n ≤ 900 := by omega
              obtain ⟨v9', w9, ha9, hp9, ho9, gr9, -⟩ := ap_new (s := 37) (z := .pointer none) (size := 1) (bytes := 8) Try.underlying37 (by kernel_rfl) rfl (by decide) (by decide) hO8.g1 (us := [.pointer (some ⟨g, 0, none⟩)]) ⟨rfl, fun u hu => by simp at hu; subst hu; rfl⟩ hn9 hO8.under.size
              have hO9 := (hO8.next ((Below.refl w8.heap.size w8).alloc (Nat.le_refl _) (.cells #[.pointer (some ⟨g, 0, none⟩)] 45))).addVote (Nat.le_refl _) (Nat.le_refl _) hgn hg0 (hI.alloc _) ho9 gr9
              clear hO7 hA7 hO8 hb hg hgn q1 h1 q2 h2 c2 HVN hI gr9 ho9
              go_upto_region 25 with fail
              clear ha9 hp9
              obtain ⟨v10', w10, ha10, hp10, ho10, gr10, -⟩ := ap_new (s := 38) (z := .agg zvows.toArray) (size := 30) (bytes := 240) Try.underlying38 (by kernel_rfl) rfl (by decide) (by decide) hO9.o1 (us := zvows) zvows_is hn9 hO9.under.size
              have hO10 := (hO9.next ((Below.refl w9.heap.size w9).alloc (Nat.le_refl _) (.cells zvows.toArray 49))).addVows (fun _ _ => if_pos rfl) ho10 gr10
              clear hO9 ho10 gr10
              obtain ⟨v11', w11, ha11, hp11, ho11, gr11, -⟩ := ap_new (s := 39) (z := .agg ztoks.toArray) (size := 5) (bytes := 5) Try.underlying39 (by kernel_rfl) rfl (by decide) (by decide) hO10.o2 (us := ztoks) ztoks_is hn9 hO10.under.size
              have hO11 := (hO10.next ((Below.refl w10.heap.size w10).alloc (Nat.le_refl _) (.cells ztoks.toArray 50))).addToks (fun _ _ => if_pos rfl) ho11 gr11
              clear hO10 ho11 gr11
              obtain ⟨xs3, hx3⟩ := hO11.o3
              obtain ⟨v12', w12, ha12, hp12, ho12, gr12, nb12⟩ := ap_new (s := 22) (z := .agg (iA (zeros 3))) (size := 3) (bytes := 24) Try.underlying22 (by kernel_rfl) rfl (by decide) (by decide) hx3 (us := iV (zeros 3)) ⟨rfl, iV_one _⟩ hn9 hO11.under.size
              change HasAp _ (w11.alloc (.cells (iA (zeros 3)) 33)) _ _ at ha12
              change apP _ (w11.alloc (.cells (iA (zeros 3)) 33)) _ _ = _ at hp12
              have hO12 := (hO11.next ((Below.refl w11.heap.size w11).alloc (Nat.le_refl _) (.cells (iA (zeros 3)) 33))).addPuts (hx3.alloc _) ho12 gr12 nb12
              clear hO11 ho12 gr12 nb12 hx3
              have i3z : Is 3 (zeros 3) := rfl
              go_wp2_with fail
              go_roundw
              exact ⟨i + 1, newS s (newV v ((s.n : Int) + 1) (q : Int) cc), ch, gs ++ [g], by omega, Nat.succ_le_succ hsn, by omega, by have := hInv.new (w := (q : Int)) ⟨by omega, by omega⟩ ccl wcc hx; rwa [show (((s.n + 1 : Nat) : Int)) = (s.n : Int) + 1 by push_cast; rfl] at this, by first | rfl | push_cast; rfl, hO12⟩
              show n2 - ((i : Int) + 1).toNat < n2 - (i : Int).toNat
              go_light
              omega
          · obtain ⟨A9, k9, h9, _, _⟩ := own_len hOA.g1
            by_cases hn0 : s.n = 0
            · subst h9
              have d3 : (s.n : Int) = 0 := by omega
              go_wp2_with fail
              refine ⟨⟨i + 1, s, ch, gs, by omega, by omega, by omega, hInv, by first | rfl | push_cast; rfl, hOA⟩, ?_⟩
              show n2 - ((i : Int) + 1).toNat < n2 - (i : Int).toNat
              go_light
              omega
            · clear h9
              obtain ⟨g9, k9, rest9, rfl, _, hk9, hb9⟩ := own_open hOA.g1 (by omega)
              obtain ⟨V1, j, hV1, hj1, hj2, hjn⟩ := place_N k1 (N := s.n) (by omega)
              obtain ⟨W, hW, hW8⟩ : ∃ W : Nat, bits .and .i64 k2 255 = (W : Int) ∧ W < 256 := ⟨(k2 % 256).toNat, by rw [show bits .and .i64 k2 255 = k2 % 256 from i64_and_mask k2 8 (by omega)]; omega, by omega⟩
              obtain ⟨q, hq, hq', hq5⟩ : ∃ q : Nat, (W : Int).tmod 5 = (q : Int) ∧ (W : Int) % 5 = (q : Int) ∧ q < 5 := ⟨W % 5, by rw [Int.tmod_eq_emod_of_nonneg (by omega)]; omega, by omega, by omega⟩
              have sn0 : (0 : Int) < (s.n : Int) := by omega
              have sn1 : (s.n : Int) ≤ 250 := by omega
              have d3 : ((s.n : Int) == 0) = false := by rw [beq_eq_false_iff_ne]; omega
              have W0 : (0 : Int) ≤ (W : Int) := by omega
              have V0 : (0 : Int) ≤ (V1 : Int) := by omega
              go_upto_region 27 with fail
              have c1 : ∀ k, (wa.drewN k).cell? ⟨pa, 1, none⟩ = some (.int .i64 k1) := fun k => hA.cellAt 1 k1 (by rw [HK.out]; rfl)
              have c2 : ∀ k, (wa.drewN k).cell? ⟨pa, 2, none⟩ = some (.int .i64 k2) := fun k => hA.cellAt 2 k2 (by rw [HK.out]; rfl)
              go_quiet (fail)
              change Exit.then _ _ _ _ (wa.drewN nq)
              clear c1 c2 hV1 hW hj1 hj2 hq hq' d3 W0 V0 sn0 hb9
              have hOB := hOA.drewN nq
              clear hOA hA
              generalize wa.drewN nq = wb at hOB ⊢
              obtain ⟨hok, hxv, hxr, hxw, hxc⟩ := hInv.vts j hjn
              obtain ⟨gj, hgj, hgj0, hxj⟩ := hOB.g2 j hjn
              have wx : wf64 [(s.vt j).r, (s.vt j).w] := wf_small (by rw [hxr]; omega) (by omega)
              have HX := hide (And.intro hxv (And.intro hxr (And.intro hxw hxc)))
              clear hxv hxr hxw hxc
              obtain ⟨g9', k9', rest9', e9, _, _, hb9⟩ := own_open hOB.g1 (by omega)
              injection e9 with e9 _ ec
              injection e9 with e9
              injection e9 with e9 _ _
              subst e9
              subst ec
              have cj : wb.cell? ⟨g9, j, none⟩ = some (.pointer (some ⟨gj, 0, none⟩)) := hb9.cellAt (by
                rw [List.getElem?_append_left (by have := hOB.g1.1; simp at this; simp; omega), List.getElem?_map, hgj]; rfl)
              have jn : (j : Int) < (s.n : Int) := by omega
              have j0 : (0 : Int) ≤ (j : Int) := by omega
              go_upto_region 29 with fail
              clear cj hb9 rest9'
              have q0 : (0 : Int) ≤ (q : Int) := by omega
              have q5 : (q : Int) < 5 := by omega
              have he0 : (zV v)[0]? = some ep := by rw [HE.out]; rfl
              by_cases hd1 : kd = 1
              · subst hd1
                as_aux_lemma =>
                have HB := fun W h => vBallot_any (s.vt j) hok gj W h
                have HA := fun W => ask_any (s.acc q) ep (s.vt j).r (s.vt j).w W
                have HM := fun W => member_any v hvl (q : Int) W
                rw [inV_nat hq5] at HM
                have HF : ∀ W, Below wb.heap.size wb W → (rowAt W p7 (q * 8) 8 = iA (accL (s.acc q)) ∧ HasRow W p7 (q * 8) 8) ∧ W.cell? ⟨p5, 0, none⟩ = some (.int .i64 ep) ∧ IBlk W gj 70 (vtL (s.vt j)) := fun W h => by
                  have hW := hOB.next h
                  have hr := hW.ac.got (q * 8) 8 (by rw [fl_len (accF_len s)]; omega)
                  rw [fl_get (accF_len s) hq5] at hr
                  exact ⟨hr, hW.vw.cellAt 0 ep he0, hxj.below h hxj.lt⟩
                have HINV := fun hm hh => hInv.ask (i := j) (q := q) hjn hq5 hm hh
                obtain ⟨zA, hzA⟩ : ∃ zA, zA = accL (askA (s.acc q) ep (s.vt j).r (s.vt j).w) := ⟨_, rfl⟩
                obtain ⟨hb, hhb⟩ : ∃ hb, hb = hearsB (s.acc q) ep (s.vt j).r (s.vt j).w := ⟨_, rfl⟩
                have i8 : Is 8 zA := by rw [hzA]; rfl
                rw [← hzA, ← hhb] at HA
                rw [← hhb] at HINV
                have HZA := hide (And.intro hzA hhb)
                clear hzA hhb
                go_upto_region 33 with fail
                go_cut [22, 23] (fun s22 s23 wx => ∃ pz : Nat, s22 = .pointer (some ⟨pz, 0, none⟩) ∧ s23 = .bool hb ∧ wb.heap.size ≤ pz ∧ IBlk wx pz 35 zA ∧ Below wb.heap.size wb wx)
                case first =>
                  as_aux_lemma =>
                  refine wp_region_noPanic ?_
                  refine wp_region_held_drew (S := (fun W => Below wb.heap.size wb W)) (by kernel_rfl) ?_ (fun hHeld => ?_)
                  · exact Below.drewR (Below.refl _ _)
                  refine wpAnyH_take (i := 0) (oi := _) (v := ?_) (by simp only [List.getElem?_toArray, List.getElem?_cons_zero]; rfl) (by kernel_rfl) (by kernel_rfl) (by kernel_rfl) (by exact fun _ _ _ h => h) (Or.inl ⟨by rfl, ?_⟩) (by assumption) ?_
                  rotate_left
                  · intro w hSw
                    try dsimp only at hSw
                    obtain ⟨⟨q1, h1⟩, c5, -⟩ := HF _ hSw
                    clear hSw
                    go_simp
                    try with_reducible rfl
                  try simp only [Act.put, List.setIfInBounds_toArray, List.set_cons_zero, List.set_cons_succ]
                  refine wpAnyH_take (i := 1) (oi := _) (v := ?_) (by simp only [List.getElem?_toArray, List.getElem?_cons_succ, List.getElem?_cons_zero]; rfl) (by kernel_rfl) (by kernel_rfl) (by kernel_rfl) (by exact fun _ _ _ h => h) (Or.inl ⟨by rfl, ?_⟩) (by assumption) ?_
                  rotate_left
                  · intro w hSw
                    try dsimp only at hSw
                    obtain ⟨⟨q1, h1⟩, c5, -⟩ := HF _ hSw
                    clear hSw
                    go_simp
                    try with_reducible rfl
                  try simp only [Act.put, List.setIfInBounds_toArray, List.set_cons_zero, List.set_cons_succ]
                  refine wpAnyH_take (i := 2) (oi := _) (v := ?_) (by simp only [List.getElem?_toArray, List.getElem?_cons_succ, List.getElem?_cons_zero]; rfl) (by kernel_rfl) (by kernel_rfl) (by kernel_rfl) (by exact fun _ _ _ h => h) (Or.inl ⟨by rfl, ?_⟩) (by assumption) ?_
                  rotate_left
                  · intro w hSw
                    try dsimp only at hSw
                    obtain ⟨⟨q1, h1⟩, c5, -⟩ := HF _ hSw
                    clear hSw
                    go_simp
                    try with_reducible rfl
                  try simp only [Act.put, List.setIfInBounds_toArray, List.set_cons_zero, List.set_cons_succ]
                  refine wpAnyH_take (i := 3) (oi := _) (v := ?_) (by simp only [List.getElem?_toArray, List.getElem?_cons_succ, List.getElem?_cons_zero]; rfl) (by kernel_rfl) (by kernel_rfl) (by kernel_rfl) (by exact fun _ _ _ h => h) (Or.inl ⟨by rfl, ?_⟩) (by assumption) ?_
                  rotate_left
                  · intro w hSw
                    try dsimp only at hSw
                    obtain ⟨⟨q1, h1⟩, c5, -⟩ := HF _ hSw
                    clear hSw
                    go_simp
                    try with_reducible rfl
                  try simp only [Act.put, List.setIfInBounds_toArray, List.set_cons_zero, List.set_cons_succ]
                  refine wpAnyH_take (i := 4) (oi := _) (v := ?_) (by simp only [List.getElem?_toArray, List.getElem?_cons_succ, List.getElem?_cons_zero]; rfl) (by kernel_rfl) (by kernel_rfl) (by kernel_rfl) (by exact fun _ _ _ h => h) (Or.inl ⟨by rfl, ?_⟩) (by assumption) ?_
                  rotate_left
                  · intro w hSw
                    try dsimp only at hSw
                    obtain ⟨⟨q1, h1⟩, c5, -⟩ := HF _ hSw
                    clear hSw
                    go_simp
                    try with_reducible rfl
                  try simp only [Act.put, List.setIfInBounds_toArray, List.set_cons_zero, List.set_cons_succ]
                  refine wpAnyH_take (i := 5) (oi := _) (v := ?_) (by simp only [List.getElem?_toArray, List.getElem?_cons_succ, List.getElem?_cons_zero]; rfl) (by kernel_rfl) (by kernel_rfl) (by kernel_rfl) (by exact fun _ _ _ h => h) (Or.inl ⟨by rfl, ?_⟩) (by assumption) ?_
                  rotate_left
                  · intro w hSw
                    try dsimp only at hSw
                    obtain ⟨⟨q1, h1⟩, c5, -⟩ := HF _ hSw
                    clear hSw
                    go_simp
                    try with_reducible rfl
                  try simp only [Act.put, List.setIfInBounds_toArray, List.set_cons_zero, List.set_cons_succ]
                  refine wpAnyH_ready (rs := [6, 11]) (by kernel_rfl) (by simp) ?_
                  refine AllReadyH.cons (o := _) (by simp only [List.getElem?_toArray, List.getElem?_cons_succ, List.getElem?_cons_zero]; rfl) (fun K hK => ?_) ?_
                  · go_simp
                    try dsimp only at hHeld
                    go_at_call 11
                    (with_reducible refine (HB _ (HF _ hHeld).2.2).mono ?_)
                    rintro x5 w5 ⟨rfl, hx5⟩
                    have hh5 := hHeld.trans (hx5.mono hHeld.size)
                    try (have ⟨hN', rm'⟩ := al_next hN hx5; clear hN rm; have hN := hN'; have rm := rm'; clear hN' rm')
                    try go_wp2_with fail
                    refine hK.out _ _ ?_ (fun hHeld => ?_)
                    · exact hh5
                    clear hK K
                    try simp only [Act.put, List.setIfInBounds_toArray, List.set_cons_zero, List.set_cons_succ]
                    refine wpAnyH_ready (rs := [7, 11]) (by kernel_rfl) (by simp) ?_
                    refine AllReadyH.cons (o := _) (by simp only [List.getElem?_toArray, List.getElem?_cons_succ, List.getElem?_cons_zero]; rfl) (fun K hK => ?_) ?_
                    · go_simp
                      try dsimp only at hHeld
                      go_at_call 10
                      (with_reducible refine (HA _).mono ?_)
                      rintro x5 w5 ⟨rfl, hx5⟩
                      have hh5 := hHeld.trans (hx5.mono hHeld.size)
                      try (have ⟨hN', rm'⟩ := al_next hN hx5; clear hN rm; have hN := hN'; have rm := rm'; clear hN' rm')
                      try go_wp2_with fail
                      refine hK.out _ _ ?_ (fun hHeld => ?_)
                      · exact hh5
                      clear hK K
                      try simp only [Act.put, List.setIfInBounds_toArray, List.set_cons_zero, List.set_cons_succ]
                      refine wpAnyH_take (i := 8) (oi := _) (v := ?_) (by simp only [List.getElem?_toArray, List.getElem?_cons_succ, List.getElem?_cons_zero]; rfl) (by kernel_rfl) (by kernel_rfl) (by kernel_rfl) (by exact fun _ _ _ h => h) (Or.inl ⟨by rfl, ?_⟩) (by assumption) ?_
                      rotate_left
                      · intro w hSw
                        try dsimp only at hSw
                        obtain ⟨⟨q1, h1⟩, c5, -⟩ := HF _ hSw
                        clear hSw
                        go_simp
                        try with_reducible rfl
                      try simp only [Act.put, List.setIfInBounds_toArray, List.set_cons_zero, List.set_cons_succ]
                      refine wpAnyH_take (i := 9) (oi := _) (v := ?_) (by simp only [List.getElem?_toArray, List.getElem?_cons_succ, List.getElem?_cons_zero]; rfl) (by kernel_rfl) (by kernel_rfl) (by kernel_rfl) (by exact fun _ _ _ h => h) (Or.inl ⟨by rfl, ?_⟩) (by assumption) ?_
                      rotate_left
                      · intro w hSw
                        try dsimp only at hSw
                        obtain ⟨⟨q1, h1⟩, c5, -⟩ := HF _ hSw
                        clear hSw
                        go_simp
                        try with_reducible rfl
                      try simp only [Act.put, List.setIfInBounds_toArray, List.set_cons_zero, List.set_cons_succ]
                      refine wpAnyH_take (i := 10) (oi := _) (v := ?_) (by simp only [List.getElem?_toArray, List.getElem?_cons_succ, List.getElem?_cons_zero]; rfl) (by kernel_rfl) (by kernel_rfl) (by kernel_rfl) (by exact fun _ _ _ h => h) (Or.inl ⟨by rfl, ?_⟩) (by assumption) ?_
                      rotate_left
                      · intro w hSw
                        try dsimp only at hSw
                        obtain ⟨⟨q1, h1⟩, c5, -⟩ := HF _ hSw
                        clear hSw
                        go_simp
                        try with_reducible rfl
                      try simp only [Act.put, List.setIfInBounds_toArray, List.set_cons_zero, List.set_cons_succ]
                      refine wpAnyH_ready (rs := [11]) (by kernel_rfl) (by simp) ?_
                      refine AllReadyH.cons (o := _) (by simp only [List.getElem?_toArray, List.getElem?_cons_succ, List.getElem?_cons_zero]; rfl) (fun K hK => ?_) AllReadyH.nil
                      go_simp
                      try dsimp only at hHeld
                      obtain ⟨hN, hNg, hNb, rm⟩ := al_new hHeld
                      try change IBlk _ wb.heap.size _ _ at hN
                      try change Room _ wb.heap.size 0 8 at rm
                      try change wb.heap.size ≤ wb.heap.size at hNg
                      try go_wp2_with fail
                      refine hK.out _ _ ?_ (fun hHeld => ?_)
                      · exact hNb
                      clear hK K
                      try simp only [Act.put, List.setIfInBounds_toArray, List.set_cons_zero, List.set_cons_succ]
                      refine wpAnyH_ready (rs := [12]) (by kernel_rfl) (by simp) ?_
                      refine AllReadyH.cons (o := _) (by simp only [List.getElem?_toArray, List.getElem?_cons_succ, List.getElem?_cons_zero]; rfl) (fun K hK => ?_) AllReadyH.nil
                      go_simp
                      try dsimp only at hHeld
                      obtain ⟨hZ, hS⟩ := al_fill hHeld hN hNg i8
                      try go_wp2_with fail
                      refine hK.out _ _ ?_ (fun hHeld => ?_)
                      · exact hS
                      clear hK K
                      try simp only [Act.put, List.setIfInBounds_toArray, List.set_cons_zero, List.set_cons_succ]
                      refine wpAnyH_take (i := 13) (oi := _) (v := ?_) (by simp only [List.getElem?_toArray, List.getElem?_cons_succ, List.getElem?_cons_zero]; rfl) (by kernel_rfl) (by kernel_rfl) (by kernel_rfl) (by exact fun _ _ _ h => h) (Or.inl ⟨by rfl, ?_⟩) (by assumption) ?_
                      rotate_left
                      · intro w hSw
                        try dsimp only at hSw
                        obtain ⟨⟨q1, h1⟩, c5, -⟩ := HF _ hSw
                        clear hSw
                        go_simp
                        try with_reducible rfl
                      try simp only [Act.put, List.setIfInBounds_toArray, List.set_cons_zero, List.set_cons_succ]
                      refine wpAnyH_done (by kernel_rfl) ?_ _
                      refine NoPanic.normal ?_
                      try dsimp only at hHeld
                      go_wp2_with fail
                      go_meet
                      exact ⟨_, rfl, rfl, hNg, hZ, hHeld⟩
                    refine AllReadyH.cons (o := _) (by simp only [List.getElem?_toArray, List.getElem?_cons_succ, List.getElem?_cons_zero]; rfl) (fun K hK => ?_) ?_
                    · go_simp
                      try dsimp only at hHeld
                      obtain ⟨hN, hNg, hNb, rm⟩ := al_new hHeld
                      try change IBlk _ wb.heap.size _ _ at hN
                      try change Room _ wb.heap.size 0 8 at rm
                      try change wb.heap.size ≤ wb.heap.size at hNg
                      try go_wp2_with fail
                      refine hK.out _ _ ?_ (fun hHeld => ?_)
                      · exact hNb
                      clear hK K
                      try simp only [Act.put, List.setIfInBounds_toArray, List.set_cons_zero, List.set_cons_succ]
                      refine wpAnyH_ready (rs := [7]) (by kernel_rfl) (by simp) ?_
                      refine AllReadyH.cons (o := _) (by simp only [List.getElem?_toArray, List.getElem?_cons_succ, List.getElem?_cons_zero]; rfl) (fun K hK => ?_) AllReadyH.nil
                      go_simp
                      try dsimp only at hHeld
                      go_at_call 10
                      (with_reducible refine (HA _).mono ?_)
                      rintro x5 w5 ⟨rfl, hx5⟩
                      have hh5 := hHeld.trans (hx5.mono hHeld.size)
                      try (have ⟨hN', rm'⟩ := al_next hN hx5; clear hN rm; have hN := hN'; have rm := rm'; clear hN' rm')
                      try go_wp2_with fail
                      refine hK.out _ _ ?_ (fun hHeld => ?_)
                      · exact hh5
                      clear hK K
                      try simp only [Act.put, List.setIfInBounds_toArray, List.set_cons_zero, List.set_cons_succ]
                      refine wpAnyH_take (i := 8) (oi := _) (v := ?_) (by simp only [List.getElem?_toArray, List.getElem?_cons_succ, List.getElem?_cons_zero]; rfl) (by kernel_rfl) (by kernel_rfl) (by kernel_rfl) (by exact fun _ _ _ h => h) (Or.inl ⟨by rfl, ?_⟩) (by assumption) ?_
                      rotate_left
                      · intro w hSw
                        try dsimp only at hSw
                        obtain ⟨⟨q1, h1⟩, c5, -⟩ := HF _ hSw
                        clear hSw
                        go_simp
                        try with_reducible rfl
                      try simp only [Act.put, List.setIfInBounds_toArray, List.set_cons_zero, List.set_cons_succ]
                      refine wpAnyH_take (i := 9) (oi := _) (v := ?_) (by simp only [List.getElem?_toArray, List.getElem?_cons_succ, List.getElem?_cons_zero]; rfl) (by kernel_rfl) (by kernel_rfl) (by kernel_rfl) (by exact fun _ _ _ h => h) (Or.inl ⟨by rfl, ?_⟩) (by assumption) ?_
                      rotate_left
                      · intro w hSw
                        try dsimp only at hSw
                        obtain ⟨⟨q1, h1⟩, c5, -⟩ := HF _ hSw
                        clear hSw
                        go_simp
                        try with_reducible rfl
                      try simp only [Act.put, List.setIfInBounds_toArray, List.set_cons_zero, List.set_cons_succ]
                      refine wpAnyH_take (i := 10) (oi := _) (v := ?_) (by simp only [List.getElem?_toArray, List.getElem?_cons_succ, List.getElem?_cons_zero]; rfl) (by kernel_rfl) (by kernel_rfl) (by kernel_rfl) (by exact fun _ _ _ h => h) (Or.inl ⟨by rfl, ?_⟩) (by assumption) ?_
                      rotate_left
                      · intro w hSw
                        try dsimp only at hSw
                        obtain ⟨⟨q1, h1⟩, c5, -⟩ := HF _ hSw
                        clear hSw
                        go_simp
                        try with_reducible rfl
                      try simp only [Act.put, List.setIfInBounds_toArray, List.set_cons_zero, List.set_cons_succ]
                      refine wpAnyH_ready (rs := [12]) (by kernel_rfl) (by simp) ?_
                      refine AllReadyH.cons (o := _) (by simp only [List.getElem?_toArray, List.getElem?_cons_succ, List.getElem?_cons_zero]; rfl) (fun K hK => ?_) AllReadyH.nil
                      go_simp
                      try dsimp only at hHeld
                      obtain ⟨hZ, hS⟩ := al_fill hHeld hN hNg i8
                      try go_wp2_with fail
                      refine hK.out _ _ ?_ (fun hHeld => ?_)
                      · exact hS
                      clear hK K
                      try simp only [Act.put, List.setIfInBounds_toArray, List.set_cons_zero, List.set_cons_succ]
                      refine wpAnyH_take (i := 13) (oi := _) (v := ?_) (by simp only [List.getElem?_toArray, List.getElem?_cons_succ, List.getElem?_cons_zero]; rfl) (by kernel_rfl) (by kernel_rfl) (by kernel_rfl) (by exact fun _ _ _ h => h) (Or.inl ⟨by rfl, ?_⟩) (by assumption) ?_
                      rotate_left
                      · intro w hSw
                        try dsimp only at hSw
                        obtain ⟨⟨q1, h1⟩, c5, -⟩ := HF _ hSw
                        clear hSw
                        go_simp
                        try with_reducible rfl
                      try simp only [Act.put, List.setIfInBounds_toArray, List.set_cons_zero, List.set_cons_succ]
                      refine wpAnyH_done (by kernel_rfl) ?_ _
                      refine NoPanic.normal ?_
                      try dsimp only at hHeld
                      go_wp2_with fail
                      go_meet
                      exact ⟨_, rfl, rfl, hNg, hZ, hHeld⟩
                    exact AllReadyH.nil
                  refine AllReadyH.cons (o := _) (by simp only [List.getElem?_toArray, List.getElem?_cons_succ, List.getElem?_cons_zero]; rfl) (fun K hK => ?_) ?_
                  · go_simp
                    try dsimp only at hHeld
                    obtain ⟨hN, hNg, hNb, rm⟩ := al_new hHeld
                    try change IBlk _ wb.heap.size _ _ at hN
                    try change Room _ wb.heap.size 0 8 at rm
                    try change wb.heap.size ≤ wb.heap.size at hNg
                    try go_wp2_with fail
                    refine hK.out _ _ ?_ (fun hHeld => ?_)
                    · exact hNb
                    clear hK K
                    try simp only [Act.put, List.setIfInBounds_toArray, List.set_cons_zero, List.set_cons_succ]
                    refine wpAnyH_ready (rs := [6]) (by kernel_rfl) (by simp) ?_
                    refine AllReadyH.cons (o := _) (by simp only [List.getElem?_toArray, List.getElem?_cons_succ, List.getElem?_cons_zero]; rfl) (fun K hK => ?_) AllReadyH.nil
                    go_simp
                    try dsimp only at hHeld
                    go_at_call 11
                    (with_reducible refine (HB _ (HF _ hHeld).2.2).mono ?_)
                    rintro x5 w5 ⟨rfl, hx5⟩
                    have hh5 := hHeld.trans (hx5.mono hHeld.size)
                    try (have ⟨hN', rm'⟩ := al_next hN hx5; clear hN rm; have hN := hN'; have rm := rm'; clear hN' rm')
                    try go_wp2_with fail
                    refine hK.out _ _ ?_ (fun hHeld => ?_)
                    · exact hh5
                    clear hK K
                    try simp only [Act.put, List.setIfInBounds_toArray, List.set_cons_zero, List.set_cons_succ]
                    refine wpAnyH_ready (rs := [7]) (by kernel_rfl) (by simp) ?_
                    refine AllReadyH.cons (o := _) (by simp only [List.getElem?_toArray, List.getElem?_cons_succ, List.getElem?_cons_zero]; rfl) (fun K hK => ?_) AllReadyH.nil
                    go_simp
                    try dsimp only at hHeld
                    go_at_call 10
                    (with_reducible refine (HA _).mono ?_)
                    rintro x5 w5 ⟨rfl, hx5⟩
                    have hh5 := hHeld.trans (hx5.mono hHeld.size)
                    try (have ⟨hN', rm'⟩ := al_next hN hx5; clear hN rm; have hN := hN'; have rm := rm'; clear hN' rm')
                    try go_wp2_with fail
                    refine hK.out _ _ ?_ (fun hHeld => ?_)
                    · exact hh5
                    clear hK K
                    try simp only [Act.put, List.setIfInBounds_toArray, List.set_cons_zero, List.set_cons_succ]
                    refine wpAnyH_take (i := 8) (oi := _) (v := ?_) (by simp only [List.getElem?_toArray, List.getElem?_cons_succ, List.getElem?_cons_zero]; rfl) (by kernel_rfl) (by kernel_rfl) (by kernel_rfl) (by exact fun _ _ _ h => h) (Or.inl ⟨by rfl, ?_⟩) (by assumption) ?_
                    rotate_left
                    · intro w hSw
                      try dsimp only at hSw
                      obtain ⟨⟨q1, h1⟩, c5, -⟩ := HF _ hSw
                      clear hSw
                      go_simp
                      try with_reducible rfl
                    try simp only [Act.put, List.setIfInBounds_toArray, List.set_cons_zero, List.set_cons_succ]
                    refine wpAnyH_take (i := 9) (oi := _) (v := ?_) (by simp only [List.getElem?_toArray, List.getElem?_cons_succ, List.getElem?_cons_zero]; rfl) (by kernel_rfl) (by kernel_rfl) (by kernel_rfl) (by exact fun _ _ _ h => h) (Or.inl ⟨by rfl, ?_⟩) (by assumption) ?_
                    rotate_left
                    · intro w hSw
                      try dsimp only at hSw
                      obtain ⟨⟨q1, h1⟩, c5, -⟩ := HF _ hSw
                      clear hSw
                      go_simp
                      try with_reducible rfl
                    try simp only [Act.put, List.setIfInBounds_toArray, List.set_cons_zero, List.set_cons_succ]
                    refine wpAnyH_take (i := 10) (oi := _) (v := ?_) (by simp only [List.getElem?_toArray, List.getElem?_cons_succ, List.getElem?_cons_zero]; rfl) (by kernel_rfl) (by kernel_rfl) (by kernel_rfl) (by exact fun _ _ _ h => h) (Or.inl ⟨by rfl, ?_⟩) (by assumption) ?_
                    rotate_left
                    · intro w hSw
                      try dsimp only at hSw
                      obtain ⟨⟨q1, h1⟩, c5, -⟩ := HF _ hSw
                      clear hSw
                      go_simp
                      try with_reducible rfl
                    try simp only [Act.put, List.setIfInBounds_toArray, List.set_cons_zero, List.set_cons_succ]
                    refine wpAnyH_ready (rs := [12]) (by kernel_rfl) (by simp) ?_
                    refine AllReadyH.cons (o := _) (by simp only [List.getElem?_toArray, List.getElem?_cons_succ, List.getElem?_cons_zero]; rfl) (fun K hK => ?_) AllReadyH.nil
                    go_simp
                    try dsimp only at hHeld
                    obtain ⟨hZ, hS⟩ := al_fill hHeld hN hNg i8
                    try go_wp2_with fail
                    refine hK.out _ _ ?_ (fun hHeld => ?_)
                    · exact hS
                    clear hK K
                    try simp only [Act.put, List.setIfInBounds_toArray, List.set_cons_zero, List.set_cons_succ]
                    refine wpAnyH_take (i := 13) (oi := _) (v := ?_) (by simp only [List.getElem?_toArray, List.getElem?_cons_succ, List.getElem?_cons_zero]; rfl) (by kernel_rfl) (by kernel_rfl) (by kernel_rfl) (by exact fun _ _ _ h => h) (Or.inl ⟨by rfl, ?_⟩) (by assumption) ?_
                    rotate_left
                    · intro w hSw
                      try dsimp only at hSw
                      obtain ⟨⟨q1, h1⟩, c5, -⟩ := HF _ hSw
                      clear hSw
                      go_simp
                      try with_reducible rfl
                    try simp only [Act.put, List.setIfInBounds_toArray, List.set_cons_zero, List.set_cons_succ]
                    refine wpAnyH_done (by kernel_rfl) ?_ _
                    refine NoPanic.normal ?_
                    try dsimp only at hHeld
                    go_wp2_with fail
                    go_meet
                    exact ⟨_, rfl, rfl, hNg, hZ, hHeld⟩
                  exact AllReadyH.nil
                case rest =>
                clear HA HB HF
                obtain ⟨pz, rfl, rfl, hpz, hz, hbc⟩ := hcut
                have hOC := hOB.next hbc
                clear hbc hxj
                have hcV := hOC.vw.whole (show (zV v).length = 7 from zV_length hvl)
                rw [← HZ.out] at HM hcV
                obtain ⟨q1, h1⟩ := hcV
                generalize hbt : v.m.testBit q = bt at HM HINV
                clear hbt
                cases hb with
                | false =>
                  go_wp2_with fail
                  go_roundw
                  exact ⟨i + 1, s, ch, gs, by omega, by omega, by omega, hInv, by first | rfl | push_cast; rfl, hOC⟩
                  show n2 - ((i : Int) + 1).toNat < n2 - (i : Int).toNat
                  go_light
                  omega
                | true =>
                  go_wp2_with fail
                  (with_reducible refine (HM wc).mono ?_)
                  rintro e w6 ⟨rfl, hb6⟩
                  have hOD := hOC.next hb6
                  have hzD := hz.below hb6 hz.lt
                  clear hOC hz hb6 HM q1 h1
                  cases bt with
                  | false =>
                    go_wp2_with fail
                    go_roundw
                    exact ⟨i + 1, s, ch, gs, by omega, by omega, by omega, hInv, by first | rfl | push_cast; rfl, hOD⟩
                    show n2 - ((i : Int) + 1).toNat < n2 - (i : Int).toNat
                    go_light
                    omega
                  | true =>
                    have hI2 := HINV (by trivial) (by trivial)
                    clear HINV
                    obtain ⟨q1, h1⟩ := hzD.whole i8
                    have rm := hOD.ac.room (q * 8) 8 (by rw [fl_len (accF_len s)]; omega)
                    have hOE := hOD.acc hq5 (askA (s.acc q) ep (s.vt j).r (s.vt j).w)
                    have hne : pz ≠ p7 := hzD.ne_ hOD.ac (by decide)
                    have hzE := hzD.only (only_cells w6 p7 (q * 8) (iV (accL (askA (s.acc q) ep (s.vt j).r (s.vt j).w)))) hne
                    rw [← HZA.out.1] at hOE hzE
                    go_upto_region 36 with fail
                    clear hOD hzD q1 h1 rm
                    generalize w6.setCells p7 (q * 8) (iV zA) = w7 at hOE hzE
                    have hvl6 := hInv.vow_len
                    obtain ⟨g10, k10, rest10, rfl, _, hk10, hb10⟩ := own_open hOE.o1 (by omega)
                    have eo : (j * 5 + q) * 6 = j * 30 + q * 6 := by omega
                    have rm := hb10.drew.room ((j * 5 + q) * 6) 6 (by have e := fl_len hvl6; show _ ≤ (fl (s.n * 5) (vowF s) ++ rest10).length; rw [List.length_append, e]; omega)
                    obtain ⟨q3, h3⟩ := hzE.drew.got 3 2 (by rw [i8]; decide)
                    obtain ⟨q5, h5⟩ := hzE.drew.got 5 3 (by rw [i8]; decide)
                    rw [show (zA.drop 3).take 2 = [(s.acc q).hr, (s.acc q).hw] by rw [HZA.out.1, askA]; split <;> rfl] at q3
                    rw [show (zA.drop 5).take 3 = accC (s.acc q) by rw [HZA.out.1, askA]; split <;> rfl] at q5
                    have hOF := hOE.drew.vow hvl6 hjn hq5 (o := ((s.acc q).hr, (s.acc q).hw, accC (s.acc q))) rfl rfl
                    have i6 : IsV 6 (vowL (some ((s.acc q).hr, (s.acc q).hw, accC (s.acc q)))) := vowL_is fun _ _ _ e => by cases e; rfl
                    have hbv : ∀ w, (buildVowF #[(0, .agg (iA [(s.acc q).hr, (s.acc q).hw])), (1, .agg (iA (accC (s.acc q)))), (2, .bool true)]).run Try.prog w = .ok (.agg (vowL (some ((s.acc q).hr, (s.acc q).hw, accC (s.acc q)))).toArray) w := fun w => buildVowF_is (hs := [(s.acc q).hr, (s.acc q).hw]) (c := accC (s.acc q)) rfl rfl w
                    rw [eo] at rm hOF
                    generalize vowL (some ((s.acc q).hr, (s.acc q).hw, accC (s.acc q))) = vv at hOF i6 hbv
                    generalize [(s.acc q).hr, (s.acc q).hw] = hs at q3 hbv
                    have HI2 := hide hI2
                    clear hI2 eo hb10 hvl6 hOE hzE hOB
                    generalize hcc : accC (s.acc q) = cc at q5 hbv
                    have HCC := hide hcc
                    clear hcc
                    go_region
                    all_goals
                      go_wp2_with fail
                      go_roundw
                      exact ⟨i + 1, askS s j q (askA (s.acc q) ep (s.vt j).r (s.vt j).w) ((s.acc q).hr, (s.acc q).hw, accC (s.acc q)), ch, gs, by omega, Nat.le_succ_of_le hsn, by omega, HI2.out, by first | rfl | push_cast; rfl, hOF⟩
                      show n2 - ((i : Int) + 1).toNat < n2 - (i : Int).toNat
                      go_light
                      omega
              · by_cases hd2 : kd = 2
                · subst hd2
                  as_aux_lemma =>
                  have hvl6 := hInv.vow_len
                  obtain ⟨g10, k10, rest10, rfl, _, hk10, hb10⟩ := own_open hOB.o1 (by omega)
                  have eo : (j * 5 + q) * 6 = j * 30 + q * 6 := by omega
                  have hmq : j * 5 + q < s.n * 5 := by omega
                  have hrr := hb10.got ((j * 5 + q) * 6) 6 (by rw [List.length_append, fl_len hvl6]; omega)
                  rw [List.drop_append_of_le_length (by rw [fl_len hvl6]; omega), List.take_append_of_le_length (by rw [List.length_drop, fl_len hvl6]; omega), fl_get hvl6 hmq, eo] at hrr
                  obtain ⟨q1, h1⟩ := hrr
                  have hvo : vowF s (j * 5 + q) = vowL (s.vow j q) := by show vowL (s.vow ((j * 5 + q) / 5) ((j * 5 + q) % 5)) = _; rw [show (j * 5 + q) / 5 = j by omega, show (j * 5 + q) % 5 = q by omega]
                  have i6 : IsV 6 (vowF s (j * 5 + q)) := by rw [hvo]; exact vowL_is fun hr hw c ho => (hInv.vows j q hr hw c hjn hq5 ho).2.1
                  obtain ⟨vv, hvv⟩ : ∃ vv, vv = vowF s (j * 5 + q) := ⟨_, rfl⟩
                  rw [← hvv] at q1 i6 hvo
                  clear hvv eo hmq hb10 hvl6
                  have HVO := hide hvo
                  clear hvo
                  obtain ⟨rm, hZ, hbz⟩ := vlay wb i6
                  have hOC := hOB.next hbz
                  have hxC := hxj.below hbz hxj.lt
                  go_upto_region 39 with fail
                  clear hbz hOB hxj q1 h1
                  generalize wb.heap.size = pz at *
                  generalize (wb.alloc (.cells (vowL none).toArray 48)).setCells pz 0 vv = w1 at *
                  clear rm i6
                  cases ho : s.vow j q with
                  | none =>
                    have hvo := HVO.out
                    rw [ho] at hvo
                    have c5 := hZ.cellAt (i := 5) (x := .bool false) (by rw [hvo]; rfl)
                    clear hvo
                    go_wp2_with fail
                    go_roundw
                    exact ⟨i + 1, s, ch, gs, by omega, by omega, by omega, hInv, by first | rfl | push_cast; rfl, hOC⟩
                    show n2 - ((i : Int) + 1).toNat < n2 - (i : Int).toNat
                    go_light
                    omega
                  | some o =>
                    obtain ⟨hr, hw, c⟩ := o
                    have hvo := HVO.out
                    rw [ho] at hvo
                    have hcl3 := (hInv.vows j q hr hw c hjn hq5 ho).2.1
                    obtain ⟨y1, y2, y3, rfl⟩ := lit3 hcl3
                    have hI2 := hInv.vowed hjn hq5 ho
                    have HP := fun W h => vPutting_any (s.vt j) hok gj W h
                    have HB := fun W h => vBallot_any (s.vt j) hok gj W h
                    have HVW := fun W h => vVowed_any (s.vt j) hok wx (q : Int) (s.vt j).r (s.vt j).w hr hw wx [y1, y2, y3] rfl gj W h
                    have hpv : ∀ vb, vowB (s.vt j) (q : Int) (s.vt j).r (s.vt j).w hr hw [y1, y2, y3] = vb → vb = true → putsB (s.vt j) = false := fun vb e1 e2 => by
                      rw [vowB, e2] at e1
                      cases hp : putsB (s.vt j) with
                      | false => rfl
                      | true => rw [hp] at e1; cases e1
                    have c5 := hZ.cellAt (i := 5) (x := .bool true) (by rw [hvo]; rfl)
                    have HZr : ∀ W, VBlk W pz 48 vv → (rowAt W pz 0 2 = iA [hr, hw] ∧ HasRow W pz 0 2) ∧ (rowAt W pz 2 3 = iA [y1, y2, y3] ∧ HasRow W pz 2 3) := fun W hz2 => by
                      have a1 := hz2.got 0 2 (by rw [hvo]; show 0 + 2 ≤ 6; decide)
                      have a2 := hz2.got 2 3 (by rw [hvo]; show 2 + 3 ≤ 6; decide)
                      rw [show ((vv.drop 0).take 2).toArray = iA [hr, hw] by rw [hvo]; rfl] at a1
                      rw [show ((vv.drop 2).take 3).toArray = iA [y1, y2, y3] by rw [hvo]; rfl] at a2
                      exact ⟨a1, a2⟩
                    have hne : pz ≠ gj := hZ.ne_ hxC (by decide)
                    generalize hvbb : vowB (s.vt j) (q : Int) (s.vt j).r (s.vt j).w hr hw [y1, y2, y3] = vb at HVW
                    have hpv := hpv vb hvbb
                    generalize vowV (s.vt j) (q : Int) (s.vt j).r (s.vt j).w hr hw [y1, y2, y3] = xv at HVW hI2
                    have HI2 := hide hI2
                    have HHO := hide (And.intro ho hvo)
                    clear hI2 ho hvo hvbb
                    generalize hcy : [y1, y2, y3] = cy at HVW HZr
                    generalize hhy : [hr, hw] = hy at HVW HZr
                    clear hcy hhy
                    go_wp2_with fail
                    (with_reducible refine (HP w1 hxC).mono ?_)
                    rintro e w2 ⟨rfl, hb2⟩
                    have hOD := hOC.next hb2
                    have hxD := hxC.below hb2 hxC.lt
                    have hZ2 := hZ.below hb2 hZ.lt
                    clear hOC hxC hb2 c5 HP hZ
                    generalize putsB (s.vt j) = pb at hpv
                    cases vb with
                    | false =>
                      clear hpv
                      go_upto_region 41 with fail
                      refine wp_region_noPanic ?_
                      refine wp_region_held_drew (S := (fun W => VBlk W pz 48 vv)) (by kernel_rfl) ?_ (fun hHeld => ?_)
                      · exact hZ2.drew
                      refine wpAnyH_take (i := 0) (oi := _) (v := ?_) (by simp only [List.getElem?_toArray, List.getElem?_cons_zero]; rfl) (by kernel_rfl) (by kernel_rfl) (by kernel_rfl) (by exact fun _ _ _ h => h) (Or.inl ⟨by rfl, ?_⟩) (by assumption) ?_
                      rotate_left
                      · intro w hSw
                        try dsimp only at hSw
                        obtain ⟨⟨q1, h1⟩, q2, h2⟩ := HZr _ hSw
                        clear hSw
                        go_simp
                        try with_reducible rfl
                      try simp only [Act.put, List.setIfInBounds_toArray, List.set_cons_zero, List.set_cons_succ]
                      refine wpAnyH_take (i := 1) (oi := _) (v := ?_) (by simp only [List.getElem?_toArray, List.getElem?_cons_succ, List.getElem?_cons_zero]; rfl) (by kernel_rfl) (by kernel_rfl) (by kernel_rfl) (by exact fun _ _ _ h => h) (Or.inl ⟨by rfl, ?_⟩) (by assumption) ?_
                      rotate_left
                      · intro w hSw
                        try dsimp only at hSw
                        obtain ⟨⟨q1, h1⟩, q2, h2⟩ := HZr _ hSw
                        clear hSw
                        go_simp
                        try with_reducible rfl
                      try simp only [Act.put, List.setIfInBounds_toArray, List.set_cons_zero, List.set_cons_succ]
                      refine wpAnyH_take (i := 2) (oi := _) (v := ?_) (by simp only [List.getElem?_toArray, List.getElem?_cons_succ, List.getElem?_cons_zero]; rfl) (by kernel_rfl) (by kernel_rfl) (by kernel_rfl) (by exact fun _ _ _ h => h) (Or.inl ⟨by rfl, ?_⟩) (by assumption) ?_
                      rotate_left
                      · intro w hSw
                        try dsimp only at hSw
                        obtain ⟨⟨q1, h1⟩, q2, h2⟩ := HZr _ hSw
                        clear hSw
                        go_simp
                        try with_reducible rfl
                      try simp only [Act.put, List.setIfInBounds_toArray, List.set_cons_zero, List.set_cons_succ]
                      refine wpAnyH_take (i := 4) (oi := _) (v := ?_) (by simp only [List.getElem?_toArray, List.getElem?_cons_succ, List.getElem?_cons_zero]; rfl) (by kernel_rfl) (by kernel_rfl) (by kernel_rfl) (by exact fun _ _ _ h => h) (Or.inl ⟨by rfl, ?_⟩) (by assumption) ?_
                      rotate_left
                      · intro w hSw
                        try dsimp only at hSw
                        obtain ⟨⟨q1, h1⟩, q2, h2⟩ := HZr _ hSw
                        clear hSw
                        go_simp
                        try with_reducible rfl
                      try simp only [Act.put, List.setIfInBounds_toArray, List.set_cons_zero, List.set_cons_succ]
                      refine wpAnyH_take (i := 5) (oi := _) (v := ?_) (by simp only [List.getElem?_toArray, List.getElem?_cons_succ, List.getElem?_cons_zero]; rfl) (by kernel_rfl) (by kernel_rfl) (by kernel_rfl) (by exact fun _ _ _ h => h) (Or.inl ⟨by rfl, ?_⟩) (by assumption) ?_
                      rotate_left
                      · intro w hSw
                        try dsimp only at hSw
                        obtain ⟨⟨q1, h1⟩, q2, h2⟩ := HZr _ hSw
                        clear hSw
                        go_simp
                        try with_reducible rfl
                      try simp only [Act.put, List.setIfInBounds_toArray, List.set_cons_zero, List.set_cons_succ]
                      refine wpAnyH_take (i := 6) (oi := _) (v := ?_) (by simp only [List.getElem?_toArray, List.getElem?_cons_succ, List.getElem?_cons_zero]; rfl) (by kernel_rfl) (by kernel_rfl) (by kernel_rfl) (by exact fun _ _ _ h => h) (Or.inl ⟨by rfl, ?_⟩) (by assumption) ?_
                      rotate_left
                      · intro w hSw
                        try dsimp only at hSw
                        obtain ⟨⟨q1, h1⟩, q2, h2⟩ := HZr _ hSw
                        clear hSw
                        go_simp
                        try with_reducible rfl
                      try simp only [Act.put, List.setIfInBounds_toArray, List.set_cons_zero, List.set_cons_succ]
                      refine wpAnyH_take (i := 7) (oi := _) (v := ?_) (by simp only [List.getElem?_toArray, List.getElem?_cons_succ, List.getElem?_cons_zero]; rfl) (by kernel_rfl) (by kernel_rfl) (by kernel_rfl) (by exact fun _ _ _ h => h) (Or.inl ⟨by rfl, ?_⟩) (by assumption) ?_
                      rotate_left
                      · intro w hSw
                        try dsimp only at hSw
                        obtain ⟨⟨q1, h1⟩, q2, h2⟩ := HZr _ hSw
                        clear hSw
                        go_simp
                        try with_reducible rfl
                      try simp only [Act.put, List.setIfInBounds_toArray, List.set_cons_zero, List.set_cons_succ]
                      refine wpAnyH_ready (rs := [3]) (by kernel_rfl) (by simp) ?_
                      refine AllReadyH.cons (o := _) (by simp only [List.getElem?_toArray, List.getElem?_cons_succ, List.getElem?_cons_zero]; rfl) (fun K hK => ?_) AllReadyH.nil
                      go_simp
                      try dsimp only at hHeld
                      go_at_call 11
                      (with_reducible refine (HB _ hxD.drew).mono ?_)
                      rintro x5 w5 ⟨rfl, hb5⟩
                      have b5 := (Below.drewR (Below.refl w2.heap.size w2)).trans hb5
                      have hOE := hOD.next b5
                      have hxE := hxD.below b5 hxD.lt
                      have hh5 := VBlk.below hHeld hb5 (VBlk.lt hHeld)
                      try go_wp2_with fail
                      refine hK.out _ _ ?_ (fun hHeld => ?_)
                      · exact hh5
                      clear hK K
                      try simp only [Act.put, List.setIfInBounds_toArray, List.set_cons_zero, List.set_cons_succ]
                      refine wpAnyH_ready (rs := [8]) (by kernel_rfl) (by simp) ?_
                      refine AllReadyH.cons (o := _) (by simp only [List.getElem?_toArray, List.getElem?_cons_succ, List.getElem?_cons_zero]; rfl) (fun K hK => ?_) AllReadyH.nil
                      go_simp
                      try dsimp only at hHeld
                      go_at_call 14
                      (with_reducible refine (HVW _ hxE).mono ?_)
                      rintro x6 w6 ⟨rfl, hI6, hk6⟩
                      have hOF := hOE.vote hjn hgj hI6 hk6
                      have hh6 := VBlk.only hHeld hk6 hne
                      try go_wp2_with fail
                      refine hK.out _ _ ?_ (fun hHeld => ?_)
                      · exact hh6
                      clear hK K
                      try simp only [Act.put, List.setIfInBounds_toArray, List.set_cons_zero, List.set_cons_succ]
                      refine wpAnyH_take (i := 9) (oi := _) (v := ?_) (by simp only [List.getElem?_toArray, List.getElem?_cons_succ, List.getElem?_cons_zero]; rfl) (by kernel_rfl) (by kernel_rfl) (by kernel_rfl) (by exact fun _ _ _ h => h) (Or.inl ⟨by rfl, ?_⟩) (by assumption) ?_
                      rotate_left
                      · intro w hSw
                        try dsimp only at hSw
                        obtain ⟨⟨q1, h1⟩, q2, h2⟩ := HZr _ hSw
                        clear hSw
                        go_simp
                        try with_reducible rfl
                      try simp only [Act.put, List.setIfInBounds_toArray, List.set_cons_zero, List.set_cons_succ]
                      refine wpAnyH_take (i := 10) (oi := _) (v := undef) (by simp only [List.getElem?_toArray, List.getElem?_cons_succ, List.getElem?_cons_zero]; rfl) (by kernel_rfl) (by kernel_rfl) (by kernel_rfl) (by exact fun _ _ _ h => h) (Or.inr ⟨by rfl, rfl⟩) (by assumption) ?_
                      try simp only [Act.put, List.setIfInBounds_toArray, List.set_cons_zero, List.set_cons_succ]
                      refine wpAnyH_take (i := 11) (oi := _) (v := ?_) (by simp only [List.getElem?_toArray, List.getElem?_cons_succ, List.getElem?_cons_zero]; rfl) (by kernel_rfl) (by kernel_rfl) (by kernel_rfl) (by exact fun _ _ _ h => h) (Or.inl ⟨by rfl, ?_⟩) (by assumption) ?_
                      rotate_left
                      · intro w hSw
                        try dsimp only at hSw
                        obtain ⟨⟨q1, h1⟩, q2, h2⟩ := HZr _ hSw
                        clear hSw
                        go_simp
                        try with_reducible rfl
                      try simp only [Act.put, List.setIfInBounds_toArray, List.set_cons_zero, List.set_cons_succ]
                      refine wpAnyH_done (by kernel_rfl) ?_ _
                      refine NoPanic.normal ?_
                      skip
                      try dsimp only at hHeld
                      go_wp2_with fail
                      go_roundw
                      exact ⟨i + 1, setVt s j xv, ch, gs, by omega, Nat.le_succ_of_le hsn, by omega, HI2.out, by first | rfl | push_cast; rfl, hOF⟩
                      show n2 - ((i : Int) + 1).toNat < n2 - (i : Int).toNat
                      go_light
                      omega
                    | true =>
                      obtain rfl := hpv rfl
                      clear hpv
                      go_upto_region 41 with fail
                      refine wp_region_noPanic ?_
                      refine wp_region_held_drew (S := (fun W => VBlk W pz 48 vv)) (by kernel_rfl) ?_ (fun hHeld => ?_)
                      · exact hZ2.drew
                      refine wpAnyH_take (i := 0) (oi := _) (v := ?_) (by simp only [List.getElem?_toArray, List.getElem?_cons_zero]; rfl) (by kernel_rfl) (by kernel_rfl) (by kernel_rfl) (by exact fun _ _ _ h => h) (Or.inl ⟨by rfl, ?_⟩) (by assumption) ?_
                      rotate_left
                      · intro w hSw
                        try dsimp only at hSw
                        obtain ⟨⟨q1, h1⟩, q2, h2⟩ := HZr _ hSw
                        clear hSw
                        go_simp
                        try with_reducible rfl
                      try simp only [Act.put, List.setIfInBounds_toArray, List.set_cons_zero, List.set_cons_succ]
                      refine wpAnyH_take (i := 1) (oi := _) (v := ?_) (by simp only [List.getElem?_toArray, List.getElem?_cons_succ, List.getElem?_cons_zero]; rfl) (by kernel_rfl) (by kernel_rfl) (by kernel_rfl) (by exact fun _ _ _ h => h) (Or.inl ⟨by rfl, ?_⟩) (by assumption) ?_
                      rotate_left
                      · intro w hSw
                        try dsimp only at hSw
                        obtain ⟨⟨q1, h1⟩, q2, h2⟩ := HZr _ hSw
                        clear hSw
                        go_simp
                        try with_reducible rfl
                      try simp only [Act.put, List.setIfInBounds_toArray, List.set_cons_zero, List.set_cons_succ]
                      refine wpAnyH_take (i := 2) (oi := _) (v := ?_) (by simp only [List.getElem?_toArray, List.getElem?_cons_succ, List.getElem?_cons_zero]; rfl) (by kernel_rfl) (by kernel_rfl) (by kernel_rfl) (by exact fun _ _ _ h => h) (Or.inl ⟨by rfl, ?_⟩) (by assumption) ?_
                      rotate_left
                      · intro w hSw
                        try dsimp only at hSw
                        obtain ⟨⟨q1, h1⟩, q2, h2⟩ := HZr _ hSw
                        clear hSw
                        go_simp
                        try with_reducible rfl
                      try simp only [Act.put, List.setIfInBounds_toArray, List.set_cons_zero, List.set_cons_succ]
                      refine wpAnyH_take (i := 4) (oi := _) (v := ?_) (by simp only [List.getElem?_toArray, List.getElem?_cons_succ, List.getElem?_cons_zero]; rfl) (by kernel_rfl) (by kernel_rfl) (by kernel_rfl) (by exact fun _ _ _ h => h) (Or.inl ⟨by rfl, ?_⟩) (by assumption) ?_
                      rotate_left
                      · intro w hSw
                        try dsimp only at hSw
                        obtain ⟨⟨q1, h1⟩, q2, h2⟩ := HZr _ hSw
                        clear hSw
                        go_simp
                        try with_reducible rfl
                      try simp only [Act.put, List.setIfInBounds_toArray, List.set_cons_zero, List.set_cons_succ]
                      refine wpAnyH_take (i := 5) (oi := _) (v := ?_) (by simp only [List.getElem?_toArray, List.getElem?_cons_succ, List.getElem?_cons_zero]; rfl) (by kernel_rfl) (by kernel_rfl) (by kernel_rfl) (by exact fun _ _ _ h => h) (Or.inl ⟨by rfl, ?_⟩) (by assumption) ?_
                      rotate_left
                      · intro w hSw
                        try dsimp only at hSw
                        obtain ⟨⟨q1, h1⟩, q2, h2⟩ := HZr _ hSw
                        clear hSw
                        go_simp
                        try with_reducible rfl
                      try simp only [Act.put, List.setIfInBounds_toArray, List.set_cons_zero, List.set_cons_succ]
                      refine wpAnyH_take (i := 6) (oi := _) (v := ?_) (by simp only [List.getElem?_toArray, List.getElem?_cons_succ, List.getElem?_cons_zero]; rfl) (by kernel_rfl) (by kernel_rfl) (by kernel_rfl) (by exact fun _ _ _ h => h) (Or.inl ⟨by rfl, ?_⟩) (by assumption) ?_
                      rotate_left
                      · intro w hSw
                        try dsimp only at hSw
                        obtain ⟨⟨q1, h1⟩, q2, h2⟩ := HZr _ hSw
                        clear hSw
                        go_simp
                        try with_reducible rfl
                      try simp only [Act.put, List.setIfInBounds_toArray, List.set_cons_zero, List.set_cons_succ]
                      refine wpAnyH_take (i := 7) (oi := _) (v := ?_) (by simp only [List.getElem?_toArray, List.getElem?_cons_succ, List.getElem?_cons_zero]; rfl) (by kernel_rfl) (by kernel_rfl) (by kernel_rfl) (by exact fun _ _ _ h => h) (Or.inl ⟨by rfl, ?_⟩) (by assumption) ?_
                      rotate_left
                      · intro w hSw
                        try dsimp only at hSw
                        obtain ⟨⟨q1, h1⟩, q2, h2⟩ := HZr _ hSw
                        clear hSw
                        go_simp
                        try with_reducible rfl
                      try simp only [Act.put, List.setIfInBounds_toArray, List.set_cons_zero, List.set_cons_succ]
                      refine wpAnyH_ready (rs := [3]) (by kernel_rfl) (by simp) ?_
                      refine AllReadyH.cons (o := _) (by simp only [List.getElem?_toArray, List.getElem?_cons_succ, List.getElem?_cons_zero]; rfl) (fun K hK => ?_) AllReadyH.nil
                      go_simp
                      try dsimp only at hHeld
                      go_at_call 11
                      (with_reducible refine (HB _ hxD.drew).mono ?_)
                      rintro x5 w5 ⟨rfl, hb5⟩
                      have b5 := (Below.drewR (Below.refl w2.heap.size w2)).trans hb5
                      have hOE := hOD.next b5
                      have hxE := hxD.below b5 hxD.lt
                      have hh5 := VBlk.below hHeld hb5 (VBlk.lt hHeld)
                      try go_wp2_with fail
                      refine hK.out _ _ ?_ (fun hHeld => ?_)
                      · exact hh5
                      clear hK K
                      try simp only [Act.put, List.setIfInBounds_toArray, List.set_cons_zero, List.set_cons_succ]
                      refine wpAnyH_ready (rs := [8]) (by kernel_rfl) (by simp) ?_
                      refine AllReadyH.cons (o := _) (by simp only [List.getElem?_toArray, List.getElem?_cons_succ, List.getElem?_cons_zero]; rfl) (fun K hK => ?_) AllReadyH.nil
                      go_simp
                      try dsimp only at hHeld
                      go_at_call 14
                      (with_reducible refine (HVW _ hxE).mono ?_)
                      rintro x6 w6 ⟨rfl, hI6, hk6⟩
                      have hOF := hOE.vote hjn hgj hI6 hk6
                      have hh6 := VBlk.only hHeld hk6 hne
                      try go_wp2_with fail
                      refine hK.out _ _ ?_ (fun hHeld => ?_)
                      · exact hh6
                      clear hK K
                      try simp only [Act.put, List.setIfInBounds_toArray, List.set_cons_zero, List.set_cons_succ]
                      refine wpAnyH_take (i := 9) (oi := _) (v := ?_) (by simp only [List.getElem?_toArray, List.getElem?_cons_succ, List.getElem?_cons_zero]; rfl) (by kernel_rfl) (by kernel_rfl) (by kernel_rfl) (by exact fun _ _ _ h => h) (Or.inl ⟨by rfl, ?_⟩) (by assumption) ?_
                      rotate_left
                      · intro w hSw
                        try dsimp only at hSw
                        obtain ⟨⟨q1, h1⟩, q2, h2⟩ := HZr _ hSw
                        clear hSw
                        go_simp
                        try with_reducible rfl
                      try simp only [Act.put, List.setIfInBounds_toArray, List.set_cons_zero, List.set_cons_succ]
                      refine wpAnyH_take (i := 10) (oi := _) (v := ?_) (by simp only [List.getElem?_toArray, List.getElem?_cons_succ, List.getElem?_cons_zero]; rfl) (by kernel_rfl) (by kernel_rfl) (by kernel_rfl) (by exact fun _ _ _ h => h) (Or.inl ⟨by rfl, ?_⟩) (by assumption) ?_
                      rotate_left
                      · intro w hSw
                        try dsimp only at hSw
                        obtain ⟨⟨q1, h1⟩, q2, h2⟩ := HZr _ hSw
                        clear hSw
                        go_simp
                        try with_reducible rfl
                      try simp only [Act.put, List.setIfInBounds_toArray, List.set_cons_zero, List.set_cons_succ]
                      refine wpAnyH_take (i := 11) (oi := _) (v := ?_) (by simp only [List.getElem?_toArray, List.getElem?_cons_succ, List.getElem?_cons_zero]; rfl) (by kernel_rfl) (by kernel_rfl) (by kernel_rfl) (by exact fun _ _ _ h => h) (Or.inl ⟨by rfl, ?_⟩) (by assumption) ?_
                      rotate_left
                      · intro w hSw
                        try dsimp only at hSw
                        obtain ⟨⟨q1, h1⟩, q2, h2⟩ := HZr _ hSw
                        clear hSw
                        go_simp
                        try with_reducible rfl
                      try simp only [Act.put, List.setIfInBounds_toArray, List.set_cons_zero, List.set_cons_succ]
                      refine wpAnyH_done (by kernel_rfl) ?_ _
                      refine NoPanic.normal ?_
                      skip
                      try dsimp only at hHeld
                      go_wp2_with fail
                      go_roundw
                      exact ⟨i + 1, setVt s j xv, ch, gs, by omega, Nat.le_succ_of_le hsn, by omega, HI2.out, by first | rfl | push_cast; rfl, hOF⟩
                      show n2 - ((i : Int) + 1).toNat < n2 - (i : Int).toNat
                      go_light
                      omega
                · by_cases hd3 : kd = 3
                  · subst hd3
                    as_aux_lemma =>
                    have HP := fun W h => vPutting_any (s.vt j) hok gj W h
                    go_upto_region 44 with fail
                    go_wp2_with fail
                    (with_reducible refine (HP wb hxj).mono ?_)
                    rintro e w2 ⟨rfl, hb2⟩
                    have hOC0 := hOB.next hb2
                    have hxC := hxj.below hb2 hxj.lt
                    clear hOB hxj hb2 HP
                    cases hpb : putsB (s.vt j) with
                    | false =>
                      go_wp2_with fail
                      go_roundw
                      exact ⟨i + 1, s, ch, gs, by omega, by omega, by omega, hInv, by first | rfl | push_cast; rfl, hOC0⟩
                      show n2 - ((i : Int) + 1).toNat < n2 - (i : Int).toNat
                      go_light
                      omega
                    | true =>
                      obtain ⟨k6, k7, k8, hcc⟩ := lit3 hok.c
                      have HB := fun W h => vBallot_any (s.vt j) hok gj W h
                      have HC := fun W h => vChange_any (s.vt j) hok gj W h
                      have HA := fun W => put_any (s.acc q) ep (s.vt j).r (s.vt j).w k6 k7 k8 W
                      have HM := fun W => member_any v hvl (q : Int) W
                      rw [inV_nat hq5] at HM
                      rw [hcc] at HC
                      have hI2 := fun hh => hInv.put (q := q) hjn hq5 hpb hh hcc
                      have HIP := hide (And.intro hpb hcc)
                      clear hpb hcc
                      rename World => wb
                      have HF : ∀ W, Below wb.heap.size wb W → (rowAt W p7 (q * 8) 8 = iA (accL (s.acc q)) ∧ HasRow W p7 (q * 8) 8) ∧ W.cell? ⟨p5, 0, none⟩ = some (.int .i64 ep) ∧ IBlk W gj 70 (vtL (s.vt j)) := fun W h => by
                        have hW := hOC0.next h
                        have hr := hW.ac.got (q * 8) 8 (by rw [fl_len (accF_len s)]; omega)
                        rw [fl_get (accF_len s) hq5] at hr
                        exact ⟨hr, hW.vw.cellAt 0 ep he0, hxC.below h hxC.lt⟩
                      obtain ⟨zA, hzA⟩ : ∃ zA, zA = accL (putA (s.acc q) ep (s.vt j).r (s.vt j).w k6 k7 k8) := ⟨_, rfl⟩
                      obtain ⟨hb, hhb⟩ : ∃ hb, hb = hearsB (s.acc q) ep (s.vt j).r (s.vt j).w := ⟨_, rfl⟩
                      have i8 : Is 8 zA := by rw [hzA]; unfold putA; split <;> rfl
                      rw [← hzA, ← hhb] at HA
                      rw [← hhb] at hI2
                      have HZA := hide (And.intro hzA hhb)
                      clear hzA hhb
                      generalize hck : [k6, k7, k8] = ck at HA HC
                      clear hck
                      go_upto_region 45 with fail
                      go_cut [26, 27] (fun s26 s27 wx => ∃ pz : Nat, s26 = .pointer (some ⟨pz, 0, none⟩) ∧ s27 = .bool hb ∧ wb.heap.size ≤ pz ∧ IBlk wx pz 35 zA ∧ Below wb.heap.size wb wx)
                      case first =>
                        as_aux_lemma =>
                        refine wp_region_noPanic ?_
                        refine wp_region_held_drew (S := (fun W => Below wb.heap.size wb W)) (by kernel_rfl) ?_ (fun hHeld => ?_)
                        · exact Below.drewR (Below.refl _ _)
                        refine wpAnyH_take (i := 0) (oi := _) (v := ?_) (by simp only [List.getElem?_toArray, List.getElem?_cons_zero]; rfl) (by kernel_rfl) (by kernel_rfl) (by kernel_rfl) (by exact fun _ _ _ h => h) (Or.inl ⟨by rfl, ?_⟩) (by assumption) ?_
                        rotate_left
                        · intro w hSw
                          try dsimp only at hSw
                          obtain ⟨⟨q1, h1⟩, c5, -⟩ := HF _ hSw
                          clear hSw
                          go_simp
                          try with_reducible rfl
                        try simp only [Act.put, List.setIfInBounds_toArray, List.set_cons_zero, List.set_cons_succ]
                        refine wpAnyH_take (i := 1) (oi := _) (v := ?_) (by simp only [List.getElem?_toArray, List.getElem?_cons_succ, List.getElem?_cons_zero]; rfl) (by kernel_rfl) (by kernel_rfl) (by kernel_rfl) (by exact fun _ _ _ h => h) (Or.inl ⟨by rfl, ?_⟩) (by assumption) ?_
                        rotate_left
                        · intro w hSw
                          try dsimp only at hSw
                          obtain ⟨⟨q1, h1⟩, c5, -⟩ := HF _ hSw
                          clear hSw
                          go_simp
                          try with_reducible rfl
                        try simp only [Act.put, List.setIfInBounds_toArray, List.set_cons_zero, List.set_cons_succ]
                        refine wpAnyH_take (i := 2) (oi := _) (v := ?_) (by simp only [List.getElem?_toArray, List.getElem?_cons_succ, List.getElem?_cons_zero]; rfl) (by kernel_rfl) (by kernel_rfl) (by kernel_rfl) (by exact fun _ _ _ h => h) (Or.inl ⟨by rfl, ?_⟩) (by assumption) ?_
                        rotate_left
                        · intro w hSw
                          try dsimp only at hSw
                          obtain ⟨⟨q1, h1⟩, c5, -⟩ := HF _ hSw
                          clear hSw
                          go_simp
                          try with_reducible rfl
                        try simp only [Act.put, List.setIfInBounds_toArray, List.set_cons_zero, List.set_cons_succ]
                        refine wpAnyH_take (i := 3) (oi := _) (v := ?_) (by simp only [List.getElem?_toArray, List.getElem?_cons_succ, List.getElem?_cons_zero]; rfl) (by kernel_rfl) (by kernel_rfl) (by kernel_rfl) (by exact fun _ _ _ h => h) (Or.inl ⟨by rfl, ?_⟩) (by assumption) ?_
                        rotate_left
                        · intro w hSw
                          try dsimp only at hSw
                          obtain ⟨⟨q1, h1⟩, c5, -⟩ := HF _ hSw
                          clear hSw
                          go_simp
                          try with_reducible rfl
                        try simp only [Act.put, List.setIfInBounds_toArray, List.set_cons_zero, List.set_cons_succ]
                        refine wpAnyH_take (i := 4) (oi := _) (v := ?_) (by simp only [List.getElem?_toArray, List.getElem?_cons_succ, List.getElem?_cons_zero]; rfl) (by kernel_rfl) (by kernel_rfl) (by kernel_rfl) (by exact fun _ _ _ h => h) (Or.inl ⟨by rfl, ?_⟩) (by assumption) ?_
                        rotate_left
                        · intro w hSw
                          try dsimp only at hSw
                          obtain ⟨⟨q1, h1⟩, c5, -⟩ := HF _ hSw
                          clear hSw
                          go_simp
                          try with_reducible rfl
                        try simp only [Act.put, List.setIfInBounds_toArray, List.set_cons_zero, List.set_cons_succ]
                        refine wpAnyH_take (i := 5) (oi := _) (v := ?_) (by simp only [List.getElem?_toArray, List.getElem?_cons_succ, List.getElem?_cons_zero]; rfl) (by kernel_rfl) (by kernel_rfl) (by kernel_rfl) (by exact fun _ _ _ h => h) (Or.inl ⟨by rfl, ?_⟩) (by assumption) ?_
                        rotate_left
                        · intro w hSw
                          try dsimp only at hSw
                          obtain ⟨⟨q1, h1⟩, c5, -⟩ := HF _ hSw
                          clear hSw
                          go_simp
                          try with_reducible rfl
                        try simp only [Act.put, List.setIfInBounds_toArray, List.set_cons_zero, List.set_cons_succ]
                        refine wpAnyH_take (i := 7) (oi := _) (v := ?_) (by simp only [List.getElem?_toArray, List.getElem?_cons_succ, List.getElem?_cons_zero]; rfl) (by kernel_rfl) (by kernel_rfl) (by kernel_rfl) (by exact fun _ _ _ h => h) (Or.inl ⟨by rfl, ?_⟩) (by assumption) ?_
                        rotate_left
                        · intro w hSw
                          try dsimp only at hSw
                          obtain ⟨⟨q1, h1⟩, c5, -⟩ := HF _ hSw
                          clear hSw
                          go_simp
                          try with_reducible rfl
                        try simp only [Act.put, List.setIfInBounds_toArray, List.set_cons_zero, List.set_cons_succ]
                        refine wpAnyH_ready (rs := [6, 13]) (by kernel_rfl) (by simp) ?_
                        refine AllReadyH.cons (o := _) (by simp only [List.getElem?_toArray, List.getElem?_cons_succ, List.getElem?_cons_zero]; rfl) (fun K hK => ?_) ?_
                        · go_simp
                          try dsimp only at hHeld
                          go_at_call 11
                          (with_reducible refine (HB _ (HF _ hHeld).2.2).mono ?_)
                          rintro x5 w5 ⟨rfl, hx5⟩
                          have hh5 := hHeld.trans (hx5.mono hHeld.size)
                          try (have ⟨hN', rm'⟩ := al_next hN hx5; clear hN rm; have hN := hN'; have rm := rm'; clear hN' rm')
                          try go_wp2_with fail
                          refine hK.out _ _ ?_ (fun hHeld => ?_)
                          · exact hh5
                          clear hK K
                          try simp only [Act.put, List.setIfInBounds_toArray, List.set_cons_zero, List.set_cons_succ]
                          refine wpAnyH_ready (rs := [8, 13]) (by kernel_rfl) (by simp) ?_
                          refine AllReadyH.cons (o := _) (by simp only [List.getElem?_toArray, List.getElem?_cons_succ, List.getElem?_cons_zero]; rfl) (fun K hK => ?_) ?_
                          · go_simp
                            try dsimp only at hHeld
                            go_at_call 16
                            (with_reducible refine (HC _ (HF _ hHeld).2.2).mono ?_)
                            rintro x5 w5 ⟨rfl, hx5⟩
                            have hh5 := hHeld.trans (hx5.mono hHeld.size)
                            try (have ⟨hN', rm'⟩ := al_next hN hx5; clear hN rm; have hN := hN'; have rm := rm'; clear hN' rm')
                            try go_wp2_with fail
                            refine hK.out _ _ ?_ (fun hHeld => ?_)
                            · exact hh5
                            clear hK K
                            try simp only [Act.put, List.setIfInBounds_toArray, List.set_cons_zero, List.set_cons_succ]
                            refine wpAnyH_ready (rs := [9, 13]) (by kernel_rfl) (by simp) ?_
                            refine AllReadyH.cons (o := _) (by simp only [List.getElem?_toArray, List.getElem?_cons_succ, List.getElem?_cons_zero]; rfl) (fun K hK => ?_) ?_
                            · go_simp
                              try dsimp only at hHeld
                              go_at_call 15
                              (with_reducible refine (HA _).mono ?_)
                              rintro x5 w5 ⟨rfl, hx5⟩
                              have hh5 := hHeld.trans (hx5.mono hHeld.size)
                              try (have ⟨hN', rm'⟩ := al_next hN hx5; clear hN rm; have hN := hN'; have rm := rm'; clear hN' rm')
                              try go_wp2_with fail
                              refine hK.out _ _ ?_ (fun hHeld => ?_)
                              · exact hh5
                              clear hK K
                              try simp only [Act.put, List.setIfInBounds_toArray, List.set_cons_zero, List.set_cons_succ]
                              refine wpAnyH_take (i := 10) (oi := _) (v := ?_) (by simp only [List.getElem?_toArray, List.getElem?_cons_succ, List.getElem?_cons_zero]; rfl) (by kernel_rfl) (by kernel_rfl) (by kernel_rfl) (by exact fun _ _ _ h => h) (Or.inl ⟨by rfl, ?_⟩) (by assumption) ?_
                              rotate_left
                              · intro w hSw
                                try dsimp only at hSw
                                obtain ⟨⟨q1, h1⟩, c5, -⟩ := HF _ hSw
                                clear hSw
                                go_simp
                                try with_reducible rfl
                              try simp only [Act.put, List.setIfInBounds_toArray, List.set_cons_zero, List.set_cons_succ]
                              refine wpAnyH_take (i := 11) (oi := _) (v := ?_) (by simp only [List.getElem?_toArray, List.getElem?_cons_succ, List.getElem?_cons_zero]; rfl) (by kernel_rfl) (by kernel_rfl) (by kernel_rfl) (by exact fun _ _ _ h => h) (Or.inl ⟨by rfl, ?_⟩) (by assumption) ?_
                              rotate_left
                              · intro w hSw
                                try dsimp only at hSw
                                obtain ⟨⟨q1, h1⟩, c5, -⟩ := HF _ hSw
                                clear hSw
                                go_simp
                                try with_reducible rfl
                              try simp only [Act.put, List.setIfInBounds_toArray, List.set_cons_zero, List.set_cons_succ]
                              refine wpAnyH_take (i := 12) (oi := _) (v := ?_) (by simp only [List.getElem?_toArray, List.getElem?_cons_succ, List.getElem?_cons_zero]; rfl) (by kernel_rfl) (by kernel_rfl) (by kernel_rfl) (by exact fun _ _ _ h => h) (Or.inl ⟨by rfl, ?_⟩) (by assumption) ?_
                              rotate_left
                              · intro w hSw
                                try dsimp only at hSw
                                obtain ⟨⟨q1, h1⟩, c5, -⟩ := HF _ hSw
                                clear hSw
                                go_simp
                                try with_reducible rfl
                              try simp only [Act.put, List.setIfInBounds_toArray, List.set_cons_zero, List.set_cons_succ]
                              refine wpAnyH_ready (rs := [13]) (by kernel_rfl) (by simp) ?_
                              refine AllReadyH.cons (o := _) (by simp only [List.getElem?_toArray, List.getElem?_cons_succ, List.getElem?_cons_zero]; rfl) (fun K hK => ?_) AllReadyH.nil
                              go_simp
                              try dsimp only at hHeld
                              obtain ⟨hN, hNg, hNb, rm⟩ := al_new hHeld
                              try change IBlk _ wb.heap.size _ _ at hN
                              try change Room _ wb.heap.size 0 8 at rm
                              try change wb.heap.size ≤ wb.heap.size at hNg
                              try go_wp2_with fail
                              refine hK.out _ _ ?_ (fun hHeld => ?_)
                              · exact hNb
                              clear hK K
                              try simp only [Act.put, List.setIfInBounds_toArray, List.set_cons_zero, List.set_cons_succ]
                              refine wpAnyH_ready (rs := [14]) (by kernel_rfl) (by simp) ?_
                              refine AllReadyH.cons (o := _) (by simp only [List.getElem?_toArray, List.getElem?_cons_succ, List.getElem?_cons_zero]; rfl) (fun K hK => ?_) AllReadyH.nil
                              go_simp
                              try dsimp only at hHeld
                              obtain ⟨hZ, hS⟩ := al_fill hHeld hN hNg i8
                              try go_wp2_with fail
                              refine hK.out _ _ ?_ (fun hHeld => ?_)
                              · exact hS
                              clear hK K
                              try simp only [Act.put, List.setIfInBounds_toArray, List.set_cons_zero, List.set_cons_succ]
                              refine wpAnyH_take (i := 15) (oi := _) (v := ?_) (by simp only [List.getElem?_toArray, List.getElem?_cons_succ, List.getElem?_cons_zero]; rfl) (by kernel_rfl) (by kernel_rfl) (by kernel_rfl) (by exact fun _ _ _ h => h) (Or.inl ⟨by rfl, ?_⟩) (by assumption) ?_
                              rotate_left
                              · intro w hSw
                                try dsimp only at hSw
                                obtain ⟨⟨q1, h1⟩, c5, -⟩ := HF _ hSw
                                clear hSw
                                go_simp
                                try with_reducible rfl
                              try simp only [Act.put, List.setIfInBounds_toArray, List.set_cons_zero, List.set_cons_succ]
                              refine wpAnyH_done (by kernel_rfl) ?_ _
                              refine NoPanic.normal ?_
                              try dsimp only at hHeld
                              go_wp2_with fail
                              go_meet
                              exact ⟨_, rfl, rfl, hNg, hZ, hHeld⟩
                            refine AllReadyH.cons (o := _) (by simp only [List.getElem?_toArray, List.getElem?_cons_succ, List.getElem?_cons_zero]; rfl) (fun K hK => ?_) ?_
                            · go_simp
                              try dsimp only at hHeld
                              obtain ⟨hN, hNg, hNb, rm⟩ := al_new hHeld
                              try change IBlk _ wb.heap.size _ _ at hN
                              try change Room _ wb.heap.size 0 8 at rm
                              try change wb.heap.size ≤ wb.heap.size at hNg
                              try go_wp2_with fail
                              refine hK.out _ _ ?_ (fun hHeld => ?_)
                              · exact hNb
                              clear hK K
                              try simp only [Act.put, List.setIfInBounds_toArray, List.set_cons_zero, List.set_cons_succ]
                              refine wpAnyH_ready (rs := [9]) (by kernel_rfl) (by simp) ?_
                              refine AllReadyH.cons (o := _) (by simp only [List.getElem?_toArray, List.getElem?_cons_succ, List.getElem?_cons_zero]; rfl) (fun K hK => ?_) AllReadyH.nil
                              go_simp
                              try dsimp only at hHeld
                              go_at_call 15
                              (with_reducible refine (HA _).mono ?_)
                              rintro x5 w5 ⟨rfl, hx5⟩
                              have hh5 := hHeld.trans (hx5.mono hHeld.size)
                              try (have ⟨hN', rm'⟩ := al_next hN hx5; clear hN rm; have hN := hN'; have rm := rm'; clear hN' rm')
                              try go_wp2_with fail
                              refine hK.out _ _ ?_ (fun hHeld => ?_)
                              · exact hh5
                              clear hK K
                              try simp only [Act.put, List.setIfInBounds_toArray, List.set_cons_zero, List.set_cons_succ]
                              refine wpAnyH_take (i := 10) (oi := _) (v := ?_) (by simp only [List.getElem?_toArray, List.getElem?_cons_succ, List.getElem?_cons_zero]; rfl) (by kernel_rfl) (by kernel_rfl) (by kernel_rfl) (by exact fun _ _ _ h => h) (Or.inl ⟨by rfl, ?_⟩) (by assumption) ?_
                              rotate_left
                              · intro w hSw
                                try dsimp only at hSw
                                obtain ⟨⟨q1, h1⟩, c5, -⟩ := HF _ hSw
                                clear hSw
                                go_simp
                                try with_reducible rfl
                              try simp only [Act.put, List.setIfInBounds_toArray, List.set_cons_zero, List.set_cons_succ]
                              refine wpAnyH_take (i := 11) (oi := _) (v := ?_) (by simp only [List.getElem?_toArray, List.getElem?_cons_succ, List.getElem?_cons_zero]; rfl) (by kernel_rfl) (by kernel_rfl) (by kernel_rfl) (by exact fun _ _ _ h => h) (Or.inl ⟨by rfl, ?_⟩) (by assumption) ?_
                              rotate_left
                              · intro w hSw
                                try dsimp only at hSw
                                obtain ⟨⟨q1, h1⟩, c5, -⟩ := HF _ hSw
                                clear hSw
                                go_simp
                                try with_reducible rfl
                              try simp only [Act.put, List.setIfInBounds_toArray, List.set_cons_zero, List.set_cons_succ]
                              refine wpAnyH_take (i := 12) (oi := _) (v := ?_) (by simp only [List.getElem?_toArray, List.getElem?_cons_succ, List.getElem?_cons_zero]; rfl) (by kernel_rfl) (by kernel_rfl) (by kernel_rfl) (by exact fun _ _ _ h => h) (Or.inl ⟨by rfl, ?_⟩) (by assumption) ?_
                              rotate_left
                              · intro w hSw
                                try dsimp only at hSw
                                obtain ⟨⟨q1, h1⟩, c5, -⟩ := HF _ hSw
                                clear hSw
                                go_simp
                                try with_reducible rfl
                              try simp only [Act.put, List.setIfInBounds_toArray, List.set_cons_zero, List.set_cons_succ]
                              refine wpAnyH_ready (rs := [14]) (by kernel_rfl) (by simp) ?_
                              refine AllReadyH.cons (o := _) (by simp only [List.getElem?_toArray, List.getElem?_cons_succ, List.getElem?_cons_zero]; rfl) (fun K hK => ?_) AllReadyH.nil
                              go_simp
                              try dsimp only at hHeld
                              obtain ⟨hZ, hS⟩ := al_fill hHeld hN hNg i8
                              try go_wp2_with fail
                              refine hK.out _ _ ?_ (fun hHeld => ?_)
                              · exact hS
                              clear hK K
                              try simp only [Act.put, List.setIfInBounds_toArray, List.set_cons_zero, List.set_cons_succ]
                              refine wpAnyH_take (i := 15) (oi := _) (v := ?_) (by simp only [List.getElem?_toArray, List.getElem?_cons_succ, List.getElem?_cons_zero]; rfl) (by kernel_rfl) (by kernel_rfl) (by kernel_rfl) (by exact fun _ _ _ h => h) (Or.inl ⟨by rfl, ?_⟩) (by assumption) ?_
                              rotate_left
                              · intro w hSw
                                try dsimp only at hSw
                                obtain ⟨⟨q1, h1⟩, c5, -⟩ := HF _ hSw
                                clear hSw
                                go_simp
                                try with_reducible rfl
                              try simp only [Act.put, List.setIfInBounds_toArray, List.set_cons_zero, List.set_cons_succ]
                              refine wpAnyH_done (by kernel_rfl) ?_ _
                              refine NoPanic.normal ?_
                              try dsimp only at hHeld
                              go_wp2_with fail
                              go_meet
                              exact ⟨_, rfl, rfl, hNg, hZ, hHeld⟩
                            exact AllReadyH.nil
                          refine AllReadyH.cons (o := _) (by simp only [List.getElem?_toArray, List.getElem?_cons_succ, List.getElem?_cons_zero]; rfl) (fun K hK => ?_) ?_
                          · go_simp
                            try dsimp only at hHeld
                            obtain ⟨hN, hNg, hNb, rm⟩ := al_new hHeld
                            try change IBlk _ wb.heap.size _ _ at hN
                            try change Room _ wb.heap.size 0 8 at rm
                            try change wb.heap.size ≤ wb.heap.size at hNg
                            try go_wp2_with fail
                            refine hK.out _ _ ?_ (fun hHeld => ?_)
                            · exact hNb
                            clear hK K
                            try simp only [Act.put, List.setIfInBounds_toArray, List.set_cons_zero, List.set_cons_succ]
                            refine wpAnyH_ready (rs := [8]) (by kernel_rfl) (by simp) ?_
                            refine AllReadyH.cons (o := _) (by simp only [List.getElem?_toArray, List.getElem?_cons_succ, List.getElem?_cons_zero]; rfl) (fun K hK => ?_) AllReadyH.nil
                            go_simp
                            try dsimp only at hHeld
                            go_at_call 16
                            (with_reducible refine (HC _ (HF _ hHeld).2.2).mono ?_)
                            rintro x5 w5 ⟨rfl, hx5⟩
                            have hh5 := hHeld.trans (hx5.mono hHeld.size)
                            try (have ⟨hN', rm'⟩ := al_next hN hx5; clear hN rm; have hN := hN'; have rm := rm'; clear hN' rm')
                            try go_wp2_with fail
                            refine hK.out _ _ ?_ (fun hHeld => ?_)
                            · exact hh5
                            clear hK K
                            try simp only [Act.put, List.setIfInBounds_toArray, List.set_cons_zero, List.set_cons_succ]
                            refine wpAnyH_ready (rs := [9]) (by kernel_rfl) (by simp) ?_
                            refine AllReadyH.cons (o := _) (by simp only [List.getElem?_toArray, List.getElem?_cons_succ, List.getElem?_cons_zero]; rfl) (fun K hK => ?_) AllReadyH.nil
                            go_simp
                            try dsimp only at hHeld
                            go_at_call 15
                            (with_reducible refine (HA _).mono ?_)
                            rintro x5 w5 ⟨rfl, hx5⟩
                            have hh5 := hHeld.trans (hx5.mono hHeld.size)
                            try (have ⟨hN', rm'⟩ := al_next hN hx5; clear hN rm; have hN := hN'; have rm := rm'; clear hN' rm')
                            try go_wp2_with fail
                            refine hK.out _ _ ?_ (fun hHeld => ?_)
                            · exact hh5
                            clear hK K
                            try simp only [Act.put, List.setIfInBounds_toArray, List.set_cons_zero, List.set_cons_succ]
                            refine wpAnyH_take (i := 10) (oi := _) (v := ?_) (by simp only [List.getElem?_toArray, List.getElem?_cons_succ, List.getElem?_cons_zero]; rfl) (by kernel_rfl) (by kernel_rfl) (by kernel_rfl) (by exact fun _ _ _ h => h) (Or.inl ⟨by rfl, ?_⟩) (by assumption) ?_
                            rotate_left
                            · intro w hSw
                              try dsimp only at hSw
                              obtain ⟨⟨q1, h1⟩, c5, -⟩ := HF _ hSw
                              clear hSw
                              go_simp
                              try with_reducible rfl
                            try simp only [Act.put, List.setIfInBounds_toArray, List.set_cons_zero, List.set_cons_succ]
                            refine wpAnyH_take (i := 11) (oi := _) (v := ?_) (by simp only [List.getElem?_toArray, List.getElem?_cons_succ, List.getElem?_cons_zero]; rfl) (by kernel_rfl) (by kernel_rfl) (by kernel_rfl) (by exact fun _ _ _ h => h) (Or.inl ⟨by rfl, ?_⟩) (by assumption) ?_
                            rotate_left
                            · intro w hSw
                              try dsimp only at hSw
                              obtain ⟨⟨q1, h1⟩, c5, -⟩ := HF _ hSw
                              clear hSw
                              go_simp
                              try with_reducible rfl
                            try simp only [Act.put, List.setIfInBounds_toArray, List.set_cons_zero, List.set_cons_succ]
                            refine wpAnyH_take (i := 12) (oi := _) (v := ?_) (by simp only [List.getElem?_toArray, List.getElem?_cons_succ, List.getElem?_cons_zero]; rfl) (by kernel_rfl) (by kernel_rfl) (by kernel_rfl) (by exact fun _ _ _ h => h) (Or.inl ⟨by rfl, ?_⟩) (by assumption) ?_
                            rotate_left
                            · intro w hSw
                              try dsimp only at hSw
                              obtain ⟨⟨q1, h1⟩, c5, -⟩ := HF _ hSw
                              clear hSw
                              go_simp
                              try with_reducible rfl
                            try simp only [Act.put, List.setIfInBounds_toArray, List.set_cons_zero, List.set_cons_succ]
                            refine wpAnyH_ready (rs := [14]) (by kernel_rfl) (by simp) ?_
                            refine AllReadyH.cons (o := _) (by simp only [List.getElem?_toArray, List.getElem?_cons_succ, List.getElem?_cons_zero]; rfl) (fun K hK => ?_) AllReadyH.nil
                            go_simp
                            try dsimp only at hHeld
                            obtain ⟨hZ, hS⟩ := al_fill hHeld hN hNg i8
                            try go_wp2_with fail
                            refine hK.out _ _ ?_ (fun hHeld => ?_)
                            · exact hS
                            clear hK K
                            try simp only [Act.put, List.setIfInBounds_toArray, List.set_cons_zero, List.set_cons_succ]
                            refine wpAnyH_take (i := 15) (oi := _) (v := ?_) (by simp only [List.getElem?_toArray, List.getElem?_cons_succ, List.getElem?_cons_zero]; rfl) (by kernel_rfl) (by kernel_rfl) (by kernel_rfl) (by exact fun _ _ _ h => h) (Or.inl ⟨by rfl, ?_⟩) (by assumption) ?_
                            rotate_left
                            · intro w hSw
                              try dsimp only at hSw
                              obtain ⟨⟨q1, h1⟩, c5, -⟩ := HF _ hSw
                              clear hSw
                              go_simp
                              try with_reducible rfl
                            try simp only [Act.put, List.setIfInBounds_toArray, List.set_cons_zero, List.set_cons_succ]
                            refine wpAnyH_done (by kernel_rfl) ?_ _
                            refine NoPanic.normal ?_
                            try dsimp only at hHeld
                            go_wp2_with fail
                            go_meet
                            exact ⟨_, rfl, rfl, hNg, hZ, hHeld⟩
                          exact AllReadyH.nil
                        refine AllReadyH.cons (o := _) (by simp only [List.getElem?_toArray, List.getElem?_cons_succ, List.getElem?_cons_zero]; rfl) (fun K hK => ?_) ?_
                        · go_simp
                          try dsimp only at hHeld
                          obtain ⟨hN, hNg, hNb, rm⟩ := al_new hHeld
                          try change IBlk _ wb.heap.size _ _ at hN
                          try change Room _ wb.heap.size 0 8 at rm
                          try change wb.heap.size ≤ wb.heap.size at hNg
                          try go_wp2_with fail
                          refine hK.out _ _ ?_ (fun hHeld => ?_)
                          · exact hNb
                          clear hK K
                          try simp only [Act.put, List.setIfInBounds_toArray, List.set_cons_zero, List.set_cons_succ]
                          refine wpAnyH_ready (rs := [6]) (by kernel_rfl) (by simp) ?_
                          refine AllReadyH.cons (o := _) (by simp only [List.getElem?_toArray, List.getElem?_cons_succ, List.getElem?_cons_zero]; rfl) (fun K hK => ?_) AllReadyH.nil
                          go_simp
                          try dsimp only at hHeld
                          go_at_call 11
                          (with_reducible refine (HB _ (HF _ hHeld).2.2).mono ?_)
                          rintro x5 w5 ⟨rfl, hx5⟩
                          have hh5 := hHeld.trans (hx5.mono hHeld.size)
                          try (have ⟨hN', rm'⟩ := al_next hN hx5; clear hN rm; have hN := hN'; have rm := rm'; clear hN' rm')
                          try go_wp2_with fail
                          refine hK.out _ _ ?_ (fun hHeld => ?_)
                          · exact hh5
                          clear hK K
                          try simp only [Act.put, List.setIfInBounds_toArray, List.set_cons_zero, List.set_cons_succ]
                          refine wpAnyH_ready (rs := [8]) (by kernel_rfl) (by simp) ?_
                          refine AllReadyH.cons (o := _) (by simp only [List.getElem?_toArray, List.getElem?_cons_succ, List.getElem?_cons_zero]; rfl) (fun K hK => ?_) AllReadyH.nil
                          go_simp
                          try dsimp only at hHeld
                          go_at_call 16
                          (with_reducible refine (HC _ (HF _ hHeld).2.2).mono ?_)
                          rintro x5 w5 ⟨rfl, hx5⟩
                          have hh5 := hHeld.trans (hx5.mono hHeld.size)
                          try (have ⟨hN', rm'⟩ := al_next hN hx5; clear hN rm; have hN := hN'; have rm := rm'; clear hN' rm')
                          try go_wp2_with fail
                          refine hK.out _ _ ?_ (fun hHeld => ?_)
                          · exact hh5
                          clear hK K
                          try simp only [Act.put, List.setIfInBounds_toArray, List.set_cons_zero, List.set_cons_succ]
                          refine wpAnyH_ready (rs := [9]) (by kernel_rfl) (by simp) ?_
                          refine AllReadyH.cons (o := _) (by simp only [List.getElem?_toArray, List.getElem?_cons_succ, List.getElem?_cons_zero]; rfl) (fun K hK => ?_) AllReadyH.nil
                          go_simp
                          try dsimp only at hHeld
                          go_at_call 15
                          (with_reducible refine (HA _).mono ?_)
                          rintro x5 w5 ⟨rfl, hx5⟩
                          have hh5 := hHeld.trans (hx5.mono hHeld.size)
                          try (have ⟨hN', rm'⟩ := al_next hN hx5; clear hN rm; have hN := hN'; have rm := rm'; clear hN' rm')
                          try go_wp2_with fail
                          refine hK.out _ _ ?_ (fun hHeld => ?_)
                          · exact hh5
                          clear hK K
                          try simp only [Act.put, List.setIfInBounds_toArray, List.set_cons_zero, List.set_cons_succ]
                          refine wpAnyH_take (i := 10) (oi := _) (v := ?_) (by simp only [List.getElem?_toArray, List.getElem?_cons_succ, List.getElem?_cons_zero]; rfl) (by kernel_rfl) (by kernel_rfl) (by kernel_rfl) (by exact fun _ _ _ h => h) (Or.inl ⟨by rfl, ?_⟩) (by assumption) ?_
                          rotate_left
                          · intro w hSw
                            try dsimp only at hSw
                            obtain ⟨⟨q1, h1⟩, c5, -⟩ := HF _ hSw
                            clear hSw
                            go_simp
                            try with_reducible rfl
                          try simp only [Act.put, List.setIfInBounds_toArray, List.set_cons_zero, List.set_cons_succ]
                          refine wpAnyH_take (i := 11) (oi := _) (v := ?_) (by simp only [List.getElem?_toArray, List.getElem?_cons_succ, List.getElem?_cons_zero]; rfl) (by kernel_rfl) (by kernel_rfl) (by kernel_rfl) (by exact fun _ _ _ h => h) (Or.inl ⟨by rfl, ?_⟩) (by assumption) ?_
                          rotate_left
                          · intro w hSw
                            try dsimp only at hSw
                            obtain ⟨⟨q1, h1⟩, c5, -⟩ := HF _ hSw
                            clear hSw
                            go_simp
                            try with_reducible rfl
                          try simp only [Act.put, List.setIfInBounds_toArray, List.set_cons_zero, List.set_cons_succ]
                          refine wpAnyH_take (i := 12) (oi := _) (v := ?_) (by simp only [List.getElem?_toArray, List.getElem?_cons_succ, List.getElem?_cons_zero]; rfl) (by kernel_rfl) (by kernel_rfl) (by kernel_rfl) (by exact fun _ _ _ h => h) (Or.inl ⟨by rfl, ?_⟩) (by assumption) ?_
                          rotate_left
                          · intro w hSw
                            try dsimp only at hSw
                            obtain ⟨⟨q1, h1⟩, c5, -⟩ := HF _ hSw
                            clear hSw
                            go_simp
                            try with_reducible rfl
                          try simp only [Act.put, List.setIfInBounds_toArray, List.set_cons_zero, List.set_cons_succ]
                          refine wpAnyH_ready (rs := [14]) (by kernel_rfl) (by simp) ?_
                          refine AllReadyH.cons (o := _) (by simp only [List.getElem?_toArray, List.getElem?_cons_succ, List.getElem?_cons_zero]; rfl) (fun K hK => ?_) AllReadyH.nil
                          go_simp
                          try dsimp only at hHeld
                          obtain ⟨hZ, hS⟩ := al_fill hHeld hN hNg i8
                          try go_wp2_with fail
                          refine hK.out _ _ ?_ (fun hHeld => ?_)
                          · exact hS
                          clear hK K
                          try simp only [Act.put, List.setIfInBounds_toArray, List.set_cons_zero, List.set_cons_succ]
                          refine wpAnyH_take (i := 15) (oi := _) (v := ?_) (by simp only [List.getElem?_toArray, List.getElem?_cons_succ, List.getElem?_cons_zero]; rfl) (by kernel_rfl) (by kernel_rfl) (by kernel_rfl) (by exact fun _ _ _ h => h) (Or.inl ⟨by rfl, ?_⟩) (by assumption) ?_
                          rotate_left
                          · intro w hSw
                            try dsimp only at hSw
                            obtain ⟨⟨q1, h1⟩, c5, -⟩ := HF _ hSw
                            clear hSw
                            go_simp
                            try with_reducible rfl
                          try simp only [Act.put, List.setIfInBounds_toArray, List.set_cons_zero, List.set_cons_succ]
                          refine wpAnyH_done (by kernel_rfl) ?_ _
                          refine NoPanic.normal ?_
                          try dsimp only at hHeld
                          go_wp2_with fail
                          go_meet
                          exact ⟨_, rfl, rfl, hNg, hZ, hHeld⟩
                        exact AllReadyH.nil
                      case rest =>
                      clear HA HB HC HF
                      obtain ⟨pz, rfl, rfl, hpz, hz, hbc⟩ := hcut
                      have hOC := hOC0.next hbc
                      clear hOC0 hbc hxC
                      have hcV := hOC.vw.whole (show (zV v).length = 7 from zV_length hvl)
                      rw [← HZ.out] at HM hcV
                      obtain ⟨q1, h1⟩ := hcV
                      generalize hbt : v.m.testBit q = bt at HM
                      clear hbt
                      cases hb with
                      | false =>
                        go_wp2_with fail
                        go_roundw
                        exact ⟨i + 1, s, ch, gs, by omega, by omega, by omega, hInv, by first | rfl | push_cast; rfl, hOC⟩
                        show n2 - ((i : Int) + 1).toNat < n2 - (i : Int).toNat
                        go_light
                        omega
                      | true =>
                        go_wp2_with fail
                        (with_reducible refine (HM wc).mono ?_)
                        rintro e w6 ⟨rfl, hb6⟩
                        have hOD := hOC.next hb6
                        have hzD := hz.below hb6 hz.lt
                        clear hOC hz hb6 HM q1 h1
                        cases bt with
                        | false =>
                          go_wp2_with fail
                          go_roundw
                          exact ⟨i + 1, s, ch, gs, by omega, by omega, by omega, hInv, by first | rfl | push_cast; rfl, hOD⟩
                          show n2 - ((i : Int) + 1).toNat < n2 - (i : Int).toNat
                          go_light
                          omega
                        | true =>
                          have HI2 := hide (hI2 (by trivial))
                          clear hI2
                          obtain ⟨q1, h1⟩ := hzD.whole i8
                          have rm := hOD.ac.room (q * 8) 8 (by rw [fl_len (accF_len s)]; omega)
                          have hOE := hOD.acc hq5 (putA (s.acc q) ep (s.vt j).r (s.vt j).w k6 k7 k8)
                          rw [← HZA.out.1] at hOE
                          go_upto_region 48 with fail
                          clear hOD hzD q1 h1 rm
                          generalize w6.setCells p7 (q * 8) (iV zA) = w7 at hOE
                          obtain ⟨g11, k11, rest11, rfl, _, hk11, hb11⟩ := own_open hOE.o2 (by omega)
                          have hmq : j * 5 + q < s.n * 5 := by omega
                          have hcc : (fl (s.n * 5) (tokF s) ++ rest11)[j * 5 + q]? = some (.bool (s.tk j q)) := by
                            rw [List.getElem?_append_left (by rw [fl_len (tokF_len s _)]; omega)]
                            have h1 := fl_get (tokF_len s (s.n * 5)) hmq
                            rw [Nat.mul_one] at h1
                            have h2 : ((fl (s.n * 5) (tokF s)).drop (j * 5 + q))[0]? = some (.bool (s.tk j q)) := by
                              have h3 : (((fl (s.n * 5) (tokF s)).drop (j * 5 + q)).take 1)[0]? = (tokF s (j * 5 + q))[0]? := congrArg (fun l => l[0]?) h1
                              rw [List.getElem?_take_of_lt (by decide)] at h3
                              rw [h3]
                              show some (Value.bool (s.tk ((j * 5 + q) / 5) ((j * 5 + q) % 5))) = _
                              rw [show (j * 5 + q) / 5 = j by omega, show (j * 5 + q) % 5 = q by omega]
                            rwa [List.getElem?_drop, Nat.add_zero] at h2
                          have cc := hb11.cellAt hcc
                          have cf := hb11.frozen (j * 5 + q)
                          have hOF := hOE.tok hjn hq5 rfl
                          clear hb11 hcc hOE hmq
                          go_wp2_with fail
                          go_roundw
                          exact ⟨i + 1, putS s j q (putA (s.acc q) ep (s.vt j).r (s.vt j).w k6 k7 k8), ch, gs, by omega, Nat.le_succ_of_le hsn, by omega, HI2.out, by first | rfl | push_cast; rfl, hOF⟩
                          show n2 - ((i : Int) + 1).toNat < n2 - (i : Int).toNat
                          go_light
                          omega
                  · obtain rfl : kd = 4 := by omega
                    as_aux_lemma =>
                    obtain ⟨g11, k11, rest11, rfl, _, hk11, hb11⟩ := own_open hOB.o2 (by omega)
                    have hmq : j * 5 + q < s.n * 5 := by omega
                    have hcc : (fl (s.n * 5) (tokF s) ++ rest11)[j * 5 + q]? = some (.bool (s.tk j q)) := by
                      rw [List.getElem?_append_left (by rw [fl_len (tokF_len s _)]; omega)]
                      have h1 := fl_get (tokF_len s (s.n * 5)) hmq
                      rw [Nat.mul_one] at h1
                      have h2 : ((fl (s.n * 5) (tokF s)).drop (j * 5 + q))[0]? = some (.bool (s.tk j q)) := by
                        have h3 : (((fl (s.n * 5) (tokF s)).drop (j * 5 + q)).take 1)[0]? = (tokF s (j * 5 + q))[0]? := congrArg (fun l => l[0]?) h1
                        rw [List.getElem?_take_of_lt (by decide)] at h3
                        rw [h3]
                        show some (Value.bool (s.tk ((j * 5 + q) / 5) ((j * 5 + q) % 5))) = _
                        rw [show (j * 5 + q) / 5 = j by omega, show (j * 5 + q) % 5 = q by omega]
                      rwa [List.getElem?_drop, Nat.add_zero] at h2
                    have cc := hb11.cellAt hcc
                    clear hb11 hcc hmq
                    cases htk : s.tk j q with
                    | false =>
                      rw [htk] at cc
                      clear htk
                      go_wp2_with fail
                      go_roundw
                      exact ⟨i + 1, s, ch, gs, by omega, by omega, by omega, hInv, by first | rfl | push_cast; rfl, hOB⟩
                      show n2 - ((i : Int) + 1).toNat < n2 - (i : Int).toNat
                      go_light
                      omega
                    | true =>
                      rw [htk] at cc
                      have hI2 := hInv.taker hjn htk
                      have hxtok : (takV (s.vt j) (q : Int) (s.vt j).r (s.vt j).w).Ok := hok.tak
                      have HB := fun W h => vBallot_any (s.vt j) hok gj W h
                      have HTW := fun W h => vTaken_any (s.vt j) hok wx (q : Int) (s.vt j).r (s.vt j).w wx gj W h
                      clear htk
                      generalize takV (s.vt j) (q : Int) (s.vt j).r (s.vt j).w = xt at HTW hI2 hxtok
                      generalize takB (s.vt j) (q : Int) (s.vt j).r (s.vt j).w = tb at HTW hI2
                      have HC := fun W h => vChange_any xt hxtok gj W h
                      have xcl := hxtok.c
                      have HI2 := hide hI2
                      clear hI2
                      generalize hcy : xt.c = cy at HC xcl
                      have HCY := hide hcy
                      clear hcy
                      go_wp2_with fail
                      (with_reducible refine (HB wb hxj).mono ?_)
                      rintro e w5 ⟨rfl, hb5⟩
                      have hOC := hOB.next hb5
                      have hxC := hxj.below hb5 hxj.lt
                      clear hOB hxj hb5 cc HB
                      go_wp2_with fail
                      (with_reducible refine (HTW w5 hxC).mono ?_)
                      rintro e w6 ⟨rfl, hI6, hk6⟩
                      have hOD := hOC.vote hjn hgj hI6 hk6
                      clear hOC hxC hk6 HTW
                      cases tb with
                      | false =>
                        go_wp2_with fail
                        go_roundw
                        exact ⟨i + 1, setVt s j xt, ch, gs, by omega, Nat.le_succ_of_le hsn, by omega, HI2.out, by first | rfl | push_cast; rfl, hOD⟩
                        show n2 - ((i : Int) + 1).toNat < n2 - (i : Int).toNat
                        go_light
                        omega
                      | true =>
                        go_wp2_with fail
                        (with_reducible refine (HC w6 hI6).mono ?_)
                        rintro e w7 ⟨rfl, hb7⟩
                        have hOE := hOD.next hb7
                        clear hOD hI6 hb7 HC
                        have i3 : Is 3 cy := xcl
                        have hnc : ch.length ≤ 900 := by omega
                        obtain ⟨v13', w8, ha8, hp8, ho8, gr8, nb8⟩ := ap_new (s := 22) (z := .agg (iA (zeros 3))) (size := 3) (bytes := 24) Try.underlying22 (by kernel_rfl) rfl (by decide) (by decide) hOE.o4 (us := iV cy) ⟨by rw [iV_length]; exact xcl, iV_one _⟩ hnc hOE.under.size
                        change HasAp _ (w7.alloc (.cells (iA cy) 33)) _ _ at ha8
                        change apP _ (w7.alloc (.cells (iA cy) 33)) _ _ = _ at hp8
                        have hOF := (hOE.next ((Below.refl w7.heap.size w7).alloc (Nat.le_refl _) (.cells (iA cy) 33))).addChosen (x := cy) ho8 gr8 nb8
                        clear hOE ho8 gr8 nb8
                        go_wp2_with fail
                        go_roundw
                        exact ⟨i + 1, setVt s j xt, ch ++ [cy], gs, by omega, Nat.le_succ_of_le hsn, by rw [List.length_append]; exact Nat.succ_le_succ hcl, by rw [← HCY.out]; exact HI2.out, by first | rfl | push_cast; rfl, hOF⟩
                        show n2 - ((i : Int) + 1).toNat < n2 - (i : Int).toNat
                        go_light
                        omega
        · have e1 : ¬ (i : Int) < (n2 : Int) := by omega
          as_aux_lemma =>
          obtain ⟨A13, k13, h13, _, _⟩ := own_len hOn.o4
          subst h13
          have hch : ∀ c ∈ ch, c.length = 3 ∧ wf64 c := fun c hc => by
            obtain ⟨j, m, hj, rfl, _⟩ := hInv.chosen c hc
            obtain ⟨h1, _, _, _, h2⟩ := hInv.vts j hj
            exact ⟨h1.c, h2⟩
          have hget : ∀ t, t < ch.length → ch.getD t [] ∈ ch := fun t ht => by
            rw [List.getD_eq_getElem?_getD, List.getElem?_eq_getElem ht]
            exact List.getElem_mem ht
          have hall : ∀ t, t < ch.length → ch.getD t [] = ch.getD 0 [] := fun t ht => hInv.once _ (hget t ht) _ (hget 0 (by omega))
          have hlen : ∀ t, t < ch.length → (iV (ch.getD t [])).length = 3 := fun t ht => by rw [iV_length]; exact (hch _ (hget t ht)).1
          go_wp2_with fail
          go_loopw [230] (fun s230 wx => ∃ t : Nat, t ≤ ch.length ∧ s230 = .int .i64 (t : Int) ∧ On w p5 p7 u9 u10 u11 u12 (.slice A13 ch.length k13) gs v s ch s.n s.n s.n s.n wx) (fun s230 _ => ch.length - (intOf s230).toNat)
          case atStart => exact ⟨0, Nat.zero_le _, rfl, hOn⟩
          case round =>
            clear hOn
            obtain ⟨t, ht, rfl, hOn⟩ := hrel
            rename World => wx
            by_cases htl : t < ch.length
            · have e2 : (t : Int) < (ch.length : Int) := by omega
              obtain ⟨g13, k13', rest13, h13, _, hk13, hb13⟩ := own_open hOn.o4 (by omega)
              injection h13 with ha hb hc
              subst ha
              subst hc
              have hc0 := hch _ (hget 0 (by omega))
              have hrow : ∀ r, r < ch.length → rowAt wx g13 (r * 3) 3 = iA (ch.getD 0 []) ∧ HasRow wx g13 (r * 3) 3 := fun r hr => by
                have h := hb13.got (r * 3) 3 (by rw [List.length_append, fl_len hlen]; omega)
                rw [List.drop_append_of_le_length (by rw [fl_len hlen]; omega), List.take_append_of_le_length (by rw [List.length_drop, fl_len hlen]; omega), fl_get hlen hr, hall r hr] at h
                exact h
              obtain ⟨q1, h1⟩ := hrow t htl
              obtain ⟨q0, h0⟩ := hrow 0 (by omega)
              rw [Nat.zero_mul] at q0 h0
              have hgl := hb13.lt
              have HEQ := fun w => Try.eqChg hc0.1 hc0.1 hc0.2 hc0.2 w
              rw [show decide (ch.getD 0 [] = ch.getD 0 []) = true from decide_eq_true rfl] at HEQ
              obtain ⟨c0l, _⟩ := hc0
              clear hrow hb13
              generalize ch.getD 0 [] = c0 at q1 q0 HEQ c0l
              have i3 : Is 3 c0 := c0l
              obtain ⟨rm, hC, hO, hB⟩ := lay (t := 33) (Below.refl wx.heap.size wx) c0l (Nat.le_refl _)
              have hOC := hOn.next hB
              have hcl0 := (@own_open _ _ _ _ _ _ _ hOC.o4 (by omega))
              have hr0 : ∀ W, Below wx.heap.size wx W → rowAt W g13 0 3 = iA c0 ∧ HasRow W g13 0 3 := fun W h => by
                have hcell : ∀ j, W.cell? ⟨g13, 0 + j, none⟩ = wx.cell? ⟨g13, 0 + j, none⟩ := fun j => h.cell hgl
                exact ⟨by rw [← q0]; unfold rowAt; simp only [hcell], fun j hj => by rw [hcell]; exact h0 j hj⟩
              go_upto_region 53 with fail
              clear hOn hO q1 h1 rm hcl0
              generalize hpz : wx.heap.size = pz at hC
              have HB2 := hide hB
              have q2 : ∀ k, rowAt (((wx.alloc (.cells (iA (zeros 3)) 33)).setCells wx.heap.size 0 (iV c0)).drewN k) g13 0 3 = iA c0 := fun k => (hr0 _ hB).1
              have h2 : ∀ k, HasRow (((wx.alloc (.cells (iA (zeros 3)) 33)).setCells wx.heap.size 0 (iV c0)).drewN k) g13 0 3 := fun k => (hr0 _ hB).2
              rw [hpz] at q2 h2 hB hOC
              clear HB2 hr0
              generalize (wx.alloc (.cells (iA (zeros 3)) 33)).setCells pz 0 (iV c0) = wy at *
              clear hB hpz
              have q3 : ∀ k, rowAt (wy.drewN k) pz 0 3 = iA c0 := fun k => (hC.whole c0l).1
              have h3 : ∀ k, HasRow (wy.drewN k) pz 0 3 := fun k => (hC.whole c0l).2
              go_quiet (fail)
              change Exit.then _ _ _ _ (wy.drewN nq)
              have hOD := hOC.drewN nq
              clear q0 h0 q2 h2 q3 h3 hC hOC
              generalize wy.drewN nq = wz at hOD ⊢
              go_wp2_with fail
              go_roundw
              exact ⟨t + 1, by omega, by first | rfl | push_cast; rfl, hOD⟩
              show ch.length - ((t : Int) + 1).toNat < ch.length - (t : Int).toNat
              go_light
              omega
            · have e2 : ¬ (t : Int) < (ch.length : Int) := by omega
              go_wp2_with fail
              go_ret
              exact ⟨rfl, hOn.under⟩
end Go.Proofs.Ytoknodkgmeinmaa.voteOnce
