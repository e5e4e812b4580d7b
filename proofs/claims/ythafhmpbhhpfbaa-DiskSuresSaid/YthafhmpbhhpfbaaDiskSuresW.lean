/- The walk of DiskSures: it returns true at all arguments and leaves what was there as it was. -/
import Derived.Test.YthafhmpbhhpfbaaDskA
namespace Go.Proofs.Ythafhmpbhhpfbaa.diskSures
open Go.RowKit Go.Maps

attribute [local go_sem ↓] loadS_fold storeS_fold allocS_fold lookS_fold putS_fold sliceS_fold copyS_fold eqS_fold buildS_fold
attribute [local go_sem] loadS_has storeS_has allocS_run eqS_run buildS_none

/-! ### plain: what is written, sure, and left by a crash -/
/-- The first so many of such writes, from a number on. -/
def wsN (o : Nat) (b : Nat → List Int) (k : Nat) : List (Int × List Int) := (List.range k).map fun j => (((o + j : Nat) : Int), b j)
theorem wsN_len (o : Nat) (b : Nat → List Int) (k : Nat) : (wsN o b k).length = k := by simp [wsN]
theorem wsN_succ (o : Nat) (b : Nat → List Int) (k : Nat) : wsN o b (k + 1) = wsN o b k ++ [(((o + k : Nat) : Int), b k)] := by simp [wsN, List.range_succ]
theorem wsN_at {o : Nat} {b : Nat → List Int} {k j : Nat} (h : j < k) : (wsN o b k).getD j (0, []) = (((o + j : Nat) : Int), b j) := by simp [wsN, List.getD, h]
theorem sync_at (f : Int → List Int) (o : Nat) (b : Nat → List Int) : ∀ (k i : Nat), i < k → syncF f (wsN o b k) ((o + i : Nat) : Int) = b i
  | 0, i, h => by omega
  | k + 1, i, h => by
    unfold syncF
    rw [wsN_succ, List.foldl_append]
    show updF (syncF f (wsN o b k)) _ _ _ = _
    unfold updF
    split
    · rename_i e
      have : i = k := by simp only at e; omega
      rw [this]
    · rename_i e
      exact sync_at f o b k i (by simp only at e; omega)
theorem sync_off (f : Int → List Int) (o : Nat) (b : Nat → List Int) (y : Int) : ∀ k, (∀ j, j < k → y ≠ ((o + j : Nat) : Int)) → syncF f (wsN o b k) y = f y
  | 0, _ => rfl
  | k + 1, h => by
    unfold syncF
    rw [wsN_succ, List.foldl_append]
    show updF (syncF f (wsN o b k)) _ _ _ = _
    unfold updF
    rw [if_neg (h k (by omega))]
    exact sync_off f o b y k fun j hj => h j (by omega)
theorem crash_off (mask torn : Int) (q : Nat) (f : Int → List Int) (o : Nat) (b : Nat → List Int) (m : Nat) (y : Int) : ∀ k, k ≤ m → (∀ j, j < k → y ≠ ((o + j : Nat) : Int)) → crashF mask torn q (wsN o b m) f k y = f y
  | 0, _, _ => rfl
  | k + 1, hk, h => by
    have ih := crash_off mask torn q f o b m y k (by omega) fun j hj => h j (by omega)
    rw [crashF, wsN_at (by omega)]
    unfold crashStep
    have hy := h k (by omega)
    split
    · unfold updF; rw [if_neg hy]; exact ih
    · split
      · unfold updF; rw [if_neg hy]; exact ih
      · exact ih
theorem crash_at (mask torn : Int) (q : Nat) (f : Int → List Int) (o : Nat) (b : Nat → List Int) (m i : Nat) (hi : i < m) (ht : (i : Int) ≠ torn) : ∀ k, i < k → k ≤ m → crashF mask torn q (wsN o b m) f k ((o + i : Nat) : Int) = b i ∨ crashF mask torn q (wsN o b m) f k ((o + i : Nat) : Int) = f ((o + i : Nat) : Int)
  | 0, h, _ => by omega
  | k + 1, h, hk => by
    rw [crashF, wsN_at (by omega)]
    by_cases e : i = k
    · subst e
      have ih := crash_off mask torn q f o b m ((o + i : Nat) : Int) i (by omega) fun j hj => by omega
      unfold crashStep
      rw [if_neg ht]
      split
      · left; unfold updF; rw [if_pos rfl]
      · right; exact ih
    · have ih := crash_at mask torn q f o b m i hi ht k (by omega) (by omega)
      have hy : ((o + i : Nat) : Int) ≠ ((o + k : Nat) : Int) := by omega
      unfold crashStep
      split
      · unfold updF; rw [if_neg hy]; exact ih
      · split
        · unfold updF; rw [if_neg hy]; exact ih
        · exact ih
theorem wrt_free {x : Int} {f : Int → List Int} {ws : List (Int × List Int)} {l : Int} {zs : List Int} (hx : 0 ≤ x) (hx' : x < 2048) (hz : zs.length ≤ 64) : wrtS x zs ⟨f, ws, false, l, false⟩ = (0, ⟨f, ws ++ [(x, padB zs)], false, l, false⟩) := by
  have e : takS ⟨f, ws, false, l, false⟩ = ⟨f, ws, false, l, false⟩ := by simp [takS]
  unfold wrtS
  rw [if_neg (by omega), e, if_neg (by simp)]
theorem wrt_dn {x : Int} {f : Int → List Int} {ws : List (Int × List Int)} {zs : List Int} (hx : 0 ≤ x) (hx' : x < 2048) (hz : zs.length ≤ 64) : wrtS x zs ⟨f, ws, true, 0, false⟩ = (4, ⟨f, ws, true, 0, true⟩) := by
  have e : takS ⟨f, ws, true, 0, false⟩ = ⟨f, ws, true, 0, true⟩ := by simp [takS]
  unfold wrtS
  rw [if_neg (by omega), e, if_pos rfl]
theorem nil_in (w : World) (B : Nat) : SlIn w B ⟨none, 0, 0, []⟩ := ⟨Reads.none_, Nat.le_refl _, Nat.zero_le _, by simp⟩
set_option maxRecDepth 100000 in
set_option maxHeartbeats 25600000 in
theorem walk (w : World) (A : Option Addr) (n c : Nat) (F : Nat → Sl) (hR : Sls w w.heap.size A n F) (_ : n ≤ c) (_ : c ≤ maxLen) (A' : Option Addr) (m c' : Nat) (G : Nat → Sl) (hR' : Sls w w.heap.size A' m G) (_ : m ≤ c') (_ : c' ≤ maxLen) (cr : List Int) (hl : cr.length = 3) (hw : wf64 cr) :
    Calls Try.prog 4 #[.slice A n c, .slice A' m c', .agg (iA cr)] w fun e w' => e = .returned (.bool true) ∧ Below w.heap.size w w' := by
  obtain ⟨mask, torn, cut, rfl⟩ : ∃ a b c, cr = [a, b, c] := by
    match cr, hl with
    | [a, b, c], _ => exact ⟨_, _, _, rfl⟩
  have b1 := bounds_i64 (hw mask (by simp))
  have b2 := bounds_i64 (hw torn (by simp))
  have b3 := bounds_i64 (hw cut (by simp))
  clear hw hl
  have hbox : Below w.heap.size w (w.alloc (.cells (iA [mask, torn, cut]) 44)) := (Below.refl _ _).alloc (Nat.le_refl _) _
  have hI : IBlk (w.alloc (.cells (iA [mask, torn, cut]) 44)) w.heap.size 44 [mask, torn, cut] := IBlk.new _ _ _
  go_enter Try.func4, Try.ntmps4
  go_wp2_with fail
  (with_reducible refine (fit_runs _).mono ?_)
  rintro e w1 ⟨rfl, hb1⟩
  have hI1 := hI.below hb1 hI.lt
  have hb1 := hbox.trans (hb1.mono hbox.size)
  clear hI hbox
  by_cases g1 : 30 < n
  · have d1 : decide ((30 : Int) < (n : Int)) = true := decide_eq_true (by omega)
    go_wp2_with fail
    go_ret
    exact ⟨rfl, hb1⟩
  have d1 : decide ((30 : Int) < (n : Int)) = false := decide_eq_false (by omega)
  by_cases g2 : 30 < m
  · have d2 : decide ((30 : Int) < (m : Int)) = true := decide_eq_true (by omega)
    go_wp2_with fail
    go_ret
    exact ⟨rfl, hb1⟩
  have d2 : decide ((30 : Int) < (m : Int)) = false := decide_eq_false (by omega)
  go_wp2_with fail
  (with_reducible refine (atL_new (w0 := w) (L := fun b => b = w.heap.size) hb1 (fun b e => by rw [e]; exact hI1.lt)).mono ?_)
  rintro e w2 ⟨d, rfl, hAt, hb2⟩
  have hI2 := hI1.below hb2 hI1.lt
  clear hI1 hb1 hb2 d1 d2
  go_wp2_with fail
  go_loopw [30] (fun s30 wr => ∃ i : Nat, i ≤ n ∧ s30 = .int .i64 i ∧ AtL w (fun b => b = w.heap.size) wr d i ⟨fun _ => zs64, wsN 0 (fun j => padB (F j).zs) i, false, 0, false⟩ ∧ (∀ j, j < i → (F j).n ≤ 64) ∧ IBlk wr w.heap.size 44 [mask, torn, cut]) (fun s30 _ => n - (intOf s30).toNat)
  case atStart => exact ⟨0, by omega, rfl, hAt, fun j hj => by omega, hI2⟩
  case round =>
    clear hAt hI2
    obtain ⟨i, hi, rfl, hAt, hF, hI⟩ := hrel
    have hRr := hR.keep hAt.below
    by_cases hlt : i < n
    · have dl : (i : Int) < (n : Int) := by omega
      obtain ⟨b, off, rfl, hbl, hcl⟩ := hRr.at_ (by omega)
      have cx := hcl i hlt
      have hs := hRr.each i hlt
      have hsl := hs.len
      generalize hFi : F i = s at *
      by_cases g3 : s.n ≤ 64
      · have d3 : decide ((64 : Int) < (s.n : Int)) = false := decide_eq_false (by omega)
        have hwr := wrt_free (x := i) (f := fun _ => zs64) (ws := wsN 0 (fun j => padB (F j).zs) i) (l := 0) (zs := s.zs) (by omega) (by omega) (by omega)
        have hws : wsN 0 (fun j => padB (F j).zs) (i + 1) = wsN 0 (fun j => padB (F j).zs) i ++ [((i : Int), padB s.zs)] := by rw [wsN_succ, Nat.zero_add, hFi]
        have hF2 : ∀ j, j < i + 1 → (F j).n ≤ 64 := fun j hj => by
          by_cases e : j = i
          · rw [e, hFi]; exact g3
          · exact hF j (by omega)
        rw [← hws] at hwr
        generalize hw2 : wsN 0 (fun j => padB (F j).zs) (i + 1) = ws2 at *
        have HW2 := hide hw2
        clear hw2
        generalize wsN 0 (fun j => padB (F j).zs) i = ws1 at *
        go_wp2_with fail
        (with_reducible refine (hAt.write (by omega) (i : Int) (by omega) (by omega) hs).mono ?_)
        rintro e w4 ⟨rfl, hAt2, hk⟩
        rw [hwr] at hAt2 ⊢
        have hI2 := hI.only hk (fun e => e rfl)
        have hAt2 := hide hAt2
        have hF2 := hide hF2
        clear hAt hI hk hs cx hcl hRr hws hwr hF
        go_wp2_with fail
        go_roundw
        case rel => go_light; exact ⟨i + 1, by omega, by go_num, by rw [HW2.out]; exact hAt2.out, hF2.out, hI2⟩
        case measure => go_light; simp [intOf]; omega
      · have d3 : decide ((64 : Int) < (s.n : Int)) = true := decide_eq_true (by omega)
        have hb := hAt.below
        clear hAt hI hs hcl hRr hF
        go_wp2_with fail
        go_ret
        exact ⟨rfl, hb⟩
    · obtain rfl : n = i := by omega
      have dl : ¬ ((n : Int) < (n : Int)) := by omega
      have hsy : synS ⟨fun _ => zs64, wsN 0 (fun j => padB (F j).zs) n, false, 0, false⟩ = (0, ⟨syncF (fun _ => zs64) (wsN 0 (fun j => padB (F j).zs) n), [], false, 0, false⟩) := by simp [synS]
      clear hRr
      go_wp2_with fail
      (with_reducible refine (hAt.sync (by omega)).mono ?_)
      rintro e w4 ⟨rfl, hAt2, hk⟩
      rw [hsy] at hAt2 ⊢
      have hI2 := hI.only hk (fun e => e rfl)
      have f1 : ∀ i, i < n → syncF (fun _ => zs64) (wsN 0 (fun j => padB (F j).zs) n) ((i : Nat) : Int) = padB (F i).zs := fun i hi => by
        have := sync_at (fun _ => zs64) 0 (fun j => padB (F j).zs) n i hi
        rwa [Nat.zero_add] at this
      have f2 : ∀ i : Nat, 30 ≤ i → syncF (fun _ => zs64) (wsN 0 (fun j => padB (F j).zs) n) ((i : Nat) : Int) = zs64 := fun i hi => sync_off _ _ _ _ _ fun j hj => by omega
      generalize syncF (fun _ => zs64) (wsN 0 (fun j => padB (F j).zs) n) = fs at *
      have f1 := hide f1
      have f2 := hide f2
      have hF := hide hF
      clear hAt hI hk hsy dl
      go_wp2_with fail
      go_loopw [50] (fun s50 wr => ∃ i : Nat, i ≤ m ∧ s50 = .int .i64 i ∧ AtL w (fun b => b = w.heap.size) wr d (n + i) ⟨fs, wsN 100 (fun j => padB (G j).zs) i, false, 0, false⟩ ∧ (∀ j, j < i → (G j).n ≤ 64) ∧ IBlk wr w.heap.size 44 [mask, torn, cut]) (fun s50 _ => m - (intOf s50).toNat)
      case atStart => exact ⟨0, by omega, rfl, hAt2, fun j hj => by omega, hI2⟩
      case round =>
        clear hAt2 hI2
        obtain ⟨i, hi, rfl, hAt, hG, hI⟩ := hrel
        have hRr := hR'.keep hAt.below
        by_cases hlt : i < m
        · have dl : (i : Int) < (m : Int) := by omega
          obtain ⟨b, off, rfl, hbl, hcl⟩ := hRr.at_ (by omega)
          have cx := hcl i hlt
          have hs := hRr.each i hlt
          have hsl := hs.len
          generalize hGi : G i = s at *
          by_cases g3 : s.n ≤ 64
          · have d3 : decide ((64 : Int) < (s.n : Int)) = false := decide_eq_false (by omega)
            have hwr := wrt_free (x := 100 + (i : Int)) (f := fs) (ws := wsN 100 (fun j => padB (G j).zs) i) (l := 0) (zs := s.zs) (by omega) (by omega) (by omega)
            have hws : wsN 100 (fun j => padB (G j).zs) (i + 1) = wsN 100 (fun j => padB (G j).zs) i ++ [(100 + (i : Int), padB s.zs)] := by rw [wsN_succ, hGi]; rfl
            have hG2 : ∀ j, j < i + 1 → (G j).n ≤ 64 := fun j hj => by
              by_cases e : j = i
              · rw [e, hGi]; exact g3
              · exact hG j (by omega)
            rw [← hws] at hwr
            generalize hw2 : wsN 100 (fun j => padB (G j).zs) (i + 1) = ws2 at *
            have HW2 := hide hw2
            clear hw2
            generalize wsN 100 (fun j => padB (G j).zs) i = ws1 at *
            go_wp2_with fail
            (with_reducible refine (hAt.write (by omega) (100 + (i : Int)) (by omega) (by omega) hs).mono ?_)
            rintro e w4 ⟨rfl, hAt2, hk⟩
            rw [hwr] at hAt2
            have hI2 := hI.only hk (fun e => e rfl)
            have hAt2 := hide hAt2
            have hG2 := hide hG2
            clear hAt hI hk hs cx hcl hRr hws hwr hG
            go_wp2_with fail
            go_roundw
            case rel => go_light; exact ⟨i + 1, by omega, by go_num, by rw [HW2.out]; exact hAt2.out, hG2.out, hI2⟩
            case measure => go_light; simp [intOf]; omega
          · have d3 : decide ((64 : Int) < (s.n : Int)) = true := decide_eq_true (by omega)
            have hb := hAt.below
            clear hAt hI hs hcl hRr hG
            go_wp2_with fail
            go_ret
            exact ⟨rfl, hb⟩
        · obtain rfl : m = i := by omega
          have dl : ¬ ((m : Int) < (m : Int)) := by omega
          clear hRr
          go_wp2_with fail
          (with_reducible refine (hAt.arm 0 (by decide) (by decide)).mono ?_)
          rintro e w4 ⟨⟨v4, rfl⟩, hAt2, hk⟩
          have hI2 := hI.only hk (fun e => e rfl)
          have hAt2 : AtL w (fun b => b = w.heap.size) w4 d (n + m) ⟨fs, wsN 100 (fun j => padB (G j).zs) m, true, 0, false⟩ := hAt2
          have hwd := wrt_dn (x := 5) (f := fs) (ws := wsN 100 (fun j => padB (G j).zs) m) (zs := []) (by decide) (by decide) (by decide)
          go_wp2_with fail
          (with_reducible refine (hAt2.write (by omega) 5 (by decide) (by decide) (nil_in _ _)).mono ?_)
          rintro e w5 ⟨rfl, hAt3, hk3⟩
          rw [hwd] at hAt3
          have hI3 := hI2.only hk3 (fun e => e rfl)
          clear hwd hk3 hk hAt2 hI2 hAt hI
          have hsd : synS ⟨fs, wsN 100 (fun j => padB (G j).zs) m, true, 0, true⟩ = (4, ⟨fs, wsN 100 (fun j => padB (G j).zs) m, true, 0, true⟩) := by simp [synS]
          have hcl : (wsN 100 (fun j => padB (G j).zs) m).length = m := wsN_len _ _ _
          have k1 : ∀ i, i < n → crashF mask torn (cutN cut) (wsN 100 (fun j => padB (G j).zs) m) fs m ((i : Nat) : Int) = padB (F i).zs := fun i hi => by
            rw [crash_off _ _ _ _ _ _ _ _ _ (Nat.le_refl _) (fun j hj => by omega)]
            exact f1.out i hi
          have k2 : ∀ i, i < m → (i : Int) ≠ torn → crashF mask torn (cutN cut) (wsN 100 (fun j => padB (G j).zs) m) fs m (100 + (i : Int)) = padB (G i).zs ∨ crashF mask torn (cutN cut) (wsN 100 (fun j => padB (G j).zs) m) fs m (100 + (i : Int)) = zs64 := fun i hi ht => by
            have h1 := crash_at mask torn (cutN cut) fs 100 (fun j => padB (G j).zs) m i hi ht m hi (Nat.le_refl _)
            rw [f2.out (100 + i) (by omega)] at h1
            exact h1
          have hcr : craS mask torn cut ⟨fs, wsN 100 (fun j => padB (G j).zs) m, true, 0, true⟩ = ⟨crashF mask torn (cutN cut) (wsN 100 (fun j => padB (G j).zs) m) fs m, [], false, 0, false⟩ := by unfold craS; rw [hcl]
          generalize hf3 : crashF mask torn (cutN cut) (wsN 100 (fun j => padB (G j).zs) m) fs m = f3 at *
          have k1 := hide k1
          have k2 := hide k2
          have hcr := hide hcr
          have hG := hide hG
          clear hf3 f1 f2 hcl
          generalize wsN 100 (fun j => padB (G j).zs) m = wsm at *
          go_upto_region 22 with fail
          go_cut [75] (fun s75 wx => s75 = .bool false ∧ AtL w (fun b => b = w.heap.size) wx d (n + m + 1) ⟨fs, wsm, true, 0, true⟩ ∧ IBlk wx w.heap.size 44 [mask, torn, cut])
          case first =>
            by_cases gm : 0 < m
            · have dm : decide ((0 : Int) < (m : Int)) = true := decide_eq_true (by omega)
              go_wp2_with fail
              (with_reducible refine (hAt3.sync (by omega)).mono ?_)
              rintro e w6 ⟨rfl, hAt4, hk4⟩
              rw [hsd] at hAt4 ⊢
              have hI4 := hI3.only hk4 (fun e => e rfl)
              clear hAt3 hI3 hk4 hsd
              go_wp2_with fail
              go_meet
              exact ⟨rfl, hAt4, hI4⟩
            · have dm : decide ((0 : Int) < (m : Int)) = false := decide_eq_false (by omega)
              go_wp2_with fail
              go_meet
              exact ⟨rfl, hAt3, hI3⟩
          case rest =>
            clear hAt3 hI3 hsd
            obtain ⟨rfl, hAt, hI⟩ := hcut
            have c0 := hI.cellAt 0 mask rfl
            have c1 := hI.cellAt 1 torn rfl
            have c2 := hI.cellAt 2 cut rfl
            go_wp2_with fail
            (with_reducible refine (hAt.crash (by omega) mask torn cut b1.1 b1.2 b2.1 b2.2 b3.1 b3.2).mono ?_)
            rintro e w6 ⟨⟨v6, rfl⟩, hAt2, hk⟩
            rw [hcr.out] at hAt2
            have hI2 := hI.only hk (fun e => e rfl)
            clear hAt hI hk c0 c1 c2 hcr
            go_wp2_with fail
            go_loopw [86] (fun s86 wr => ∃ i : Nat, i ≤ n ∧ s86 = .int .i64 i ∧ AtL w (fun b => b = w.heap.size) wr d (n + m + 1) ⟨f3, [], false, 0, false⟩ ∧ IBlk wr w.heap.size 44 [mask, torn, cut]) (fun s86 _ => n - (intOf s86).toNat)
            case atStart => exact ⟨0, by omega, rfl, hAt2, hI2⟩
            case round =>
              clear hAt2 hI2
              obtain ⟨i, hi, rfl, hAt, hI⟩ := hrel
              by_cases hlt : i < n
              · have dl : (i : Int) < (n : Int) := by omega
                have hRr := hR.keep hAt.below
                obtain ⟨b, off, rfl, hbl, hcl⟩ := hRr.at_ (by omega)
                have cx := hcl i hlt
                have h1 := k1.out i hlt
                have hg := hF.out i hlt
                have hs := hRr.each i hlt
                clear hRr hcl
                generalize F i = s at *
                have hsec := hs.sect hg
                have hi64 : Key (i : Int) := WalkArith.wf_i64 (by omega)
                go_wp2_with fail
                (with_reducible refine (hAt.read (by omega) hi64).mono ?_)
                rintro e w7 ⟨rfl, hAt2, hb7⟩
                rw [show readF f3 [] (i : Int) = padB s.zs from h1]
                have hI2 := hI.below hb7 hI.lt
                have hs2 : SlIn w7 w.heap.size s := hs.keep (hb7.mono hAt.below.size)
                clear hAt hI hs cx
                go_wp2_with fail
                (with_reducible refine (pad_sl hs2 hAt2.below.size hg).mono ?_)
                rintro e w8 ⟨rfl, hb8⟩
                have hAt3 := hAt2.grow hb8
                have hI3 := hI2.below hb8 hI2.lt
                have hs3 : SlIn w8 w.heap.size s := hs2.keep (hb8.mono hAt2.below.size)
                clear hAt2 hI2 hs2
                go_wp2_with fail
                (with_reducible refine (hAt3.sureR (by omega) hi64).mono ?_)
                rintro e w9 ⟨rfl, hAt4, hb9⟩
                dsimp only
                rw [h1]
                have hI4 := hI3.below hb9 hI3.lt
                have hs4 : SlIn w9 w.heap.size s := hs3.keep (hb9.mono hAt3.below.size)
                clear hAt3 hI3 hs3
                go_wp2_with fail
                (with_reducible refine (pad_sl hs4 hAt4.below.size hg).mono ?_)
                rintro e wA ⟨rfl, hbA⟩
                have hAt5 := hAt4.grow hbA
                have hI5 := hI4.below hbA hI4.lt
                clear hAt4 hI4 hs4 hb7 hb8 hb9 hbA h1
                go_wp2_with fail
                go_roundw
                case rel => go_light; exact ⟨i + 1, by omega, by go_num, hAt5, hI5⟩
                case measure => go_light; simp [intOf]; omega
              · obtain rfl : n = i := by omega
                have dl : ¬ ((n : Int) < (n : Int)) := by omega
                go_wp2_with fail
                go_loopw [108] (fun s108 wr => ∃ i : Nat, i ≤ m ∧ s108 = .int .i64 i ∧ AtL w (fun b => b = w.heap.size) wr d (n + m + 1) ⟨f3, [], false, 0, false⟩ ∧ IBlk wr w.heap.size 44 [mask, torn, cut]) (fun s108 _ => m - (intOf s108).toNat)
                case atStart => exact ⟨0, by omega, rfl, hAt, hI⟩
                case round =>
                  clear hAt hI dl
                  obtain ⟨i, hi, rfl, hAt, hI⟩ := hrel
                  by_cases hlt : i < m
                  · have dl : (i : Int) < (m : Int) := by omega
                    have hRr := hR'.keep hAt.below
                    obtain ⟨b, off, rfl, hbl, hcl⟩ := hRr.at_ (by omega)
                    have cx := hcl i hlt
                    have h1 := k2.out i hlt
                    have hg := hG.out i hlt
                    have hs := hRr.each i hlt
                    clear hRr hcl
                    generalize G i = s at *
                    have hsec := hs.sect hg
                    have hi64 : Key (100 + (i : Int)) := WalkArith.wf_i64 (by omega)
                    go_wp2_with fail
                    (with_reducible refine (hAt.read (by omega) hi64).mono ?_)
                    rintro e w7 ⟨rfl, hAt2, hb7⟩
                    rw [show readF f3 [] (100 + (i : Int)) = f3 (100 + (i : Int)) from rfl]
                    have hfs := hAt2.sure (100 + (i : Int))
                    have hI2 := hI.below hb7 hI.lt
                    have hs2 : SlIn w7 w.heap.size s := hs.keep (hb7.mono hAt.below.size)
                    clear hAt hI hs cx hb7
                    dsimp only at hfs
                    have h1 := hide h1
                    generalize hrd : f3 (100 + (i : Int)) = rd at *
                    have hrd := hide hrd
                    have ha := VBlk.new w7 33 (u8V zs64)
                    have hrm := ha.room 0 64 (by decide)
                    have hi64' : Is 64 (u8V rd) := ⟨hfs.vlen, u8V_one _⟩
                    have hf := ha.fill (us := u8V rd) (by rw [hfs.vlen]; rfl)
                    have hB0 : Below w7.heap.size w7 (w7.alloc (.cells (u8V zs64).toArray 33)) := (Below.refl _ _).alloc (Nat.le_refl _) _
                    have hBf : Below w7.heap.size w7 ((w7.alloc (.cells (u8V zs64).toArray 33)).setCells w7.heap.size 0 (u8V rd)) := below_only hB0 (only_cells _ _ _ _) (fun i (e : i = w7.heap.size) => by omega) hB0.size
                    go_upto_region 35 with fail
                    have hAt8 := hAt2.grow hBf
                    have hI8 := hI2.below hBf hI2.lt
                    have hs8 : SlIn _ w.heap.size s := hs2.keep (hBf.mono hAt2.below.size)
                    clear hAt2 hI2 hs2 hBf hB0 hrm ha
                    generalize w7.heap.size = p at *
                    generalize (w7.alloc (.cells (u8V zs64).toArray 33)).setCells p 0 (u8V rd) = w8 at *
                    have hc1 := hI8.drew.cellAt 1 torn rfl
                    obtain ⟨rr, hh⟩ := hf.drew.whole hfs.vlen
                    go_cut [131] (fun s131 wx => s131 = .bool false ∧ AtL w (fun b => b = w.heap.size) wx d (n + m + 1) ⟨f3, [], false, 0, false⟩ ∧ IBlk wx w.heap.size 44 [mask, torn, cut])
                    case first =>
                      have hAd : AtL w (fun b => b = w.heap.size) w8.drew d (n + m + 1) ⟨f3, [], false, 0, false⟩ := hAt8.turn (T := fun _ => False) (Only.refl _ _).drew (fun _ e => e.elim)
                      by_cases ht : (i : Int) = torn
                      · have hne : ((i : Int) != torn) = false := by simp [ht]
                        go_region
                        all_goals
                          go_wp2_with fail
                          go_meet
                          exact ⟨rfl, hAd, hI8.drew⟩
                      · have hne : ((i : Int) != torn) = true := by simpa using ht
                        have hsd : SlIn w8.drew w.heap.size s := ⟨hs8.reads.drew, hs8.n_le, hs8.c_le, hs8.wf⟩
                        have hpd := pad_sl hsd hAd.below.size hg
                        have hpl : p < w8.heap.size := hf.lt
                        have two := h1.out ht
                        have hzz := sect_zs
                        by_cases e1 : rd = padB s.zs
                        · have dne : (decide (rd = padB s.zs)) = true := decide_eq_true e1
                          refine wp_region_any (by kernel_rfl) ?_
                          change wpAny _ _ _ _ _ _ _ (World.drew _)
                          refine wpAny_take (i := 0) (oi := _) (v := ?_) (by simp only [List.getElem?_toArray, List.getElem?_cons_zero]; rfl) (by kernel_rfl) (by kernel_rfl) (by kernel_rfl) (by exact fun _ _ _ h => h) (Or.inl ⟨by rfl, ?_⟩) ?_
                          rotate_left
                          · intro w; go_simp; try with_reducible rfl
                          try simp only [Act.put, List.setIfInBounds_toArray, List.set_cons_zero, List.set_cons_succ]
                          refine wpAny_take (i := 1) (oi := _) (v := ?_) (by simp only [List.getElem?_toArray, List.getElem?_cons_succ, List.getElem?_cons_zero]; rfl) (by kernel_rfl) (by kernel_rfl) (by kernel_rfl) (by exact fun _ _ _ h => h) (Or.inl ⟨by rfl, ?_⟩) ?_
                          rotate_left
                          · intro w; go_simp; try with_reducible rfl
                          try simp only [Act.put, List.setIfInBounds_toArray, List.set_cons_zero, List.set_cons_succ]
                          refine wpAny_ready (rs := [2]) (by kernel_rfl) (by simp) ?_
                          refine AllReady.cons (o := _) (by simp only [List.getElem?_toArray, List.getElem?_cons_succ, List.getElem?_cons_zero]; rfl) (fun K hK => ?_) AllReady.nil
                          go_simp
                          try (refine hK _ _ ?_; clear hK K)
                          try simp only [Act.put, List.setIfInBounds_toArray, List.set_cons_zero, List.set_cons_succ]
                          refine wpAny_take (i := 3) (oi := _) (v := ?_) (by simp only [List.getElem?_toArray, List.getElem?_cons_succ, List.getElem?_cons_zero]; rfl) (by kernel_rfl) (by kernel_rfl) (by kernel_rfl) (by exact fun _ _ _ h => h) (Or.inl ⟨by rfl, ?_⟩) ?_
                          rotate_left
                          · intro w; go_simp; try with_reducible rfl
                          try simp only [Act.put, List.setIfInBounds_toArray, List.set_cons_zero, List.set_cons_succ]
                          refine wpAny_take (i := 4) (oi := _) (v := ?_) (by simp only [List.getElem?_toArray, List.getElem?_cons_succ, List.getElem?_cons_zero]; rfl) (by kernel_rfl) (by kernel_rfl) (by kernel_rfl) (by exact fun _ _ _ h => h) (Or.inl ⟨by rfl, ?_⟩) ?_
                          rotate_left
                          · intro w; go_simp; try with_reducible rfl
                          try simp only [Act.put, List.setIfInBounds_toArray, List.set_cons_zero, List.set_cons_succ]
                          refine wpAny_take (i := 6) (oi := _) (v := ?_) (by simp only [List.getElem?_toArray, List.getElem?_cons_succ, List.getElem?_cons_zero]; rfl) (by kernel_rfl) (by kernel_rfl) (by kernel_rfl) (by exact fun _ _ _ h => h) (Or.inl ⟨by rfl, ?_⟩) ?_
                          rotate_left
                          · intro w; go_simp; try with_reducible rfl
                          try simp only [Act.put, List.setIfInBounds_toArray, List.set_cons_zero, List.set_cons_succ]
                          refine wpAny_ready (rs := [5, 7]) (by kernel_rfl) (by simp) ?_
                          refine AllReady.cons (o := _) (by simp only [List.getElem?_toArray, List.getElem?_cons_succ, List.getElem?_cons_zero]; rfl) (fun K hK => ?_) (AllReady.cons (o := _) (by simp only [List.getElem?_toArray, List.getElem?_cons_succ, List.getElem?_cons_zero]; rfl) (fun K hK => ?_) AllReady.nil)
                          go_simp
                          try (refine hK _ _ ?_; clear hK K)
                          try simp only [Act.put, List.setIfInBounds_toArray, List.set_cons_zero, List.set_cons_succ]
                          refine wpAny_ready (rs := [7]) (by kernel_rfl) (by simp) ?_
                          refine AllReady.cons (o := _) (by simp only [List.getElem?_toArray, List.getElem?_cons_succ, List.getElem?_cons_zero]; rfl) (fun K hK => ?_) AllReady.nil
                          go_simp
                          go_at_call 11
                          (with_reducible refine hpd.mono ?_)
                          rintro e w9 ⟨rfl, hb9⟩
                          have hf9 := (hf.drew.below hb9 hpl).whole hfs.vlen
                          have rr9 := hf9.1
                          have hh9 := hf9.2
                          go_wp2_with fail
                          try (refine hK _ _ ?_; clear hK K)
                          try simp only [Act.put, List.setIfInBounds_toArray, List.set_cons_zero, List.set_cons_succ]
                          refine wpAny_ready (rs := [8]) (by kernel_rfl) (by simp) ?_
                          refine AllReady.cons (o := _) (by simp only [List.getElem?_toArray, List.getElem?_cons_succ, List.getElem?_cons_zero]; rfl) (fun K hK => ?_) AllReady.nil
                          go_simp
                          try (refine hK _ _ ?_; clear hK K)
                          try simp only [Act.put, List.setIfInBounds_toArray, List.set_cons_zero, List.set_cons_succ]
                          refine wpAny_take (i := 9) (oi := _) (v := ?_) (by simp only [List.getElem?_toArray, List.getElem?_cons_succ, List.getElem?_cons_zero]; rfl) (by kernel_rfl) (by kernel_rfl) (by kernel_rfl) (by exact fun _ _ _ h => h) (Or.inl ⟨by rfl, ?_⟩) ?_
                          rotate_left
                          · intro w; go_simp; try with_reducible rfl
                          try simp only [Act.put, List.setIfInBounds_toArray, List.set_cons_zero, List.set_cons_succ]
                          refine wpAny_take (i := 10) (oi := _) (v := ?_) (by simp only [List.getElem?_toArray, List.getElem?_cons_succ, List.getElem?_cons_zero]; rfl) (by kernel_rfl) (by kernel_rfl) (by kernel_rfl) (by exact fun _ _ _ h => h) (Or.inl ⟨by rfl, ?_⟩) ?_
                          rotate_left
                          · intro w; go_simp; try with_reducible rfl
                          try simp only [Act.put, List.setIfInBounds_toArray, List.set_cons_zero, List.set_cons_succ]
                          refine wpAny_take (i := 11) (oi := _) (v := undef) (by simp only [List.getElem?_toArray, List.getElem?_cons_succ, List.getElem?_cons_zero]; rfl) (by kernel_rfl) (by kernel_rfl) (by kernel_rfl) (by exact fun _ _ _ h => h) (Or.inr ⟨by rfl, rfl⟩) ?_
                          try simp only [Act.put, List.setIfInBounds_toArray, List.set_cons_zero, List.set_cons_succ]
                          refine wpAny_take (i := 12) (oi := _) (v := undef) (by simp only [List.getElem?_toArray, List.getElem?_cons_succ, List.getElem?_cons_zero]; rfl) (by kernel_rfl) (by kernel_rfl) (by kernel_rfl) (by exact fun _ _ _ h => h) (Or.inr ⟨by rfl, rfl⟩) ?_
                          try simp only [Act.put, List.setIfInBounds_toArray, List.set_cons_zero, List.set_cons_succ]
                          refine wpAny_take (i := 13) (oi := _) (v := undef) (by simp only [List.getElem?_toArray, List.getElem?_cons_succ, List.getElem?_cons_zero]; rfl) (by kernel_rfl) (by kernel_rfl) (by kernel_rfl) (by exact fun _ _ _ h => h) (Or.inr ⟨by rfl, rfl⟩) ?_
                          try simp only [Act.put, List.setIfInBounds_toArray, List.set_cons_zero, List.set_cons_succ]
                          refine wpAny_take (i := 14) (oi := _) (v := ?_) (by simp only [List.getElem?_toArray, List.getElem?_cons_succ, List.getElem?_cons_zero]; rfl) (by kernel_rfl) (by kernel_rfl) (by kernel_rfl) (by exact fun _ _ _ h => h) (Or.inl ⟨by rfl, ?_⟩) ?_
                          rotate_left
                          · intro w; go_simp; try with_reducible rfl
                          try simp only [Act.put, List.setIfInBounds_toArray, List.set_cons_zero, List.set_cons_succ]
                          refine wpAny_done (by kernel_rfl) ?_ _
                          rotate_left
                          go_simp
                          go_at_call 11
                          (with_reducible refine hpd.mono ?_)
                          rintro e w9 ⟨rfl, hb9⟩
                          have hf9 := (hf.drew.below hb9 hpl).whole hfs.vlen
                          have rr9 := hf9.1
                          have hh9 := hf9.2
                          go_wp2_with fail
                          try (refine hK _ _ ?_; clear hK K)
                          try simp only [Act.put, List.setIfInBounds_toArray, List.set_cons_zero, List.set_cons_succ]
                          refine wpAny_ready (rs := [5]) (by kernel_rfl) (by simp) ?_
                          refine AllReady.cons (o := _) (by simp only [List.getElem?_toArray, List.getElem?_cons_succ, List.getElem?_cons_zero]; rfl) (fun K hK => ?_) AllReady.nil
                          go_simp
                          try (refine hK _ _ ?_; clear hK K)
                          try simp only [Act.put, List.setIfInBounds_toArray, List.set_cons_zero, List.set_cons_succ]
                          refine wpAny_ready (rs := [8]) (by kernel_rfl) (by simp) ?_
                          refine AllReady.cons (o := _) (by simp only [List.getElem?_toArray, List.getElem?_cons_succ, List.getElem?_cons_zero]; rfl) (fun K hK => ?_) AllReady.nil
                          go_simp
                          try (refine hK _ _ ?_; clear hK K)
                          try simp only [Act.put, List.setIfInBounds_toArray, List.set_cons_zero, List.set_cons_succ]
                          refine wpAny_take (i := 9) (oi := _) (v := ?_) (by simp only [List.getElem?_toArray, List.getElem?_cons_succ, List.getElem?_cons_zero]; rfl) (by kernel_rfl) (by kernel_rfl) (by kernel_rfl) (by exact fun _ _ _ h => h) (Or.inl ⟨by rfl, ?_⟩) ?_
                          rotate_left
                          · intro w; go_simp; try with_reducible rfl
                          try simp only [Act.put, List.setIfInBounds_toArray, List.set_cons_zero, List.set_cons_succ]
                          refine wpAny_take (i := 10) (oi := _) (v := ?_) (by simp only [List.getElem?_toArray, List.getElem?_cons_succ, List.getElem?_cons_zero]; rfl) (by kernel_rfl) (by kernel_rfl) (by kernel_rfl) (by exact fun _ _ _ h => h) (Or.inl ⟨by rfl, ?_⟩) ?_
                          rotate_left
                          · intro w; go_simp; try with_reducible rfl
                          try simp only [Act.put, List.setIfInBounds_toArray, List.set_cons_zero, List.set_cons_succ]
                          refine wpAny_take (i := 11) (oi := _) (v := undef) (by simp only [List.getElem?_toArray, List.getElem?_cons_succ, List.getElem?_cons_zero]; rfl) (by kernel_rfl) (by kernel_rfl) (by kernel_rfl) (by exact fun _ _ _ h => h) (Or.inr ⟨by rfl, rfl⟩) ?_
                          try simp only [Act.put, List.setIfInBounds_toArray, List.set_cons_zero, List.set_cons_succ]
                          refine wpAny_take (i := 12) (oi := _) (v := undef) (by simp only [List.getElem?_toArray, List.getElem?_cons_succ, List.getElem?_cons_zero]; rfl) (by kernel_rfl) (by kernel_rfl) (by kernel_rfl) (by exact fun _ _ _ h => h) (Or.inr ⟨by rfl, rfl⟩) ?_
                          try simp only [Act.put, List.setIfInBounds_toArray, List.set_cons_zero, List.set_cons_succ]
                          refine wpAny_take (i := 13) (oi := _) (v := undef) (by simp only [List.getElem?_toArray, List.getElem?_cons_succ, List.getElem?_cons_zero]; rfl) (by kernel_rfl) (by kernel_rfl) (by kernel_rfl) (by exact fun _ _ _ h => h) (Or.inr ⟨by rfl, rfl⟩) ?_
                          try simp only [Act.put, List.setIfInBounds_toArray, List.set_cons_zero, List.set_cons_succ]
                          refine wpAny_take (i := 14) (oi := _) (v := ?_) (by simp only [List.getElem?_toArray, List.getElem?_cons_succ, List.getElem?_cons_zero]; rfl) (by kernel_rfl) (by kernel_rfl) (by kernel_rfl) (by exact fun _ _ _ h => h) (Or.inl ⟨by rfl, ?_⟩) ?_
                          rotate_left
                          · intro w; go_simp; try with_reducible rfl
                          try simp only [Act.put, List.setIfInBounds_toArray, List.set_cons_zero, List.set_cons_succ]
                          refine wpAny_done (by kernel_rfl) ?_ _
                          rotate_left
                          all_goals
                            go_wp2_with fail
                            go_meet
                            exact ⟨rfl, hAd.grow hb9, hI8.drew.below hb9 hI8.lt⟩
                        · have dne : (decide (rd = padB s.zs)) = false := decide_eq_false e1
                          have dz : (decide (rd = zs64)) = true := decide_eq_true (two.resolve_left e1)
                          refine wp_region_any (by kernel_rfl) ?_
                          change wpAny _ _ _ _ _ _ _ (World.drew _)
                          refine wpAny_take (i := 0) (oi := _) (v := ?_) (by simp only [List.getElem?_toArray, List.getElem?_cons_zero]; rfl) (by kernel_rfl) (by kernel_rfl) (by kernel_rfl) (by exact fun _ _ _ h => h) (Or.inl ⟨by rfl, ?_⟩) ?_
                          rotate_left
                          · intro w; go_simp; try with_reducible rfl
                          try simp only [Act.put, List.setIfInBounds_toArray, List.set_cons_zero, List.set_cons_succ]
                          refine wpAny_take (i := 1) (oi := _) (v := ?_) (by simp only [List.getElem?_toArray, List.getElem?_cons_succ, List.getElem?_cons_zero]; rfl) (by kernel_rfl) (by kernel_rfl) (by kernel_rfl) (by exact fun _ _ _ h => h) (Or.inl ⟨by rfl, ?_⟩) ?_
                          rotate_left
                          · intro w; go_simp; try with_reducible rfl
                          try simp only [Act.put, List.setIfInBounds_toArray, List.set_cons_zero, List.set_cons_succ]
                          refine wpAny_ready (rs := [2]) (by kernel_rfl) (by simp) ?_
                          refine AllReady.cons (o := _) (by simp only [List.getElem?_toArray, List.getElem?_cons_succ, List.getElem?_cons_zero]; rfl) (fun K hK => ?_) AllReady.nil
                          go_simp
                          try (refine hK _ _ ?_; clear hK K)
                          try simp only [Act.put, List.setIfInBounds_toArray, List.set_cons_zero, List.set_cons_succ]
                          refine wpAny_take (i := 3) (oi := _) (v := ?_) (by simp only [List.getElem?_toArray, List.getElem?_cons_succ, List.getElem?_cons_zero]; rfl) (by kernel_rfl) (by kernel_rfl) (by kernel_rfl) (by exact fun _ _ _ h => h) (Or.inl ⟨by rfl, ?_⟩) ?_
                          rotate_left
                          · intro w; go_simp; try with_reducible rfl
                          try simp only [Act.put, List.setIfInBounds_toArray, List.set_cons_zero, List.set_cons_succ]
                          refine wpAny_take (i := 4) (oi := _) (v := ?_) (by simp only [List.getElem?_toArray, List.getElem?_cons_succ, List.getElem?_cons_zero]; rfl) (by kernel_rfl) (by kernel_rfl) (by kernel_rfl) (by exact fun _ _ _ h => h) (Or.inl ⟨by rfl, ?_⟩) ?_
                          rotate_left
                          · intro w; go_simp; try with_reducible rfl
                          try simp only [Act.put, List.setIfInBounds_toArray, List.set_cons_zero, List.set_cons_succ]
                          refine wpAny_take (i := 6) (oi := _) (v := ?_) (by simp only [List.getElem?_toArray, List.getElem?_cons_succ, List.getElem?_cons_zero]; rfl) (by kernel_rfl) (by kernel_rfl) (by kernel_rfl) (by exact fun _ _ _ h => h) (Or.inl ⟨by rfl, ?_⟩) ?_
                          rotate_left
                          · intro w; go_simp; try with_reducible rfl
                          try simp only [Act.put, List.setIfInBounds_toArray, List.set_cons_zero, List.set_cons_succ]
                          refine wpAny_ready (rs := [5, 7]) (by kernel_rfl) (by simp) ?_
                          refine AllReady.cons (o := _) (by simp only [List.getElem?_toArray, List.getElem?_cons_succ, List.getElem?_cons_zero]; rfl) (fun K hK => ?_) (AllReady.cons (o := _) (by simp only [List.getElem?_toArray, List.getElem?_cons_succ, List.getElem?_cons_zero]; rfl) (fun K hK => ?_) AllReady.nil)
                          go_simp
                          try (refine hK _ _ ?_; clear hK K)
                          try simp only [Act.put, List.setIfInBounds_toArray, List.set_cons_zero, List.set_cons_succ]
                          refine wpAny_ready (rs := [7]) (by kernel_rfl) (by simp) ?_
                          refine AllReady.cons (o := _) (by simp only [List.getElem?_toArray, List.getElem?_cons_succ, List.getElem?_cons_zero]; rfl) (fun K hK => ?_) AllReady.nil
                          go_simp
                          go_at_call 11
                          (with_reducible refine hpd.mono ?_)
                          rintro e w9 ⟨rfl, hb9⟩
                          have hf9 := (hf.drew.below hb9 hpl).whole hfs.vlen
                          have rr9 := hf9.1
                          have hh9 := hf9.2
                          go_wp2_with fail
                          try (refine hK _ _ ?_; clear hK K)
                          try simp only [Act.put, List.setIfInBounds_toArray, List.set_cons_zero, List.set_cons_succ]
                          refine wpAny_ready (rs := [8]) (by kernel_rfl) (by simp) ?_
                          refine AllReady.cons (o := _) (by simp only [List.getElem?_toArray, List.getElem?_cons_succ, List.getElem?_cons_zero]; rfl) (fun K hK => ?_) AllReady.nil
                          go_simp
                          try (refine hK _ _ ?_; clear hK K)
                          try simp only [Act.put, List.setIfInBounds_toArray, List.set_cons_zero, List.set_cons_succ]
                          refine wpAny_take (i := 9) (oi := _) (v := ?_) (by simp only [List.getElem?_toArray, List.getElem?_cons_succ, List.getElem?_cons_zero]; rfl) (by kernel_rfl) (by kernel_rfl) (by kernel_rfl) (by exact fun _ _ _ h => h) (Or.inl ⟨by rfl, ?_⟩) ?_
                          rotate_left
                          · intro w; go_simp; try with_reducible rfl
                          try simp only [Act.put, List.setIfInBounds_toArray, List.set_cons_zero, List.set_cons_succ]
                          refine wpAny_take (i := 10) (oi := _) (v := ?_) (by simp only [List.getElem?_toArray, List.getElem?_cons_succ, List.getElem?_cons_zero]; rfl) (by kernel_rfl) (by kernel_rfl) (by kernel_rfl) (by exact fun _ _ _ h => h) (Or.inl ⟨by rfl, ?_⟩) ?_
                          rotate_left
                          · intro w; go_simp; try with_reducible rfl
                          try simp only [Act.put, List.setIfInBounds_toArray, List.set_cons_zero, List.set_cons_succ]
                          refine wpAny_take (i := 12) (oi := _) (v := ?_) (by simp only [List.getElem?_toArray, List.getElem?_cons_succ, List.getElem?_cons_zero]; rfl) (by kernel_rfl) (by kernel_rfl) (by kernel_rfl) (by exact fun _ _ _ h => h) (Or.inl ⟨by rfl, ?_⟩) ?_
                          rotate_left
                          · intro w; go_simp; try with_reducible rfl
                          try simp only [Act.put, List.setIfInBounds_toArray, List.set_cons_zero, List.set_cons_succ]
                          refine wpAny_ready (rs := [11]) (by kernel_rfl) (by simp) ?_
                          refine AllReady.cons (o := _) (by simp only [List.getElem?_toArray, List.getElem?_cons_succ, List.getElem?_cons_zero]; rfl) (fun K hK => ?_) AllReady.nil
                          go_simp
                          try (refine hK _ _ ?_; clear hK K)
                          try simp only [Act.put, List.setIfInBounds_toArray, List.set_cons_zero, List.set_cons_succ]
                          refine wpAny_ready (rs := [13]) (by kernel_rfl) (by simp) ?_
                          refine AllReady.cons (o := _) (by simp only [List.getElem?_toArray, List.getElem?_cons_succ, List.getElem?_cons_zero]; rfl) (fun K hK => ?_) AllReady.nil
                          go_simp
                          try (refine hK _ _ ?_; clear hK K)
                          try simp only [Act.put, List.setIfInBounds_toArray, List.set_cons_zero, List.set_cons_succ]
                          refine wpAny_take (i := 14) (oi := _) (v := ?_) (by simp only [List.getElem?_toArray, List.getElem?_cons_succ, List.getElem?_cons_zero]; rfl) (by kernel_rfl) (by kernel_rfl) (by kernel_rfl) (by exact fun _ _ _ h => h) (Or.inl ⟨by rfl, ?_⟩) ?_
                          rotate_left
                          · intro w; go_simp; try with_reducible rfl
                          try simp only [Act.put, List.setIfInBounds_toArray, List.set_cons_zero, List.set_cons_succ]
                          refine wpAny_done (by kernel_rfl) ?_ _
                          rotate_left
                          go_simp
                          go_at_call 11
                          (with_reducible refine hpd.mono ?_)
                          rintro e w9 ⟨rfl, hb9⟩
                          have hf9 := (hf.drew.below hb9 hpl).whole hfs.vlen
                          have rr9 := hf9.1
                          have hh9 := hf9.2
                          go_wp2_with fail
                          try (refine hK _ _ ?_; clear hK K)
                          try simp only [Act.put, List.setIfInBounds_toArray, List.set_cons_zero, List.set_cons_succ]
                          refine wpAny_ready (rs := [5]) (by kernel_rfl) (by simp) ?_
                          refine AllReady.cons (o := _) (by simp only [List.getElem?_toArray, List.getElem?_cons_succ, List.getElem?_cons_zero]; rfl) (fun K hK => ?_) AllReady.nil
                          go_simp
                          try (refine hK _ _ ?_; clear hK K)
                          try simp only [Act.put, List.setIfInBounds_toArray, List.set_cons_zero, List.set_cons_succ]
                          refine wpAny_ready (rs := [8]) (by kernel_rfl) (by simp) ?_
                          refine AllReady.cons (o := _) (by simp only [List.getElem?_toArray, List.getElem?_cons_succ, List.getElem?_cons_zero]; rfl) (fun K hK => ?_) AllReady.nil
                          go_simp
                          try (refine hK _ _ ?_; clear hK K)
                          try simp only [Act.put, List.setIfInBounds_toArray, List.set_cons_zero, List.set_cons_succ]
                          refine wpAny_take (i := 9) (oi := _) (v := ?_) (by simp only [List.getElem?_toArray, List.getElem?_cons_succ, List.getElem?_cons_zero]; rfl) (by kernel_rfl) (by kernel_rfl) (by kernel_rfl) (by exact fun _ _ _ h => h) (Or.inl ⟨by rfl, ?_⟩) ?_
                          rotate_left
                          · intro w; go_simp; try with_reducible rfl
                          try simp only [Act.put, List.setIfInBounds_toArray, List.set_cons_zero, List.set_cons_succ]
                          refine wpAny_take (i := 10) (oi := _) (v := ?_) (by simp only [List.getElem?_toArray, List.getElem?_cons_succ, List.getElem?_cons_zero]; rfl) (by kernel_rfl) (by kernel_rfl) (by kernel_rfl) (by exact fun _ _ _ h => h) (Or.inl ⟨by rfl, ?_⟩) ?_
                          rotate_left
                          · intro w; go_simp; try with_reducible rfl
                          try simp only [Act.put, List.setIfInBounds_toArray, List.set_cons_zero, List.set_cons_succ]
                          refine wpAny_take (i := 12) (oi := _) (v := ?_) (by simp only [List.getElem?_toArray, List.getElem?_cons_succ, List.getElem?_cons_zero]; rfl) (by kernel_rfl) (by kernel_rfl) (by kernel_rfl) (by exact fun _ _ _ h => h) (Or.inl ⟨by rfl, ?_⟩) ?_
                          rotate_left
                          · intro w; go_simp; try with_reducible rfl
                          try simp only [Act.put, List.setIfInBounds_toArray, List.set_cons_zero, List.set_cons_succ]
                          refine wpAny_ready (rs := [11]) (by kernel_rfl) (by simp) ?_
                          refine AllReady.cons (o := _) (by simp only [List.getElem?_toArray, List.getElem?_cons_succ, List.getElem?_cons_zero]; rfl) (fun K hK => ?_) AllReady.nil
                          go_simp
                          try (refine hK _ _ ?_; clear hK K)
                          try simp only [Act.put, List.setIfInBounds_toArray, List.set_cons_zero, List.set_cons_succ]
                          refine wpAny_ready (rs := [13]) (by kernel_rfl) (by simp) ?_
                          refine AllReady.cons (o := _) (by simp only [List.getElem?_toArray, List.getElem?_cons_succ, List.getElem?_cons_zero]; rfl) (fun K hK => ?_) AllReady.nil
                          go_simp
                          try (refine hK _ _ ?_; clear hK K)
                          try simp only [Act.put, List.setIfInBounds_toArray, List.set_cons_zero, List.set_cons_succ]
                          refine wpAny_take (i := 14) (oi := _) (v := ?_) (by simp only [List.getElem?_toArray, List.getElem?_cons_succ, List.getElem?_cons_zero]; rfl) (by kernel_rfl) (by kernel_rfl) (by kernel_rfl) (by exact fun _ _ _ h => h) (Or.inl ⟨by rfl, ?_⟩) ?_
                          rotate_left
                          · intro w; go_simp; try with_reducible rfl
                          try simp only [Act.put, List.setIfInBounds_toArray, List.set_cons_zero, List.set_cons_succ]
                          refine wpAny_done (by kernel_rfl) ?_ _
                          rotate_left
                          all_goals
                            go_wp2_with fail
                            go_meet
                            exact ⟨rfl, hAd.grow hb9, hI8.drew.below hb9 hI8.lt⟩
                    case rest =>
                      clear hAt8 hI8 hs8 hf hc1 rr hh h1 hrd hfs hsec hg
                      obtain ⟨rfl, hAt, hI⟩ := hcut
                      go_wp2_with fail
                      go_roundw
                      case rel => go_light; exact ⟨i + 1, by omega, by go_num, hAt, hI⟩
                      case measure => go_light; simp [intOf]; omega
                  · obtain rfl : m = i := by omega
                    have dl : ¬ ((m : Int) < (m : Int)) := by omega
                    go_wp2_with fail
                    (with_reducible refine hAt.down.mono ?_)
                    rintro e w7 ⟨rfl, rfl⟩
                    go_wp2_with fail
                    (with_reducible refine hAt.waits.mono ?_)
                    rintro e w7 ⟨rfl, rfl⟩
                    have hb := hAt.below
                    go_wp2_with fail
                    go_ret
                    exact ⟨rfl, hb⟩
end Go.Proofs.Ythafhmpbhhpfbaa.diskSures
