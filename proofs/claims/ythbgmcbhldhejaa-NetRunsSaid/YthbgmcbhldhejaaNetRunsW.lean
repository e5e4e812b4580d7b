/- The walk of NetRuns. -/
import Derived.Test.YthbgmcbhldhejaaNetS
import Derived.BigQuiet
import Derived.Deep.RegionHeld3
namespace Go.Proofs.Ythbgmcbhldhejaa.netRuns
open Go.RowKit Go.Conc

attribute [local go_sem ↓] appTF_fold loadQ_fold storeQ_fold allocQ_fold allocM_fold
attribute [local go_sem] appTF_has loadQ_has storeQ_has allocQ_run allocM_run
/-- Two machines. -/
def okB (i j : Int) : Bool := inM i && inM j && (i != j)
theorem okB_true {i j : Int} (h : okB i j = true) : ∃ a b : Nat, i = a ∧ j = b ∧ a < 5 ∧ b < 5 ∧ a ≠ b := by
  simp only [okB, Bool.and_eq_true, inM_true, bne_iff_ne] at h
  obtain ⟨⟨⟨h1, h2⟩, h3, h4⟩, h5⟩ := h
  exact ⟨i.toNat, j.toNat, by omega, by omega, by omega, by omega, by omega⟩
theorem okB_false {i j : Int} (h : okB i j = false) : ¬ (inM i = true ∧ inM j = true ∧ i ≠ j) := by
  rintro ⟨h1, h2, h3⟩
  rw [okB, h1, h2] at h
  simp at h
  exact h3 h
theorem sum_less {Fs : Nat → List Sl} {l L : Nat} {Ts : List Sl} (h : (Fs l).length = L) (hT : Ts.length = L - 1) (h0 : 0 < L) (hd : l % 6 ≠ 0) (hl : l < 25) (h2 : sumL Fs 25 ≤ 200) :
    (1 : Int) ≤ (sumL Fs 25 : Int) ∧ (sumL Fs 25 : Int) ≤ 200 ∧ Hid (Value.int .i64 ((sumL Fs 25 : Int) - 1) = Value.int .i64 (sumL (upd Fs l Ts) 25 : Int)) := by
  have := sumL_upd Fs l Ts hd hl
  refine ⟨by omega, by omega, ?_⟩
  show _ = _
  congr 1
  omega
theorem sum_more {Fs : Nat → List Sl} {l L : Nat} {Ts : List Sl} (h : (Fs l).length = L) (hT : Ts.length = L + 1) (hd : l % 6 ≠ 0) (hl : l < 25) (h2 : sumL Fs 25 ≤ 200) :
    (0 : Int) ≤ (sumL Fs 25 : Int) ∧ (sumL Fs 25 : Int) ≤ 200 ∧ Hid (Value.int .i64 ((sumL Fs 25 : Int) + 1) = Value.int .i64 (sumL (upd Fs l Ts) 25 : Int)) := by
  have := sumL_upd Fs l Ts hd hl
  refine ⟨by omega, by omega, ?_⟩
  show _ = _
  congr 1
  omega
theorem cut_le {L m : Nat} (h : L ≤ m) (hm : m ≤ maxLen) : L - 1 ≤ m - 1 ∧ m - 1 ≤ maxLen := by omega
theorem le_big {n : Nat} (h : ¬ 100 < n) : n ≤ 90000 := by omega
theorem le_thou {n : Nat} (h : n ≤ 8) : n ≤ 1000 := by omega
theorem cut_one {L m : Nat} (h : L ≤ m) (hm : m = 1) : L - 1 ≤ 0 := by omega
/-- A slice less its first. -/
theorem cut_str {w : World} {b off L m : Nat} {t : Sl} {Ts : List Sl} (h : StrL w (some ⟨b, off, none⟩) L (zsOf (t :: Ts))) (h0 : 0 < L) (hm : L ≤ m) (k : Nat) :
    Hid (StrL (w.drewN k).drew (if m = 1 then some ⟨b, off, none⟩ else some ⟨b, off + 1, none⟩) (L - 1) (zsOf Ts)) := by
  have hcut := Reads.cut (k := 1) (cap := m) h h0 hm
  have e1 : ((zsOf (t :: Ts)).map stV).drop (1 * 1) = (zsOf Ts).map stV := rfl
  rw [e1] at hcut
  exact hcut
set_option maxRecDepth 100000 in
set_option maxHeartbeats 8000000 in
theorem walk (w : World) (A : Option Addr) (n c : Nat) (F : Nat → List Value) (hS : Sts w w.heap.size kindsQ A n F) (hnc : n ≤ c) (hcm : c ≤ maxLen) :
    Calls Try.prog 3 #[.slice A n c] w fun e w' => e = .returned (.bool true) ∧ Below w.heap.size w w' := by
  have hn63 : n ≤ 9223372036854775807 := Nat.le_trans hnc hcm
  go_enter Try.func3, Try.ntmps3
  go_wp2_with fail
  (with_reducible refine (fit_runs w).mono ?_)
  rintro x w1 ⟨rfl, B1⟩
  by_cases h200 : 200 < n
  · have d200 : (200 : Int) < (n : Int) := by omega
    go_wp2_with fail
    go_ret
    exact ⟨rfl, B1⟩
  · have d200 : ¬ (200 : Int) < (n : Int) := by omega
    go_wp2_with fail
    (with_reducible refine (newN_runs w1 allQ).mono ?_)
    rintro x w2 ⟨b, P, C, rfl, hb, h2, B2⟩
    have B2 := B1.trans (B2.mono B1.size)
    have h2 := h2.lower B1.size
    have hM : Below w2.heap.size w2 (w2.alloc (.cells (tabV nilV).toArray 28)) := (Below.refl _ _).alloc (Nat.le_refl _) _
    have hst : St w (w2.alloc (.cells (tabV nilV).toArray 28)) b P C w2.heap.size noneF nilV :=
      ⟨h2.below hM, VBlk.new _ _ _, fun l => ⟨none, 0, 0, rfl⟩, fun l _ _ => ⟨none, 0, rfl, Nat.le_refl _, Nat.zero_le _, Reads.none_⟩, B2.size, B2.trans (hM.mono B2.size)⟩
    go_upto_region 9 with fail
    clear h2 B2 B1 hb hM
    generalize w2.alloc (.cells (tabV nilV).toArray 28) = w3 at hst
    generalize w2.heap.size = g at *
    rename World => wz
    have hs0 : Value.int .i64 0 = Value.int .i64 (sumL noneF 25 : Int) := by rw [show sumL noneF 25 = 0 from sumL_none 25]; rfl
    go_loopw [5, 22] (fun s5 s22 wr => ∃ (j : Nat) (Fs : Nat → List Sl) (V : Nat → Value), j ≤ n ∧ s22 = .int .i64 j ∧ s5 = .int .i64 (sumL Fs 25 : Int) ∧ St w wr b P C g Fs V) (fun _ s22 _ => n - (intOf s22).toNat)
    case atStart => exact ⟨0, noneF, nilV, Nat.zero_le _, rfl, hs0, hst⟩
    case round =>
      obtain ⟨j, Fs, V, hj, rfl, rfl, h⟩ := hrel
      by_cases hlt : j < n
      · have dl : (j : Int) < (n : Int) := by omega
        obtain ⟨b', off, rfl, hbb, hrow, hhas⟩ := (hS.keep h.under).got hlt
        have hlen := hS.len j hlt
        have hev := (hS.keep h.under).each j hlt
        generalize F j = cs at *
        match cs, hlen with
        | [v0, v1, v2, v3], _ =>
        obtain ⟨i0, rfl, hi0⟩ := hev 0 .i v0 rfl rfl
        obtain ⟨i1, rfl, hi1⟩ := hev 1 .i v1 rfl rfl
        obtain ⟨tk, rfl⟩ := hev 2 .b v2 rfl rfl
        obtain ⟨s, rfl, hs⟩ := hev 3 .s v3 rfl rfl
        have hrow : rowAt wr b' (off + j * 4) 4 = [Value.int .i64 i0, .int .i64 i1, .bool tk, .slice s.A s.n s.c].toArray := hrow
        have hhas : HasRow wr b' (off + j * 4) 4 := hhas
        have hi4 : Is 4 [Value.int .i64 i0, .int .i64 i1, .bool tk, .slice s.A s.n s.c] := ⟨rfl, fun v hv => by simp at hv; rcases hv with rfl | rfl | rfl | rfl <;> rfl⟩
        have ha := VBlk.new wr 31 zeroQ
        have hrm := ha.room 0 4 (by decide)
        have hf := ha.fill (us := [Value.int .i64 i0, .int .i64 i1, .bool tk, .slice s.A s.n s.c]) rfl
        have hB0 : Below wr.heap.size wr (wr.alloc (.cells zeroQ.toArray 31)) := (Below.refl _ _).alloc (Nat.le_refl _) _
        have hBf : Below wr.heap.size wr ((wr.alloc (.cells zeroQ.toArray 31)).setCells wr.heap.size 0 [Value.int .i64 i0, .int .i64 i1, .bool tk, .slice s.A s.n s.c]) := below_only hB0 (only_cells _ _ _ _) (fun i (e : i = wr.heap.size) => by omega) hB0.size
        have hw4 := h.below hBf
        have hs4 := hs.keep (hBf.mono h.under.size)
        go_upto_region 11 with fail
        clear hBf hB0 hrm ha hs hrow hhas hev h
        generalize hg : wr.heap.size = g7 at *
        generalize (wr.alloc (.cells zeroQ.toArray 31)).setCells g7 0 [Value.int .i64 i0, .int .i64 i1, .bool tk, .slice s.A s.n s.c] = w4 at *
        have c0 := hf.cellAt (i := 0) rfl
        have c1 := hf.cellAt (i := 1) rfl
        have c2 := hf.cellAt (i := 2) rfl
        have c3 := hf.cellAt (i := 3) rfl
        by_cases g2 : 100 < s.n
        · have d2 : decide ((100 : Int) < (s.n : Int)) = true := decide_eq_true (by omega)
          go_wp2_with fail
          go_ret
          exact ⟨rfl, hw4.under⟩
        have d2 : decide ((100 : Int) < (s.n : Int)) = false := decide_eq_false (by omega)
        go_upto_region 13 with fail
        clear d2
        go_cut [8] (fun s8 wx => s8 = .bool (okB i0 i1) ∧ w4 = wx)
        case first =>
          by_cases h0 : 0 ≤ i0
          · have d0 : decide (0 ≤ i0) = true := decide_eq_true h0
            by_cases h1 : i0 < 5
            · have d1 : decide (i0 < 5) = true := decide_eq_true h1
              by_cases h2 : 0 ≤ i1
              · have d2 : decide (0 ≤ i1) = true := decide_eq_true h2
                by_cases h3 : i1 < 5
                · have d3 : decide (i1 < 5) = true := decide_eq_true h3
                  by_cases h4 : i0 = i1
                  · have d4 : (i0 != i1) = false := by simp [h4]
                    have HO : Hid (okB i0 i1 = false) := hide (by unfold okB; rw [d4]; simp)
                    clear h4
                    go_wp2_with fail
                    go_meet
                    exact ⟨by rw [HO.out], rfl⟩
                  · have d4 : (i0 != i1) = true := by simp [h4]
                    have HO : Hid (okB i0 i1 = true) := hide (by unfold okB inM; rw [d0, d1, d2, d3, d4]; rfl)
                    go_wp2_with fail
                    go_meet
                    exact ⟨by rw [HO.out], rfl⟩
                · have d3 : decide (i1 < 5) = false := decide_eq_false h3
                  have HO : Hid (okB i0 i1 = false) := hide (by unfold okB inM; rw [d3]; simp)
                  go_wp2_with fail
                  go_meet
                  exact ⟨by rw [HO.out], rfl⟩
              · have d2 : decide (0 ≤ i1) = false := decide_eq_false h2
                have HO : Hid (okB i0 i1 = false) := hide (by unfold okB inM; rw [d2]; simp)
                go_wp2_with fail
                go_meet
                exact ⟨by rw [HO.out], rfl⟩
            · have d1 : decide (i0 < 5) = false := decide_eq_false h1
              have HO : Hid (okB i0 i1 = false) := hide (by unfold okB inM; rw [d1]; simp)
              go_wp2_with fail
              go_meet
              exact ⟨by rw [HO.out], rfl⟩
          · have d0 : decide (0 ≤ i0) = false := decide_eq_false h0
            have HO : Hid (okB i0 i1 = false) := hide (by unfold okB inM; rw [d0]; simp)
            go_wp2_with fail
            go_meet
            exact ⟨by rw [HO.out], rfl⟩
        case rest =>
          obtain ⟨rfl, rfl⟩ := hcut
          have hW := way_any hw4.net i0 i1
          by_cases hok : okB i0 i1 = false
          · have hno := okB_false hok
            rw [wayA_none hno] at hW
            rw [hok]
            have HS := send_none hw4.net i0 i1 hno s
            have HW := hide hw4
            clear hw4 hf hno hok
            go_wp2_with fail
            (with_reducible refine hW.mono ?_)
            rintro x w5 ⟨rfl, rfl⟩
            clear hW
            go_wp2_with fail
            (with_reducible refine HS.mono ?_)
            rintro x w5 ⟨rfl, rfl⟩
            clear HS
            go_wp2_with fail
            go_roundw
            case rel => go_light; exact ⟨j + 1, Fs, V, by omega, by go_num, rfl, HW.out⟩
            case measure => go_light; simp [intOf]; omega
          · rw [Bool.not_eq_false] at hok
            rw [hok]
            obtain ⟨p, q, rfl, rfl, hp5, hq5, hpq⟩ := okB_true hok
            rw [wayA_some hp5 hq5 hpq] at hW
            obtain ⟨o1, o2⟩ := off_ne hp5 hq5 hpq
            obtain ⟨A7, m7, hV, hm1, hm2, hR⟩ := hw4.mine _ o1 o2
            have e0 := hw4.tab.cellAt (tabV_at V o1)
            rw [hV] at e0
            have dp : (p : Int) < 5 := by omega
            have dq : (q : Int) < 5 := by omega
            clear hok
            go_wp2_with fail
            (with_reducible refine hW.mono ?_)
            rintro x w5 ⟨rfl, rfl⟩
            clear hW
            go_upto_region 20 with fail
            go_quiet (fail)
            go_upto_region 21 with fail
            have hw5 := hw4.drewN nq
            have hf5 : VBlk (w4.drewN nq) g7 31 [Value.int .i64 p, .int .i64 q, .bool tk, .slice s.A s.n s.c] := hf
            have hs5 := hs4.drewN nq
            have hR5 : StrL (w4.drewN nq) A7 (Fs (p * 5 + q)).length (zsOf (Fs (p * 5 + q))) := hR
            clear hw4 hf hs4 hR c0 c1 c2 c3 e0
            generalize w4.drewN nq = w5 at *
            have c0 := hf5.cellAt (i := 0) rfl
            have c1 := hf5.cellAt (i := 1) rfl
            have c2 := hf5.cellAt (i := 2) rfl
            have c3 := hf5.cellAt (i := 3) rfl
            obtain ⟨L, hL⟩ : ∃ L, (Fs (p * 5 + q)).length = L := ⟨_, rfl⟩
            rw [hL] at hV hm1 hR5
            rw [hL]
            have hL8 : L ≤ 8 := by rw [← hL]; exact (hw5.net.box _ o1 o2).le
            have HT : Hid (sumL Fs 25 ≤ 200) := hide (sumL_le (Fs := Fs) (k := 25) fun l hl hd => (hw5.net.box l hl hd).le)
            have hBs := hw5.under.size
            have hgt := hw5.tab.lt
            have hg5 := hf5.lt
            have hch := (hw5.net.box _ o1 o2).chan
            have hV' := hide hV
            have HLn := hide hL
            clear hV hL
            go_upto_if 83 with fail
            go_cut [5] (fun s5 wx => ∃ (Fs' : Nat → List Sl) (V' : Nat → Value), s5 = .int .i64 (sumL Fs' 25 : Int) ∧ St w wx b P C g Fs' V' ∧ VBlk wx g7 31 [Value.int .i64 p, .int .i64 q, .bool tk, .slice s.A s.n s.c])
            case first =>
              cases tk with
              | true =>
                cases hF : Fs (p * 5 + q) with
                | nil =>
                  have hx := hw5.net.box _ o1 o2
                  rw [hF] at hx
                  have hT := hide (Take_none w5 allQ _ _ 8 hx)
                  have hL0 : L = 0 := by rw [← HLn.out, hF]; rfl
                  subst hL0
                  go_wp2_with fail
                  (with_reducible refine hT.out.mono ?_)
                  rintro x w6 ⟨rfl, rfl⟩
                  clear hT
                  go_upto_region 23 with fail
                  go_quiet (fail)
                  go_wp2_with fail
                  go_meet
                  exact ⟨Fs, V, rfl, hw5.drewN _, hf5⟩
                | cons t Ts =>
                  have hx := hw5.net.box _ o1 o2
                  rw [hF] at hx hR5
                  have hT := hide (Take_some w5 allQ _ _ 8 t Ts hx)
                  have HLT : Hid (Ts.length = L - 1) := hide (by have := HLn.out; rw [hF] at this; rw [← this]; rfl)
                  have hL0 : 0 < L := by have := HLn.out; rw [hF] at this; rw [← this]; exact Nat.succ_pos _
                  go_wp2_with fail
                  (with_reducible refine hT.out.mono ?_)
                  rintro x w6 ⟨rfl, b6, k6, s6⟩
                  clear hT
                  have hn6 := hide (hw5.net.turn o1 o2 b6 k6)
                  have hR6 : StrL w6 A7 L (zsOf (t :: Ts)) := (Reads.chan hR5 hx.chan (Nat.le_refl _) k6).more k6.size
                  have hf6 := hf5.only k6 (hx.chan.ne hf5)
                  have ht6 := hw5.tab.only k6 (hx.chan.ne hw5.tab)
                  obtain ⟨b7, off7, rfl, hb7, hc7⟩ := hR6.at_ hL0
                  have e7 : w6.cell? ⟨b7, off7, none⟩ = some (.string (strOfNums t.zs)) := hc7 0 (by simp [zsOf])
                  have r6 := fun k => reads_string (s6.in_.reads.drewN k) t.c
                  have HC := fun k => cut_str hR6 hL0 hm1 k
                  clear hc7 hR6 hR5 c0 c1 c2 c3 b6
                  generalize hy : strOfNums t.zs = y at *
                  have d7 : decide ((0 : Int) < (L : Int)) = true := decide_eq_true (by omega)
                  have c0 := hf6.cellAt (i := 0) rfl
                  have c1 := hf6.cellAt (i := 1) rfl
                  have cg := ht6.cellAt (tabV_at V o1)
                  have zg := ht6.frozen (p * 5 + q)
                  rw [hV'.out] at cg
                  go_upto_region 23 with fail
                  go_quiet (fail)
                  go_upto_region 26 with fail
                  have k7 := k6.drewN nq
                  have hn7 := hn6.out.drewN nq
                  have hf7 : VBlk (w6.drewN nq) g7 31 [Value.int .i64 p, .int .i64 q, .bool true, .slice s.A s.n s.c] := hf6
                  have ht7 : VBlk (w6.drewN nq) g 28 (tabV V) := ht6
                  have HC7 := HC nq
                  clear HC hn6 k6 hf6 ht6 c0 c1 cg zg e7 r6 s6
                  have hb7 : b7 < (w6.drewN nq).heap.size := hb7
                  generalize w6.drewN nq = w7 at HC7 hb7 ht7 hf7 hn7 k7
                  have c0 := hf7.drew.cellAt (i := 0) rfl
                  have c1 := hf7.drew.cellAt (i := 1) rfl
                  have cg := ht7.drew.cellAt (tabV_at V o1)
                  have zg := ht7.drew.frozen (p * 5 + q)
                  rw [hV'.out] at cg
                  have hne := Blk.ne_ hf7.blk ht7.blk (by decide)
                  have HW := hide fun (A : Option Addr) (m : Nat) (g1 : L - 1 ≤ m) (g2 : m ≤ maxLen) (g3 : StrL w7.drew A (L - 1) (zsOf Ts)) => And.intro (hw5.step o1 o2 k7.drew hn7.drew (Below.refl _ w7.drew) HLT.out g1 g2 g3) (hf7.drew.only (only_cell w7.drew g (p * 5 + q) (.slice A (L - 1) m)) hne)
                  obtain ⟨t1, t2, HSum⟩ := sum_less HLn.out HLT.out hL0 o2 o1 HT.out
                  clear hf7 ht7 k7 hn7 hne hx
                  by_cases h1 : m7 = 1
                  · have g3 := HC7.out
                    rw [if_pos h1] at g3
                    have HG := hide (HW.out _ 0 (cut_one hm1 h1) (Nat.zero_le _) g3)
                    clear g3 HC7 HW
                    go_region
                    go_wp2_with fail
                    go_meet
                    exact ⟨upd Fs (p * 5 + q) Ts, _, HSum.out, HG.out.1, HG.out.2⟩
                  · have g3 := HC7.out
                    rw [if_neg h1] at g3
                    have HG := hide (HW.out _ (m7 - 1) (cut_le hm1 hm2).1 (cut_le hm1 hm2).2 g3)
                    clear g3 HC7 HW
                    go_region
                    go_wp2_with fail
                    go_meet
                    exact ⟨upd Fs (p * 5 + q) Ts, _, HSum.out, HG.out.1, HG.out.2⟩
              | false =>
                have hS6 := hide (send_some hw5.net hp5 hq5 hpq s hs5 hBs (le_big g2) (fun _ _ => trivial))
                by_cases h8 : L < 8
                · have d8 : decide ((L : Int) < 8) = true := decide_eq_true (by go_light; omega)
                  go_upto_region 29 with fail
                  go_wp2_with fail
                  (with_reducible refine hS6.out.mono ?_)
                  rintro x w6 hx
                  unfold SendIs at hx
                  rw [if_pos (by rw [HLn.out]; exact h8)] at hx
                  obtain ⟨rfl, ⟨t, ht, hn6⟩, k6⟩ := hx
                  have hch := (hw5.net.box _ o1 o2).chan
                  have hR6 : StrL w6 A7 L (zsOf (Fs (p * 5 + q))) := (Reads.chan hR5 hch (Nat.le_refl _) k6).more k6.size
                  have hf6 := hf5.only k6 (hch.ne hf5)
                  have ht6 := hw5.tab.only k6 (hch.ne hw5.tab)
                  have hd6 : Reads w6 w.heap.size 1 s.A s.n (u8V s.zs) := hs5.reads.chan hch hBs k6
                  obtain ⟨v1, w1, v2, w2, v3, w3', v4, w4', ⟨a1, a2⟩, ⟨a3, a4⟩, ⟨a5, a6⟩, ⟨a7, a8⟩, ⟨q1, q3⟩, HX⟩ := appT_two (c := m7) hR6 (Nat.le_refl _) (le_thou hL8) s.zs
                  obtain ⟨A2, m2, rfl, n21, n22, n23⟩ := HX.out.1.1.read
                  obtain ⟨A4, m4, rfl, n41, n42, n43⟩ := HX.out.2.1.read
                  have ez : zsOf (Fs (p * 5 + q)) ++ [s.zs] = zsOf (Fs (p * 5 + q) ++ [t]) := by rw [zsOf_snoc, ht]
                  have eL : (zsOf (Fs (p * 5 + q)) ++ [s.zs]).length = L + 1 := by rw [List.length_append, zsOf_len, HLn.out]; rfl
                  have hLt : (Fs (p * 5 + q) ++ [t]).length = L + 1 := by rw [List.length_append, HLn.out]; rfl
                  have x2 := HX.out.1.2
                  have x4 := HX.out.2.2
                  rw [eL] at n21 n23 n41 n43 a4 a8
                  rw [ez] at n23 n43
                  have hne := Blk.ne_ hf6.blk ht6.blk (by decide)
                  have HA := hide (And.intro (hw5.step o1 o2 k6 hn6 x2 hLt n21 n22 n23) ((hf6.below x2 hf6.lt).only (only_cell w2 g (p * 5 + q) (.slice A2 (L + 1) m2)) hne))
                  have HB := hide (And.intro (hw5.step o1 o2 k6 hn6 x4 hLt n41 n42 n43) ((hf6.below x4 hf6.lt).only (only_cell w4' g (p * 5 + q) (.slice A4 (L + 1) m4)) hne))
                  obtain ⟨t1, t2, HSum⟩ := sum_more HLn.out hLt o2 o1 HT.out
                  have b2 := x2
                  have hca : ∀ {wx : World}, Below w6.heap.size w6 wx → wx.cell? ⟨g7, 0, none⟩ = some (.int .i64 (p : Int)) ∧ wx.cell? ⟨g7, 1, none⟩ = some (.int .i64 (q : Int)) ∧ wx.cell? ⟨g7, 3, none⟩ = some (.slice s.A s.n s.c) ∧ wx.cell? ⟨g, p * 5 + q, none⟩ = some (V (p * 5 + q)) ∧ wx.frozen? ⟨g, p * 5 + q, none⟩ = false := fun hb =>
                    have hf := hf6.below hb hf6.lt
                    have ht := ht6.below hb ht6.lt
                    ⟨hf.cellAt (i := 0) rfl, hf.cellAt (i := 1) rfl, hf.cellAt (i := 3) rfl, ht.cellAt (tabV_at V o1), ht.frozen _⟩
                  rw [hV'.out] at hca
                  have hal : ∀ {wx : World} {o : Obj}, Below w6.heap.size w6 wx → Below w6.heap.size w6 (wx.alloc o) := fun hb => hb.alloc hb.size _
                  obtain ⟨e1, e2, e3, e4, e5⟩ := hca (Below.drewR (Below.refl w6.heap.size w6))
                  obtain ⟨e11, e12, e13, e14, e15⟩ := hca q1
                  obtain ⟨e21, e22, e23, e24, e25⟩ := hca (hal (o := .cells #[stV s.zs] 9) q1)
                  obtain ⟨e31, e32, e33, e34, e35⟩ := hca x2
                  obtain ⟨e41, e42, e43, e44, e45⟩ := hca (Below.drewR (hal (o := .cells #[stV s.zs] 9) (Below.refl w6.heap.size w6)))
                  obtain ⟨e51, e52, e53, e54, e55⟩ := hca q3
                  obtain ⟨e61, e62, e63, e64, e65⟩ := hca x4
                  have r6 := reads_string hd6.drew s.c
                  have r7 := reads_string (hd6.below (q1.mono (Nat.le_trans hBs k6.size))) s.c
                  clear hca hal b2 hne ez eL hLt HX x2 x4 n21 n22 n23 n41 n42 n43 hd6 ht6 hf6 hR6 q1 q3 hn6 k6 hS6 c0 c1 c2 c3
                  go_upto_region 32 with fail
                  go_region
                  all_goals
                    go_wp2_with fail
                    go_meet
                    first
                      | exact ⟨upd Fs (p * 5 + q) (Fs (p * 5 + q) ++ [t]), _, HSum.out, HA.out.1, HA.out.2⟩
                      | exact ⟨upd Fs (p * 5 + q) (Fs (p * 5 + q) ++ [t]), _, HSum.out, HB.out.1, HB.out.2⟩
                · have d8 : decide ((L : Int) < 8) = false := decide_eq_false (by go_light; omega)
                  go_upto_region 29 with fail
                  go_wp2_with fail
                  (with_reducible refine hS6.out.mono ?_)
                  rintro x w6 hx
                  unfold SendIs at hx
                  rw [if_neg (by rw [HLn.out]; exact h8)] at hx
                  obtain ⟨rfl, hn6, k6⟩ := hx
                  have hb6 : Below w5.heap.size w5 w6 := k6.toBelow fun _ e => e.elim
                  clear hS6
                  go_wp2_with fail
                  go_meet
                  exact ⟨Fs, V, rfl, hw5.below hb6, hf5.below hb6 hf5.lt⟩
            case rest =>
              obtain ⟨Fs', V', rfl, hw6, hf6⟩ := hcut
              obtain ⟨A8, m8, hV8, _, _, _⟩ := hw6.mine _ o1 o2
              have HL6 : Hid (∀ wx : World, Below wc.heap.size wc wx → Calls Try.prog 10 #[.pointer (some ⟨P (p * 5 + q), 0, none⟩)] wx fun e w' => e = .returned (.int .i64 ((Fs' (p * 5 + q)).length : Int)) ∧ wx = w') := hide fun wx hb => Len_runs _ _ _ _ 8 _ ((hw6.below hb).net.box _ o1 o2)
              have HN6 : Hid (∀ wx : World, Below wc.heap.size wc wx → Calls Try.prog 11 #[.pointer (some ⟨b, 0, none⟩)] wx fun e w' => e = .returned (.int .i64 (sumL Fs' 25 : Int)) ∧ Below wx.heap.size wx w') := hide fun wx hb => lenN_any (hw6.below hb).net
              generalize (Fs' (p * 5 + q)).length = L8 at *
              generalize hsm : sumL Fs' 25 = SM at *
              have q1 : ((L8 : Int) != (L8 : Int)) = false := by simp
              have q2 : ((SM : Int) != (SM : Int)) = false := by simp
              clear c0 c1 c2 c3 hw5 hf5 hs5
              go_upto_region 34 with fail
              go_cut [161] (fun s161 wx => s161 = .bool false ∧ Below wc.heap.size wc wx)
              case first =>
                refine wp_region_noPanic ?_
                refine wp_region_held_drew (S := fun W => Below wc.heap.size wc W) (by kernel_rfl) ?_ (fun hHeld => ?_)
                · exact (Below.refl wc.heap.size wc).drew
                refine wpAnyH_take (i := 0) (oi := _) (v := ?_) (by simp only [List.getElem?_toArray, List.getElem?_cons_zero]; rfl) (by kernel_rfl) (by kernel_rfl) (by kernel_rfl) (by exact fun _ _ _ h => h) (Or.inl ⟨by rfl, ?_⟩) (by assumption) ?_
                rotate_left
                · intro w hSw
                  try dsimp only at hSw
                  have s1 := hf6.below hSw hf6.lt
                  have s2 := hw6.tab.below hSw hw6.tab.lt
                  have k1 := s1.cellAt (i := 0) rfl
                  have k2 := s1.cellAt (i := 1) rfl
                  have k3 := s2.cellAt (tabV_at V' o1)
                  rw [hV8] at k3
                  clear s1 s2 hSw
                  go_simp
                  try with_reducible rfl
                try simp only [Act.put, List.setIfInBounds_toArray, List.set_cons_zero, List.set_cons_succ]
                refine wpAnyH_take (i := 2) (oi := _) (v := ?_) (by simp only [List.getElem?_toArray, List.getElem?_cons_succ, List.getElem?_cons_zero]; rfl) (by kernel_rfl) (by kernel_rfl) (by kernel_rfl) (by exact fun _ _ _ h => h) (Or.inl ⟨by rfl, ?_⟩) (by assumption) ?_
                rotate_left
                · intro w hSw
                  try dsimp only at hSw
                  have s1 := hf6.below hSw hf6.lt
                  have s2 := hw6.tab.below hSw hw6.tab.lt
                  have k1 := s1.cellAt (i := 0) rfl
                  have k2 := s1.cellAt (i := 1) rfl
                  have k3 := s2.cellAt (tabV_at V' o1)
                  rw [hV8] at k3
                  clear s1 s2 hSw
                  go_simp
                  try with_reducible rfl
                try simp only [Act.put, List.setIfInBounds_toArray, List.set_cons_zero, List.set_cons_succ]
                refine wpAnyH_take (i := 3) (oi := _) (v := ?_) (by simp only [List.getElem?_toArray, List.getElem?_cons_succ, List.getElem?_cons_zero]; rfl) (by kernel_rfl) (by kernel_rfl) (by kernel_rfl) (by exact fun _ _ _ h => h) (Or.inl ⟨by rfl, ?_⟩) (by assumption) ?_
                rotate_left
                · intro w hSw
                  try dsimp only at hSw
                  have s1 := hf6.below hSw hf6.lt
                  have s2 := hw6.tab.below hSw hw6.tab.lt
                  have k1 := s1.cellAt (i := 0) rfl
                  have k2 := s1.cellAt (i := 1) rfl
                  have k3 := s2.cellAt (tabV_at V' o1)
                  rw [hV8] at k3
                  clear s1 s2 hSw
                  go_simp
                  try with_reducible rfl
                try simp only [Act.put, List.setIfInBounds_toArray, List.set_cons_zero, List.set_cons_succ]
                refine wpAnyH_take (i := 4) (oi := _) (v := ?_) (by simp only [List.getElem?_toArray, List.getElem?_cons_succ, List.getElem?_cons_zero]; rfl) (by kernel_rfl) (by kernel_rfl) (by kernel_rfl) (by exact fun _ _ _ h => h) (Or.inl ⟨by rfl, ?_⟩) (by assumption) ?_
                rotate_left
                · intro w hSw
                  try dsimp only at hSw
                  have s1 := hf6.below hSw hf6.lt
                  have s2 := hw6.tab.below hSw hw6.tab.lt
                  have k1 := s1.cellAt (i := 0) rfl
                  have k2 := s1.cellAt (i := 1) rfl
                  have k3 := s2.cellAt (tabV_at V' o1)
                  rw [hV8] at k3
                  clear s1 s2 hSw
                  go_simp
                  try with_reducible rfl
                try simp only [Act.put, List.setIfInBounds_toArray, List.set_cons_zero, List.set_cons_succ]
                refine wpAnyH_take (i := 5) (oi := _) (v := ?_) (by simp only [List.getElem?_toArray, List.getElem?_cons_succ, List.getElem?_cons_zero]; rfl) (by kernel_rfl) (by kernel_rfl) (by kernel_rfl) (by exact fun _ _ _ h => h) (Or.inl ⟨by rfl, ?_⟩) (by assumption) ?_
                rotate_left
                · intro w hSw
                  try dsimp only at hSw
                  have s1 := hf6.below hSw hf6.lt
                  have s2 := hw6.tab.below hSw hw6.tab.lt
                  have k1 := s1.cellAt (i := 0) rfl
                  have k2 := s1.cellAt (i := 1) rfl
                  have k3 := s2.cellAt (tabV_at V' o1)
                  rw [hV8] at k3
                  clear s1 s2 hSw
                  go_simp
                  try with_reducible rfl
                try simp only [Act.put, List.setIfInBounds_toArray, List.set_cons_zero, List.set_cons_succ]
                refine wpAnyH_take (i := 6) (oi := _) (v := ?_) (by simp only [List.getElem?_toArray, List.getElem?_cons_succ, List.getElem?_cons_zero]; rfl) (by kernel_rfl) (by kernel_rfl) (by kernel_rfl) (by exact fun _ _ _ h => h) (Or.inl ⟨by rfl, ?_⟩) (by assumption) ?_
                rotate_left
                · intro w hSw
                  try dsimp only at hSw
                  have s1 := hf6.below hSw hf6.lt
                  have s2 := hw6.tab.below hSw hw6.tab.lt
                  have k1 := s1.cellAt (i := 0) rfl
                  have k2 := s1.cellAt (i := 1) rfl
                  have k3 := s2.cellAt (tabV_at V' o1)
                  rw [hV8] at k3
                  clear s1 s2 hSw
                  go_simp
                  try with_reducible rfl
                try simp only [Act.put, List.setIfInBounds_toArray, List.set_cons_zero, List.set_cons_succ]
                refine wpAnyH_take (i := 7) (oi := _) (v := ?_) (by simp only [List.getElem?_toArray, List.getElem?_cons_succ, List.getElem?_cons_zero]; rfl) (by kernel_rfl) (by kernel_rfl) (by kernel_rfl) (by exact fun _ _ _ h => h) (Or.inl ⟨by rfl, ?_⟩) (by assumption) ?_
                rotate_left
                · intro w hSw
                  try dsimp only at hSw
                  have s1 := hf6.below hSw hf6.lt
                  have s2 := hw6.tab.below hSw hw6.tab.lt
                  have k1 := s1.cellAt (i := 0) rfl
                  have k2 := s1.cellAt (i := 1) rfl
                  have k3 := s2.cellAt (tabV_at V' o1)
                  rw [hV8] at k3
                  clear s1 s2 hSw
                  go_simp
                  try with_reducible rfl
                try simp only [Act.put, List.setIfInBounds_toArray, List.set_cons_zero, List.set_cons_succ]
                refine wpAnyH_take (i := 8) (oi := _) (v := ?_) (by simp only [List.getElem?_toArray, List.getElem?_cons_succ, List.getElem?_cons_zero]; rfl) (by kernel_rfl) (by kernel_rfl) (by kernel_rfl) (by exact fun _ _ _ h => h) (Or.inl ⟨by rfl, ?_⟩) (by assumption) ?_
                rotate_left
                · intro w hSw
                  try dsimp only at hSw
                  have s1 := hf6.below hSw hf6.lt
                  have s2 := hw6.tab.below hSw hw6.tab.lt
                  have k1 := s1.cellAt (i := 0) rfl
                  have k2 := s1.cellAt (i := 1) rfl
                  have k3 := s2.cellAt (tabV_at V' o1)
                  rw [hV8] at k3
                  clear s1 s2 hSw
                  go_simp
                  try with_reducible rfl
                try simp only [Act.put, List.setIfInBounds_toArray, List.set_cons_zero, List.set_cons_succ]
                refine wpAnyH_take (i := 9) (oi := _) (v := ?_) (by simp only [List.getElem?_toArray, List.getElem?_cons_succ, List.getElem?_cons_zero]; rfl) (by kernel_rfl) (by kernel_rfl) (by kernel_rfl) (by exact fun _ _ _ h => h) (Or.inl ⟨by rfl, ?_⟩) (by assumption) ?_
                rotate_left
                · intro w hSw
                  try dsimp only at hSw
                  have s1 := hf6.below hSw hf6.lt
                  have s2 := hw6.tab.below hSw hw6.tab.lt
                  have k1 := s1.cellAt (i := 0) rfl
                  have k2 := s1.cellAt (i := 1) rfl
                  have k3 := s2.cellAt (tabV_at V' o1)
                  rw [hV8] at k3
                  clear s1 s2 hSw
                  go_simp
                  try with_reducible rfl
                try simp only [Act.put, List.setIfInBounds_toArray, List.set_cons_zero, List.set_cons_succ]
                refine wpAnyH_ready (rs := [1]) (by kernel_rfl) (by simp) ?_
                refine AllReadyH.cons (o := _) (by simp only [List.getElem?_toArray, List.getElem?_cons_succ, List.getElem?_cons_zero]; rfl) (fun K hK => ?_) AllReadyH.nil
                go_simp
                try dsimp only at hHeld
                go_at_call 10
                (with_reducible refine (HL6.out _ hHeld).mono ?_)
                rintro x w6 ⟨rfl, rfl⟩
                try go_wp2_with fail
                refine hK.out _ _ ?_ (fun hHeld => ?_)
                · exact hHeld
                clear hK K
                try simp only [Act.put, List.setIfInBounds_toArray, List.set_cons_zero, List.set_cons_succ]
                refine wpAnyH_take (i := 10) (oi := _) (v := ?_) (by simp only [List.getElem?_toArray, List.getElem?_cons_succ, List.getElem?_cons_zero]; rfl) (by kernel_rfl) (by kernel_rfl) (by kernel_rfl) (by exact fun _ _ _ h => h) (Or.inl ⟨by rfl, ?_⟩) (by assumption) ?_
                rotate_left
                · intro w hSw
                  try dsimp only at hSw
                  have s1 := hf6.below hSw hf6.lt
                  have s2 := hw6.tab.below hSw hw6.tab.lt
                  have k1 := s1.cellAt (i := 0) rfl
                  have k2 := s1.cellAt (i := 1) rfl
                  have k3 := s2.cellAt (tabV_at V' o1)
                  rw [hV8] at k3
                  clear s1 s2 hSw
                  go_simp
                  try with_reducible rfl
                try simp only [Act.put, List.setIfInBounds_toArray, List.set_cons_zero, List.set_cons_succ]
                refine wpAnyH_take (i := 11) (oi := _) (v := ?_) (by simp only [List.getElem?_toArray, List.getElem?_cons_succ, List.getElem?_cons_zero]; rfl) (by kernel_rfl) (by kernel_rfl) (by kernel_rfl) (by exact fun _ _ _ h => h) (Or.inl ⟨by rfl, ?_⟩) (by assumption) ?_
                rotate_left
                · intro w hSw
                  try dsimp only at hSw
                  have s1 := hf6.below hSw hf6.lt
                  have s2 := hw6.tab.below hSw hw6.tab.lt
                  have k1 := s1.cellAt (i := 0) rfl
                  have k2 := s1.cellAt (i := 1) rfl
                  have k3 := s2.cellAt (tabV_at V' o1)
                  rw [hV8] at k3
                  clear s1 s2 hSw
                  go_simp
                  try with_reducible rfl
                try simp only [Act.put, List.setIfInBounds_toArray, List.set_cons_zero, List.set_cons_succ]
                refine wpAnyH_take (i := 12) (oi := _) (v := ?_) (by simp only [List.getElem?_toArray, List.getElem?_cons_succ, List.getElem?_cons_zero]; rfl) (by kernel_rfl) (by kernel_rfl) (by kernel_rfl) (by exact fun _ _ _ h => h) (Or.inl ⟨by rfl, ?_⟩) (by assumption) ?_
                rotate_left
                · intro w hSw
                  try dsimp only at hSw
                  have s1 := hf6.below hSw hf6.lt
                  have s2 := hw6.tab.below hSw hw6.tab.lt
                  have k1 := s1.cellAt (i := 0) rfl
                  have k2 := s1.cellAt (i := 1) rfl
                  have k3 := s2.cellAt (tabV_at V' o1)
                  rw [hV8] at k3
                  clear s1 s2 hSw
                  go_simp
                  try with_reducible rfl
                try simp only [Act.put, List.setIfInBounds_toArray, List.set_cons_zero, List.set_cons_succ]
                refine wpAnyH_take (i := 14) (oi := _) (v := ?_) (by simp only [List.getElem?_toArray, List.getElem?_cons_succ, List.getElem?_cons_zero]; rfl) (by kernel_rfl) (by kernel_rfl) (by kernel_rfl) (by exact fun _ _ _ h => h) (Or.inl ⟨by rfl, ?_⟩) (by assumption) ?_
                rotate_left
                · intro w hSw
                  try dsimp only at hSw
                  have s1 := hf6.below hSw hf6.lt
                  have s2 := hw6.tab.below hSw hw6.tab.lt
                  have k1 := s1.cellAt (i := 0) rfl
                  have k2 := s1.cellAt (i := 1) rfl
                  have k3 := s2.cellAt (tabV_at V' o1)
                  rw [hV8] at k3
                  clear s1 s2 hSw
                  go_simp
                  try with_reducible rfl
                try simp only [Act.put, List.setIfInBounds_toArray, List.set_cons_zero, List.set_cons_succ]
                refine wpAnyH_ready (rs := [13]) (by kernel_rfl) (by simp) ?_
                refine AllReadyH.cons (o := _) (by simp only [List.getElem?_toArray, List.getElem?_cons_succ, List.getElem?_cons_zero]; rfl) (fun K hK => ?_) AllReadyH.nil
                go_simp
                try dsimp only at hHeld
                go_at_call 11
                (with_reducible refine (HN6.out _ hHeld).mono ?_)
                rintro x w7 ⟨rfl, b7⟩
                try go_wp2_with fail
                refine hK.out _ _ ?_ (fun hHeld => ?_)
                · exact hHeld.trans (b7.mono hHeld.size)
                clear hK K
                try simp only [Act.put, List.setIfInBounds_toArray, List.set_cons_zero, List.set_cons_succ]
                refine wpAnyH_take (i := 15) (oi := _) (v := ?_) (by simp only [List.getElem?_toArray, List.getElem?_cons_succ, List.getElem?_cons_zero]; rfl) (by kernel_rfl) (by kernel_rfl) (by kernel_rfl) (by exact fun _ _ _ h => h) (Or.inl ⟨by rfl, ?_⟩) (by assumption) ?_
                rotate_left
                · intro w hSw
                  try dsimp only at hSw
                  have s1 := hf6.below hSw hf6.lt
                  have s2 := hw6.tab.below hSw hw6.tab.lt
                  have k1 := s1.cellAt (i := 0) rfl
                  have k2 := s1.cellAt (i := 1) rfl
                  have k3 := s2.cellAt (tabV_at V' o1)
                  rw [hV8] at k3
                  clear s1 s2 hSw
                  go_simp
                  try with_reducible rfl
                try simp only [Act.put, List.setIfInBounds_toArray, List.set_cons_zero, List.set_cons_succ]
                refine wpAnyH_take (i := 16) (oi := _) (v := ?_) (by simp only [List.getElem?_toArray, List.getElem?_cons_succ, List.getElem?_cons_zero]; rfl) (by kernel_rfl) (by kernel_rfl) (by kernel_rfl) (by exact fun _ _ _ h => h) (Or.inl ⟨by rfl, ?_⟩) (by assumption) ?_
                rotate_left
                · intro w hSw
                  try dsimp only at hSw
                  have s1 := hf6.below hSw hf6.lt
                  have s2 := hw6.tab.below hSw hw6.tab.lt
                  have k1 := s1.cellAt (i := 0) rfl
                  have k2 := s1.cellAt (i := 1) rfl
                  have k3 := s2.cellAt (tabV_at V' o1)
                  rw [hV8] at k3
                  clear s1 s2 hSw
                  go_simp
                  try with_reducible rfl
                try simp only [Act.put, List.setIfInBounds_toArray, List.set_cons_zero, List.set_cons_succ]
                refine wpAnyH_done (by kernel_rfl) ?_ _
                refine NoPanic.normal ?_
                have HH := hide hHeld
                go_wp2_with fail
                go_meet
                exact ⟨rfl, HH.out⟩
              case rest =>
                obtain ⟨rfl, hb6⟩ := hcut
                go_wp2_with fail
                go_roundw
                case rel => go_light; exact ⟨j + 1, Fs', V', by omega, by go_num, by rw [hsm], hw6.below hb6⟩
                case measure => go_light; simp [intOf]; omega
      · obtain rfl : j = n := by omega
        go_wp2_with fail
        go_ret
        exact ⟨rfl, h.under⟩
end Go.Proofs.Ythbgmcbhldhejaa.netRuns
