/- The walk of DiskRuns: it returns true at all arguments and leaves what was there as it was. -/
import Derived.Test.YthafhmpbhhpfbaaOpenC
import Derived.Test.YthafhmpbhhpfbaaBitsI
import Derived.Deep.RegionHeld3
namespace Go.Proofs.Ythafhmpbhhpfbaa.diskRuns
open Go.RowKit Go.Maps

attribute [local go_sem ↓] loadS_fold storeS_fold allocS_fold lookS_fold putS_fold sliceS_fold copyS_fold eqS_fold buildS_fold loadL_fold storeL_fold allocL_fold buildL_fold oneL_fold appL_fold loadC_fold storeC_fold allocC_fold
attribute [local go_sem] loadS_has storeS_has allocS_run lookS_has putS_has sliceS_all sliceS_k copyS_k eqS_run buildS_none loadL_has storeL_has allocL_run buildL_run oneL_run appL_has loadC_has storeC_has allocC_run

/-- How many writes the law lets an armed disk take. -/
def lv (S : DS) : Int := if S.armed = true then S.left else -1
/-- The disk, and the law's own map, slice and numbers, say the same. -/
structure LawAt (w0 w : World) (d ms p K : Nat) (S : DS) (v5 v6 v7 : Value) : Prop where
  disk : AtL w0 (fun b => b = ms ∨ v5.ownBlock = some b ∨ b = p) w d K S
  map : ∃ nm, MapIs w ms nm S.f ∧ nm + S.ws.length ≤ K
  own : w.ownsRow w0.heap.size 35 65 v5 S.ws.length (wsV S.ws)
  ms_ : w0.heap.size ≤ ms
  p_ : w0.heap.size ≤ p
  v6_ : v6 = .int .i64 (lv S)
  v7_ : v7 = .bool S.down
theorem LawAt.call {w0 w w' : World} {d ms p p' K : Nat} {S : DS} {v5 v6 v7 : Value} (h : LawAt w0 w d ms p K S v5 v6 v7) (k : Below w.heap.size w w') (hp : w.heap.size ≤ p') (hp' : p' < w'.heap.size) : LawAt w0 w' d ms p' K S v5 v6 v7 := by
  obtain ⟨nm, h1, h2⟩ := h.map
  have hs := h.disk.below.size
  refine ⟨h.disk.own k (fun b hb => ?_), ⟨nm, h1.only (only_of_below k fun _ => False) (fun e => e), h2⟩, own_only h.own (only_of_below k fun _ => False) (fun _ _ e => e), h.ms_, by omega, h.v6_, h.v7_⟩
  rcases hb with rfl | hb | rfl
  · exact ⟨.inl (.inl rfl), Nat.lt_of_lt_of_le h1.lt k.size⟩
  · exact ⟨.inl (.inr (.inl hb)), Nat.lt_of_lt_of_le (h.own.lt b hb).2 k.size⟩
  · exact ⟨.inr hp, hp'⟩
theorem LawAt.grow {w0 w w' : World} {d ms p K : Nat} {S : DS} {v5 v6 v7 : Value} (h : LawAt w0 w d ms p K S v5 v6 v7) (k : Below w.heap.size w w') : LawAt w0 w' d ms p K S v5 v6 v7 := by
  obtain ⟨nm, h1, h2⟩ := h.map
  exact ⟨h.disk.grow k, ⟨nm, h1.only (only_of_below k fun _ => False) (fun e => e), h2⟩, own_only h.own (only_of_below k fun _ => False) (fun _ _ e => e), h.ms_, h.p_, h.v6_, h.v7_⟩
/-- The next round begins. -/
theorem LawAt.next {w0 w : World} {d ms p K K' : Nat} {S : DS} {v5 v6 v7 : Value} (h : LawAt w0 w d ms p K S v5 v6 v7) (hK : K ≤ K') : LawAt w0 w d ms ms K' S v5 v6 v7 := by
  obtain ⟨nm, h1, h2⟩ := h.map
  refine ⟨?_, ⟨nm, h1, by omega⟩, h.own, h.ms_, h.ms_, h.v6_, h.v7_⟩
  obtain ⟨B, b1, b2, b3, b4⟩ := h.disk
  exact ⟨B, b1.more hK, fun b hb => ⟨(b2 b hb).1, fun e => (b2 b hb).2 (by rcases e with e | e | e; exact .inl e; exact .inr (.inl e); exact .inl e)⟩, b3, fun b hb => b4 b (by rcases hb with e | e | e; exact .inl e; exact .inr (.inl e); exact .inl e)⟩

theorem LawAt.more {w0 w : World} {d ms p K K' : Nat} {S : DS} {v5 v6 v7 : Value} (h : LawAt w0 w d ms p K S v5 v6 v7) (hK : K ≤ K') : LawAt w0 w d ms p K' S v5 v6 v7 := by
  obtain ⟨nm, h1, h2⟩ := h.map
  obtain ⟨B, b1, b2, b3, b4⟩ := h.disk
  exact ⟨⟨B, b1.more hK, b2, b3, b4⟩, ⟨nm, h1, by omega⟩, h.own, h.ms_, h.p_, h.v6_, h.v7_⟩
/-- A call of the disk's leaves what the law has. -/
theorem LawAt.kept {w0 w w' : World} {d ms p K : Nat} {S : DS} {v5 v6 v7 : Value} (h : LawAt w0 w d ms p K S v5 v6 v7) (k : Kept (fun b => b = ms ∨ v5.ownBlock = some b ∨ b = p) w w') :
    (∃ nm, MapIs w' ms nm S.f ∧ nm + S.ws.length ≤ K) ∧ w'.ownsRow w0.heap.size 35 65 v5 S.ws.length (wsV S.ws) := by
  obtain ⟨nm, h1, h2⟩ := h.map
  exact ⟨⟨nm, h1.only k (fun e => e (.inl rfl)), h2⟩, own_only h.own k (fun g hg e => e (.inr (.inl hg)))⟩

set_option maxRecDepth 100000 in
set_option maxHeartbeats 25600000 in
theorem walk (w : World) (A : Option Addr) (n c : Nat) (F : Nat → Cal) (hC : Cals w w.heap.size A n F) (_ : n ≤ c) (_ : c ≤ maxLen) :
    Calls Try.prog 3 #[.slice A n c] w fun e w' => e = .returned (.bool true) ∧ Below w.heap.size w w' := by
  have hmm := @run_makeMap Try.prog
  go_enter Try.func3, Try.ntmps3
  go_wp2_with fail
  (with_reducible refine (fit_runs w).mono ?_)
  rintro e w1 ⟨rfl, hb1⟩
  by_cases g1 : 150 < n
  · have d1 : decide ((150 : Int) < (n : Int)) = true := decide_eq_true (by omega)
    go_wp2_with fail
    go_ret
    exact ⟨rfl, hb1⟩
  have d1 : decide ((150 : Int) < (n : Int)) = false := decide_eq_false (by omega)
  go_wp2_with fail
  (with_reducible refine (atL_new (w0 := w) (L := fun _ => False) hb1 (fun b e => e.elim)).mono ?_)
  rintro e w2 ⟨d, rfl, hAt, hb2⟩
  clear d1
  have hL : LawAt w (w2.alloc (.map #[] 0)) d w2.heap.size w2.heap.size 0 newS (.slice none 0 0) (.int .i64 (-1)) (.bool false) := by
    have hs := hAt.below.size
    refine ⟨hAt.own ((Below.refl _ _).alloc (Nat.le_refl _) _) (fun b hb => ?_), ⟨0, mapIs_made _, by simp [newS]⟩, World.ownsRow_nil _ _ _ _, hs, hs, rfl, rfl⟩
    rcases hb with rfl | hb | rfl
    · exact ⟨.inr (Nat.le_refl _), by simp⟩
    · simp [Value.ownBlock] at hb
    · exact ⟨.inr (Nat.le_refl _), by simp⟩
  go_upto_region 7 with fail
  clear hAt hb1 hb2 hmm
  generalize w2.alloc (.map #[] 0) = w3 at *
  generalize w2.heap.size = ms at *
  go_wp2_with fail
  go_loopw [5, 6, 7, 29] (fun s5 s6 s7 s29 wr => ∃ (i : Nat) (S : DS), i ≤ n ∧ s29 = .int .i64 i ∧ LawAt w wr d ms ms i S s5 s6 s7) (fun _ _ _ s29 _ => n - (intOf s29).toNat)
  case atStart => exact ⟨0, newS, by omega, rfl, hL⟩
  case round =>
    clear hL
    obtain ⟨i, S, hi, rfl, hL⟩ := hrel
    by_cases hlt : i < n
    · have dl : (i : Int) < (n : Int) := by omega
      have hCr := hC.keep hL.disk.below
      obtain ⟨b, off, rfl, r1, r2⟩ := hCr.got hlt
      have hin := hCr.each i hlt
      have hin0 := hC.each i hlt
      clear hCr
      generalize F i = cl at *
      have hi5 := callV_is cl
      have ha := VBlk.new wr 30 (callV cal0)
      have hrm := ha.room 0 5 (by decide)
      have hf := ha.fill (us := callV cl) rfl
      have hB0 : Below wr.heap.size wr (wr.alloc (.cells (callV cal0).toArray 30)) := (Below.refl _ _).alloc (Nat.le_refl _) _
      have hBf : Below wr.heap.size wr ((wr.alloc (.cells (callV cal0).toArray 30)).setCells wr.heap.size 0 (callV cl)) := below_only hB0 (only_cells _ _ _ _) (fun i (e : i = wr.heap.size) => by omega) hB0.size
      have hL1 := hL.call hBf (Nat.le_refl _) hf.lt
      have hin1 := hin.keep (hBf.mono hL.disk.below.size)
      go_upto_region 12 with fail
      clear hL hin hBf hB0 hrm ha r1 r2
      generalize wr.heap.size = p at *
      generalize (wr.alloc (.cells (callV cal0).toArray 30)).setCells p 0 (callV cl) = w4 at *
      have c0 := hf.cellAt (i := 0) rfl
      have c4 := hf.cellAt (i := 4) rfl
      by_cases g2 : 200 < cl.s.n
      · have d2 : decide ((200 : Int) < (cl.s.n : Int)) = true := decide_eq_true (by omega)
        have hb := hL1.disk.below
        go_wp2_with fail
        go_ret
        exact ⟨rfl, hb⟩
      have d2 : decide ((200 : Int) < (cl.s.n : Int)) = false := decide_eq_false (by omega)
      go_upto_region 14 with fail
      have hkb : -5 < cl.kind.tmod 5 ∧ cl.kind.tmod 5 < 5 := ⟨by have := Int.tmod_lt_of_pos (-cl.kind) (b := 5) (by decide); rw [Int.neg_tmod] at this; omega, Int.tmod_lt_of_pos _ (by decide)⟩
      obtain ⟨hk1, hk2⟩ := hkb
      go_upto_block 2 with fail
      obtain ⟨kk, hkk, hk3, hk4⟩ : ∃ kk : Int, (cl.kind.tmod 5 + 5) % 5 = kk ∧ 0 ≤ kk ∧ kk < 5 := ⟨_, rfl, Int.emod_nonneg _ (by decide), Int.emod_lt_of_pos _ (by decide)⟩
      rw [hkk]
      clear hkk
      generalize cl.kind.tmod 5 = kt at *
      generalize kt + 5 = kt5 at *
      clear hk1 hk2 c0 c4 d2
      have hLi := hL1.v6_
      have hLd := hL1.v7_
      subst hLi hLd
      obtain ⟨A5, c5, rfl⟩ := own_slice hL1.own
      go_cut [5, 6, 7] (fun s5 s6 s7 wx => ∃ S', LawAt w wx d ms p (i + 1) S' s5 s6 s7 ∧ VBlk wx p 30 (callV cl))
      case first =>
        obtain ⟨bn1, bn2⟩ := bounds_i64 hin1.n
        have cN := hf.cellAt (i := 2) rfl
        have k2 := hL1.disk.left0
        by_cases q2 : kk = 2
        · as_aux_lemma =>
            subst q2
            cases hdn : S.down with
            | true =>
              have hsy : synS S = (4, S) := by simp [synS, hdn]
              go_wp2_with fail
              (with_reducible refine (hL1.disk.sync (by omega)).mono ?_)
              rintro e w5 ⟨rfl, hA5, hk5⟩
              rw [hsy] at hA5 ⊢
              obtain ⟨hm5, ho5⟩ := hL1.kept hk5
              have hf5 := hf.only hk5 (fun e => e (.inr (.inr rfl)))
              have FIN : ∃ S', LawAt w w5 d ms p (i + 1) S' (.slice A5 S.ws.length c5) (.int .i64 (lv S)) (.bool true) ∧ VBlk w5 p 30 (callV cl) :=
                ⟨S, (LawAt.mk hA5 hm5 ho5 hL1.ms_ hL1.p_ rfl (by rw [hdn])).more (Nat.le_succ i), hf5⟩
              have FIN := hide FIN
              clear hA5 hk5 hm5 ho5 hf5 hL1 hsy
              go_wp2_with fail
              go_meet
              exact FIN.out
            | false =>
              have hsy : synS S = (0, { S with f := syncF S.f S.ws, ws := [] }) := by simp [synS, hdn]
              go_wp2_with fail
              (with_reducible refine (hL1.disk.sync (by omega)).mono ?_)
              rintro e w5 ⟨rfl, hA5, hk5⟩
              rw [hsy] at hA5 ⊢
              obtain ⟨⟨nm, hm5, hnm⟩, ho5⟩ := hL1.kept hk5
              have hf5 := hf.only hk5 (fun e => e (.inr (.inr rfl)))
              have hw := hL1.disk.wrs
              have hms := hL1.ms_
              have hpp := hL1.p_
              have hmp := map_ne hm5 hf5
              have hmo := map_own_ne hm5 ho5
              clear hk5 hL1 hsy
              dsimp only at hA5
              generalize hlen : S.ws.length = k at *
              go_wp2_with fail
              go_loopw [95] (fun s95 wq => ∃ j : Nat, j ≤ k ∧ s95 = .int .i64 j ∧ MapIs wq ms (nm + j) (syncF S.f (S.ws.take j)) ∧ AtL w (fun b => b = ms ∨ (Value.slice A5 k c5).ownBlock = some b ∨ b = p) wq d i { S with f := syncF S.f S.ws, ws := [] } ∧ wq.ownsRow w.heap.size 35 65 (.slice A5 k c5) k (wsV S.ws) ∧ VBlk wq p 30 (callV cl)) (fun s95 _ => k - (intOf s95).toNat)
              case atStart => exact ⟨0, by omega, rfl, hm5, hA5, ho5, hf5⟩
              case round =>
                clear hm5 hA5 ho5 hf5
                obtain ⟨j, hj, rfl, hM, hA, hO, hfq⟩ := hrel
                by_cases hlt2 : j < k
                · have dl2 : (j : Int) < (k : Int) := by omega
                  obtain ⟨g, rfl, rr, hh⟩ := own_at hO hlen hw j (by omega)
                  have hst := syncF_step S.f S.ws j (by omega)
                  have hkx := hw S.ws[j] (List.getElem_mem _)
                  generalize S.ws[j] = pr at *
                  obtain ⟨x, bs⟩ := pr
                  dsimp only at *
                  have hlb := hkx.2.wlen x
                  have hvl := hkx.2.vlen
                  have hkx1 := hkx.1
                  have ha := VBlk.new wr 35 (wrV 0 zs64)
                  have hrm := ha.room 0 65 (by rw [wrV_length]; decide)
                  have hi65 : Is 65 (wrV x bs) := ⟨hlb, wrV_one _ _⟩
                  have hfw := ha.fill (us := wrV x bs) (by rw [hlb, wrV_length]; rfl)
                  have hB0 : Below wr.heap.size wr (wr.alloc (.cells (wrV 0 zs64).toArray 35)) := (Below.refl _ _).alloc (Nat.le_refl _) _
                  have hBf : Below wr.heap.size wr ((wr.alloc (.cells (wrV 0 zs64).toArray 35)).setCells wr.heap.size 0 (wrV x bs)) := below_only hB0 (only_cells _ _ _ _) (fun i (e : i = wr.heap.size) => by omega) hB0.size
                  go_upto_region 35 with fail
                  have hM2 := hM.only (only_of_below hBf (fun _ => False)) (fun e => e)
                  have hA2 := hA.grow hBf
                  have hO2 := own_only hO (only_of_below hBf (fun _ => False)) (fun _ _ e => e)
                  have hfq2 := hfq.below hBf hfq.lt
                  clear hrm ha hB0 rr hh hM hA hO hfq hBf
                  generalize wr.heap.size = p2 at *
                  generalize (wr.alloc (.cells (wrV 0 zs64).toArray 35)).setCells p2 0 (wrV x bs) = w6 at *
                  have cx := hfw.cellAt (i := 0) rfl
                  obtain ⟨rr, hh⟩ := hfw.got 1 64 (by rw [hlb]; decide)
                  rw [show ((wrV x bs).drop 1).take 64 = u8V bs from List.take_of_length_le (Nat.le_of_eq hvl)] at rr
                  obtain ⟨rm, hhm⟩ := hM2.got (by omega) x
                  obtain ⟨_, p2', p3⟩ := hM2.put (by omega) hkx1 bs
                  have hA3 := hA2.turn p3 (fun b (e : b = ms) => ⟨.inl e, by rw [e]; exact hms⟩)
                  have hO3 := own_only hO2 p3 (fun g hg (e : g = ms) => hmo (by rw [hg]; exact congrArg some e))
                  have hfq3 := hfq2.only p3 (fun e => hmp e.symm)
                  have hM3 : MapIs (putW w6 ms x (secV bs)) ms (nm + (j + 1)) (syncF S.f (S.ws.take (j + 1))) := by
                    rw [hst]
                    exact p2'
                  have FIN := hide (And.intro hM3 (And.intro hA3 (And.intro hO3 hfq3)))
                  clear hM2 hA2 hO2 hfq2 p2' p3 hA3 hO3 hfq3 hM3 hst hfw rm hkx
                  go_wp2_with fail
                  go_roundw
                  case rel => go_light; obtain ⟨t1, t2, t3, t4⟩ := FIN.out; exact ⟨j + 1, by omega, by go_num, t1, t2, t3, t4⟩
                  case measure => go_light; simp [intOf]; omega
                · obtain rfl : k = j := by omega
                  have dl2 : ¬ ((k : Int) < (k : Int)) := by omega
                  have e0 : S.ws.take k = S.ws := List.take_of_length_le (by omega)
                  rw [e0] at hM
                  have FIN : ∃ S', LawAt w wr d ms p (i + 1) S' (.slice none 0 0) (.int .i64 (lv S)) (.bool false) ∧ VBlk wr p 30 (callV cl) := by
                    refine ⟨{ S with f := syncF S.f S.ws, ws := [] }, (LawAt.mk (hA.own (Below.refl _ _) (fun b hb => ?_)) ⟨nm + k, hM, by simpa using hnm⟩ (World.ownsRow_nil _ _ _ _) hms hpp rfl (by rw [hdn])).more (Nat.le_succ i), hfq⟩
                    rcases hb with rfl | hb | rfl
                    · exact ⟨.inl (.inl rfl), hM.lt⟩
                    · simp [Value.ownBlock] at hb
                    · exact ⟨.inl (.inr (.inr rfl)), hfq.lt⟩
                  have FIN := hide FIN
                  clear hM hA hO hfq
                  go_wp2_with fail
                  go_meet
                  exact FIN.out
        by_cases q3 : kk = 3
        · as_aux_lemma =>
            subst q3
            go_wp2_with fail
            (with_reducible refine (hL1.disk.arm cl.n bn1 bn2).mono ?_)
            rintro e w5 ⟨⟨v, rfl⟩, hA5, hk5⟩
            obtain ⟨hm5, ho5⟩ := hL1.kept hk5
            have hf5 := hf.only hk5 (fun e => e (.inr (.inr rfl)))
            have cN := hf5.cellAt (i := 2) rfl
            have FIN : ∀ z : Int, z = max cl.n 0 → ∃ S', LawAt w w5 d ms p (i + 1) S' (.slice A5 S.ws.length c5) (.int .i64 z) (.bool S.down) ∧ VBlk w5 p 30 (callV cl) := fun z hz =>
              ⟨armS cl.n S, (LawAt.mk hA5 hm5 ho5 hL1.ms_ hL1.p_ (by rw [hz]; rfl) rfl).more (Nat.le_succ i), hf5⟩
            have FIN := hide FIN
            clear hA5 hk5 hm5 ho5 hf5 hL1
            go_wp2_with fail
            all_goals
              go_meet
              exact FIN.out _ (by go_light; omega)
        by_cases q4 : kk = 4
        · as_aux_lemma =>
            subst q4
            obtain ⟨bm1, bm2⟩ := bounds_i64 hin1.mask
            obtain ⟨bt1, bt2⟩ := bounds_i64 hin1.at_
            have hm5 := hL1.map
            have ho5 := hL1.own
            have hA5 := hL1.disk
            have hw := hL1.disk.wrs
            have hsf := hL1.disk.sure
            have hms := hL1.ms_
            have hpp := hL1.p_
            obtain ⟨nm, hm5, hnm⟩ := hm5
            have hmp := map_ne hm5 hf
            have hmo := map_own_ne hm5 ho5
            have HQ := hide (cutN_w cl.n)
            have hq64 := cutN_le cl.n
            have HCr := hide (show craS cl.mask cl.at_ cl.n S = ⟨crashF cl.mask cl.at_ (cutN cl.n) S.ws S.f S.ws.length, [], false, S.left, false⟩ from rfl)
            generalize cutN cl.n = q at *
            clear hL1 cN
            generalize hlen : S.ws.length = k at *
            go_wp2_with fail
            go_loopw [118] (fun s118 wq => ∃ j : Nat, j ≤ k ∧ s118 = .int .i64 j ∧ MapIs wq ms (nm + j) (crashF cl.mask cl.at_ q S.ws S.f j) ∧ (∀ y, Sect (crashF cl.mask cl.at_ q S.ws S.f j y)) ∧ AtL w (fun b => b = ms ∨ (Value.slice A5 k c5).ownBlock = some b ∨ b = p) wq d i S ∧ wq.ownsRow w.heap.size 35 65 (.slice A5 k c5) k (wsV S.ws) ∧ VBlk wq p 30 (callV cl)) (fun s118 _ => k - (intOf s118).toNat)
            case atStart => exact ⟨0, by omega, rfl, hm5, hsf, hA5, ho5, hf⟩
            case round =>
              clear hm5 hA5 ho5 hf
              obtain ⟨j, hj, rfl, hM, hfx, hA, hO, hfq⟩ := hrel
              by_cases hlt2 : j < k
              · have dl2 : (j : Int) < (k : Int) := by omega
                obtain ⟨g, rfl, rr, hh⟩ := own_at hO hlen hw j (by omega)
                have hst : crashF cl.mask cl.at_ q S.ws S.f (j + 1) = crashStep cl.mask cl.at_ q j S.ws[j] (crashF cl.mask cl.at_ q S.ws S.f j) := by
                  rw [crashF]
                  congr 1
                  simp [List.getD, show j < S.ws.length by omega]
                have hst := hide hst
                have hkx := hw S.ws[j] (List.getElem_mem _)
                generalize crashF cl.mask cl.at_ q S.ws S.f j = fj at *
                generalize S.ws[j] = pr at *
                obtain ⟨x, bs⟩ := pr
                dsimp only at *
                have hlb := hkx.2.wlen x
                have hvl := hkx.2.vlen
                have hkx1 := hkx.1
                have ha := VBlk.new wr 35 (wrV 0 zs64)
                have hrm := ha.room 0 65 (by rw [wrV_length]; decide)
                have hi65 : Is 65 (wrV x bs) := ⟨hlb, wrV_one _ _⟩
                have hfw := ha.fill (us := wrV x bs) (by rw [hlb, wrV_length]; rfl)
                have hB0 : Below wr.heap.size wr (wr.alloc (.cells (wrV 0 zs64).toArray 35)) := (Below.refl _ _).alloc (Nat.le_refl _) _
                have hBf : Below wr.heap.size wr ((wr.alloc (.cells (wrV 0 zs64).toArray 35)).setCells wr.heap.size 0 (wrV x bs)) := below_only hB0 (only_cells _ _ _ _) (fun i (e : i = wr.heap.size) => by omega) hB0.size
                go_upto_region 45 with fail
                have hM2 := hM.only (only_of_below hBf (fun _ => False)) (fun e => e)
                have hA2 := hA.grow hBf
                have hO2 := own_only hO (only_of_below hBf (fun _ => False)) (fun _ _ e => e)
                have hfq2 := hfq.below hBf hfq.lt
                clear hrm ha hB0 rr hh hM hA hO hfq hBf
                generalize wr.heap.size = p2 at *
                generalize (wr.alloc (.cells (wrV 0 zs64).toArray 35)).setCells p2 0 (wrV x bs) = w6 at *
                have cx := hfw.cellAt (i := 0) rfl
                have ct := hfq2.cellAt (i := 1) rfl
                obtain ⟨rr, hh⟩ := hfw.got 1 64 (by rw [hlb]; decide)
                rw [show ((wrV x bs).drop 1).take 64 = u8V bs from List.take_of_length_le (Nat.le_of_eq hvl)] at rr
                obtain ⟨rm, hhm⟩ := hM2.got (by omega) x
                by_cases ht : (j : Int) = cl.at_
                ·
                  have dt : ((j : Int) == cl.at_) = true := by simpa using ht
                  have hst2 := hst.out
                  unfold crashStep at hst2
                  rw [if_pos ht] at hst2
                  have hst2 := hide hst2
                  clear ht
                  have hfl := (hfx x).vlen
                  have hmx := mixB_sect hq64 hkx.2 (hfx x)
                  have ha := VBlk.new w6 33 (u8V zs64)
                  have hrm := ha.room 0 64 (by decide)
                  have hi64 : Is 64 (u8V (fj x)) := ⟨hfl, u8V_one _⟩
                  have hm7 := hM2.alloc (.cells (u8V zs64).toArray 33)
                  obtain ⟨rm7, hhm7⟩ := hm7.got (by omega) x
                  have cx7 := (hfw.alloc (.cells (u8V zs64).toArray 33)).cellAt (i := 0) rfl
                  have hf15 := ha.fill (us := u8V (fj x)) (by rw [hfl]; rfl)
                  have hB0 : Below w6.heap.size w6 (w6.alloc (.cells (u8V zs64).toArray 33)) := (Below.refl _ _).alloc (Nat.le_refl _) _
                  have hBf : Below w6.heap.size w6 ((w6.alloc (.cells (u8V zs64).toArray 33)).setCells w6.heap.size 0 (u8V (fj x))) := below_only hB0 (only_cells _ _ _ _) (fun i (e : i = w6.heap.size) => by omega) hB0.size
                  have hpp2 := hfw.lt
                  have hpp3 := hfq2.lt
                  go_upto_region 47 with fail
                  have hfq3 := hfq2.below hBf hfq2.lt
                  have hfw3 := hfw.below hBf hfw.lt
                  clear hrm ha hB0 rr hh rm hhm rm7 hhm7 cx7 hm7 cx ct hi64
                  generalize hp3 : w6.heap.size = p3 at *
                  generalize (w6.alloc (.cells (u8V zs64).toArray 33)).setCells p3 0 (u8V (fj x)) = w7 at *
                  have hq := HQ.out
                  have hk4 : Le64 q := hq64
                  have cn7 := hfq3.drew.cellAt (i := 2) rfl
                  obtain ⟨rr, hh⟩ := hfw3.drew.got 1 64 (by rw [hlb]; decide)
                  rw [show ((wrV x bs).drop 1).take 64 = u8V bs from List.take_of_length_le (Nat.le_of_eq hvl)] at rr
                  have hrm := hf15.drew.room 0 64 (by rw [hfl]; decide)
                  have h1c := ones_u8 bs
                  have hkl : (List.take q (u8V bs)).length = q := by rw [List.length_take, hvl]; omega
                  have hmq : List.take q (u8V bs) ++ (u8V (fj x)).drop (List.take q (u8V bs)).length = u8V (mixB q bs (fj x)) := by
                    rw [hkl]
                    simp [u8V, mixB]
                  have h6' := hf15.drew.fillK (us := List.take q (u8V bs)) (by rw [hkl, hfl]; exact hq64)
                  rw [hmq] at h6'
                  have oc : Only (· = p3) w7.drew (w7.drew.setCells p3 0 (List.take q (u8V bs))) := only_cells _ _ _ _
                  have B8 : Below p3 w6 (w7.drew.setCells p3 0 (List.take q (u8V bs))) := below_only hBf.drew oc (fun i (e : i = p3) => by omega) (by have := hBf.size; have := hf15.lt; show p3 ≤ w7.heap.size; omega)
                  have B8' : Below w6.heap.size w6 (w7.drew.setCells p3 0 (List.take q (u8V bs))) := hp3.symm ▸ B8
                  have K8 := hide (And.intro h6' (And.intro (hfw.below B8 hpp2) (And.intro (hfq2.below B8 hpp3) (And.intro (hM2.only (only_of_below B8' fun _ => False) (fun e => e)) (And.intro (own_only hO2 (only_of_below B8' fun _ => False) (fun _ _ e => e)) (hA2.grow B8'))))))
                  clear h6' B8 B8' oc hM2 hA2 hO2 hfq2 hfw hBf hfq3 hfw3 hf15 hmq
                  go_cut [15] (fun s15 wx => s15 = .pointer (some ⟨p3, 0, none⟩) ∧ VBlk wx p3 33 (u8V (mixB q bs (fj x))) ∧ VBlk wx p2 35 (wrV x bs) ∧ VBlk wx p 30 (callV cl) ∧ MapIs wx ms (nm + j) fj ∧ wx.ownsRow w.heap.size 35 65 (.slice (some ⟨g, 0, none⟩) k c5) k (wsV S.ws) ∧ AtL w (fun b => b = ms ∨ (Value.slice (some ⟨g, 0, none⟩) k c5).ownBlock = some b ∨ b = p) wx d i S)
                  case first =>
                    go_region
                    all_goals go_wp2_with fail
                    all_goals
                      go_meet
                      exact ⟨rfl, K8.out⟩
                  case rest =>
                    clear K8 hq rr hh hrm h1c hkl cn7 hk4
                    obtain ⟨rfl, h6, hfw, hfq2, hM2, hO2, hA2⟩ := hcut
                    have cx := hfw.cellAt (i := 0) rfl
                    obtain ⟨rr, hh⟩ := h6.whole hmx.vlen
                    obtain ⟨rm, hhm⟩ := hM2.got (by omega) x
                    obtain ⟨_, p2', p3'⟩ := hM2.put (by omega) hkx1 (mixB q bs (fj x))
                    have hA3 := hA2.turn p3' (fun b (e : b = ms) => ⟨.inl e, by rw [e]; exact hms⟩)
                    have hO3 := own_only hO2 p3' (fun g hg (e : g = ms) => hmo (by rw [hg]; exact congrArg some e))
                    have hfq3 := hfq2.only p3' (fun e => hmp e.symm)
                    have hM3 : MapIs (putW wc ms x (secV (mixB q bs (fj x)))) ms (nm + (j + 1)) (crashF cl.mask cl.at_ q S.ws S.f (j + 1)) := by
                      rw [hst2.out]
                      exact p2'
                    have hf3 : ∀ y, Sect (crashF cl.mask cl.at_ q S.ws S.f (j + 1) y) := by rw [hst2.out]; exact updF_sect hfx hmx
                    have FIN := hide (And.intro hM3 (And.intro hf3 (And.intro hA3 (And.intro hO3 hfq3))))
                    clear hM2 hA2 hO2 hfq2 p2' p3' hA3 hO3 hfq3 hM3 hst hfw rm hkx hf3 hst2
                    generalize mixB q bs (fj x) = mx at *
                    go_wp2_with fail
                    go_roundw
                    case rel => go_light; obtain ⟨t1, t2, t3, t4, t5⟩ := FIN.out; exact ⟨j + 1, by omega, by go_num, t1, t2, t3, t4, t5⟩
                    case measure => go_light; simp [intOf]; omega
                ·
                  have dt : ((j : Int) == cl.at_) = false := by simpa using ht
                  have cm := hfq2.cellAt (i := 3) rfl
                  cases hb : (bits .and .i64 (cl.mask / 2 ^ (j % 32)) 1 == 1) with
                  | true =>
                    have hst2 := hst.out
                    unfold crashStep bitOn at hst2
                    rw [if_neg ht, if_pos hb] at hst2
                    obtain ⟨_, p2', p3'⟩ := hM2.put (by omega) hkx1 bs
                    have hA3 := hA2.turn p3' (fun b (e : b = ms) => ⟨.inl e, by rw [e]; exact hms⟩)
                    have hO3 := own_only hO2 p3' (fun g hg (e : g = ms) => hmo (by rw [hg]; exact congrArg some e))
                    have hfq3 := hfq2.only p3' (fun e => hmp e.symm)
                    have hM3 : MapIs (putW w6 ms x (secV bs)) ms (nm + (j + 1)) (crashF cl.mask cl.at_ q S.ws S.f (j + 1)) := by
                      rw [hst2]
                      exact p2'
                    have hf3 : ∀ y, Sect (crashF cl.mask cl.at_ q S.ws S.f (j + 1) y) := by rw [hst2]; exact updF_sect hfx hkx.2
                    have FIN := hide (And.intro hM3 (And.intro hf3 (And.intro hA3 (And.intro hO3 hfq3))))
                    clear hM2 hA2 hO2 hfq2 p2' p3' hA3 hO3 hfq3 hM3 hst hst2 hfw rm hkx hf3
                    go_wp2_with fail
                    go_roundw
                    case rel => go_light; obtain ⟨t1, t2, t3, t4, t5⟩ := FIN.out; exact ⟨j + 1, by omega, by go_num, t1, t2, t3, t4, t5⟩
                    case measure => go_light; simp [intOf]; omega
                  | false =>
                    have hst2 := hst.out
                    unfold crashStep bitOn at hst2
                    rw [if_neg ht, if_neg (by rw [hb]; decide)] at hst2
                    have hM3 : MapIs w6 ms (nm + (j + 1)) (crashF cl.mask cl.at_ q S.ws S.f (j + 1)) := by rw [hst2]; exact hM2.mono (by omega)
                    have hf3 : ∀ y, Sect (crashF cl.mask cl.at_ q S.ws S.f (j + 1) y) := by rw [hst2]; exact hfx
                    have FIN := hide (And.intro hM3 (And.intro hf3 (And.intro hA2 (And.intro hO2 hfq2))))
                    clear hM2 hA2 hO2 hfq2 hM3 hst hst2 hfw rm hkx hf3 rr hh hhm
                    go_wp2_with fail
                    go_roundw
                    case rel => go_light; obtain ⟨t1, t2, t3, t4, t5⟩ := FIN.out; exact ⟨j + 1, by omega, by go_num, t1, t2, t3, t4, t5⟩
                    case measure => go_light; simp [intOf]; omega
              · obtain rfl : k = j := by omega
                have dl2 : ¬ ((k : Int) < (k : Int)) := by omega
                have ct := hfq.cellAt (i := 1) rfl
                have cn := hfq.cellAt (i := 2) rfl
                have cm := hfq.cellAt (i := 3) rfl
                have hA2 : AtL w (fun b => b = ms ∨ (Value.slice none 0 0).ownBlock = some b ∨ b = p) wr d i S := hA.own (Below.refl _ _) (fun b hb => by
                  rcases hb with rfl | hb | rfl
                  · exact ⟨.inl (.inl rfl), hM.lt⟩
                  · simp [Value.ownBlock] at hb
                  · exact ⟨.inl (.inr (.inr rfl)), hfq.lt⟩)
                clear hA hO
                go_wp2_with fail
                (with_reducible refine (hA2.crash (by omega) cl.mask cl.at_ cl.n bm1 bm2 bt1 bt2 bn1 bn2).mono ?_)
                rintro e w6 ⟨⟨v6, rfl⟩, hA6, hk6⟩
                rw [HCr.out] at hA6
                have hm6 := hM.only hk6 (fun e => e (.inl rfl))
                have hf6 := hfq.only hk6 (fun e => e (.inr (.inr rfl)))
                have FIN : ∃ S', LawAt w w6 d ms p (i + 1) S' (.slice none 0 0) (.int .i64 (-1)) (.bool false) ∧ VBlk w6 p 30 (callV cl) :=
                  ⟨_, (LawAt.mk hA6 ⟨nm + k, hm6, by simpa using hnm⟩ (World.ownsRow_nil _ _ _ _) hms hpp rfl rfl).more (Nat.le_succ i), hf6⟩
                have FIN := hide FIN
                clear hA6 hk6 hm6 hf6 hA2 hM hfq ct cn cm
                go_wp2_with fail
                go_meet
                exact FIN.out
        · as_aux_lemma =>
            obtain ⟨ba1, ba2⟩ := bounds_i64 hin1.at_
            have c1 := hf.cellAt (i := 1) rfl
            have c4 := hf.cellAt (i := 4) rfl
            have hzl := hin1.s.len
            have hme := hL1.map
            have hoe := hL1.own
            have hle : (0 : Int) ≤ (if S.armed = true then S.left else 0) := by split <;> omega
            have dk2 : (kk == 2) = false := by simpa using q2
            have dk3 : (kk == 3) = false := by simpa using q3
            have dk4 : (kk == 4) = false := by simpa using q4
            go_upto_block 3 with fail
            clear dk2 dk3 dk4
            go_cut [5, 6, 7, 16] (fun s5 s6 s7 s16 wx => AtL w (fun b => b = ms ∨ s5.ownBlock = some b ∨ b = p) wx d i S ∧ (∃ nm, MapIs wx ms nm (wrtS cl.at_ cl.s.zs S).2.f ∧ nm + (wrtS cl.at_ cl.s.zs S).2.ws.length ≤ i + 1) ∧ wx.ownsRow w.heap.size 35 65 s5 (wrtS cl.at_ cl.s.zs S).2.ws.length (wsV (wrtS cl.at_ cl.s.zs S).2.ws) ∧ s6 = .int .i64 (lv (wrtS cl.at_ cl.s.zs S).2) ∧ s7 = .bool (wrtS cl.at_ cl.s.zs S).2.down ∧ s16 = .int .i64 (wrtS cl.at_ cl.s.zs S).1 ∧ VBlk wx p 30 (callV cl))
            case first =>
              by_cases gb : cl.at_ < 0 ∨ 2048 ≤ cl.at_ ∨ 64 < cl.s.n
              ·
                have e : wrtS cl.at_ cl.s.zs S = (5, S) := by unfold wrtS; rw [hzl, if_pos gb]
                have E := hide e
                clear e
                obtain ⟨nm, h1, h2⟩ := hme
                have FIN := hide (And.intro hL1.disk (And.intro (show ∃ nm, MapIs w4 ms nm S.f ∧ nm + S.ws.length ≤ i + 1 from ⟨nm, h1, by omega⟩) (And.intro hoe hf)))
                clear hL1 h1 h2 hoe hf hle
                by_cases g5 : cl.at_ < 0
                · have dd : decide (cl.at_ < 0) = true := decide_eq_true g5
                  go_wp2_with fail
                  go_meet
                  rw [E.out]
                  obtain ⟨t1, t2, t3, t4⟩ := FIN.out
                  exact ⟨t1, t2, t3, rfl, rfl, rfl, t4⟩
                · have dd : decide (cl.at_ < 0) = false := decide_eq_false g5
                  by_cases g6 : 2048 ≤ cl.at_
                  · have de : decide (2048 ≤ cl.at_) = true := decide_eq_true g6
                    go_wp2_with fail
                    go_meet
                    rw [E.out]
                    obtain ⟨t1, t2, t3, t4⟩ := FIN.out
                    exact ⟨t1, t2, t3, rfl, rfl, rfl, t4⟩
                  · have de : decide (2048 ≤ cl.at_) = false := decide_eq_false g6
                    have df : decide ((64 : Int) < (cl.s.n : Int)) = true := decide_eq_true (by omega)
                    go_wp2_with fail
                    go_meet
                    rw [E.out]
                    obtain ⟨t1, t2, t3, t4⟩ := FIN.out
                    exact ⟨t1, t2, t3, rfl, rfl, rfl, t4⟩
              · have dd : decide (cl.at_ < 0) = false := decide_eq_false (fun e => gb (.inl e))
                have de : decide (2048 ≤ cl.at_) = false := decide_eq_false (fun e => gb (.inr (.inl e)))
                have df : decide ((64 : Int) < (cl.s.n : Int)) = false := decide_eq_false (fun e => gb (.inr (.inr (by omega))))
                by_cases gd : S.down = true ∨ (S.armed = true ∧ S.left = 0)
                ·
                  have e : wrtS cl.at_ cl.s.zs S = (4, { S with down := true }) := by
                    have e : takS S = { S with down := true } := by unfold takS; rw [if_pos gd]
                    unfold wrtS
                    rw [hzl, if_neg gb, e, if_pos rfl]
                  have E := hide e
                  clear e
                  obtain ⟨nm, h1, h2⟩ := hme
                  have FIN := hide (And.intro hL1.disk (And.intro (show ∃ nm, MapIs w4 ms nm S.f ∧ nm + S.ws.length ≤ i + 1 from ⟨nm, h1, by omega⟩) (And.intro hoe hf)))
                  clear hL1 h1 h2 hoe hf hle
                  cases hdn : S.down with
                  | true =>
                    go_wp2_with fail
                    go_meet
                    rw [E.out]
                    obtain ⟨t1, t2, t3, t4⟩ := FIN.out
                    exact ⟨t1, t2, t3, rfl, rfl, rfl, t4⟩
                  | false =>
                    have hl0 : lv S = 0 := by
                      rcases gd with gd | ⟨gd, gl⟩
                      · rw [hdn] at gd; cases gd
                      · unfold lv; rw [if_pos gd, gl]
                    have hl0' : (lv S == 0) = true := by rw [hl0]; rfl
                    go_wp2_with fail
                    go_meet
                    rw [E.out]
                    obtain ⟨t1, t2, t3, t4⟩ := FIN.out
                    exact ⟨t1, t2, t3, rfl, rfl, rfl, t4⟩
                · have gdn : S.down = false := by simpa using fun e => gd (.inl e)
                  have hl0 : lv S ≠ 0 := fun e => by
                    unfold lv at e
                    split at e
                    · rename_i ha
                      exact gd (.inr ⟨ha, e⟩)
                    · cases e
                  have hl0' : (lv S == 0) = false := by simpa using hl0
                  have hbn : cl.s.n ≤ 64 := by omega
                  have e : wrtS cl.at_ cl.s.zs S = (0, { takS S with ws := S.ws ++ [(cl.at_, padB cl.s.zs)] }) := by
                    have e : (takS S).down = false := by
                      unfold takS
                      rw [if_neg gd]
                      split <;> exact gdn
                    unfold wrtS
                    rw [hzl, if_neg gb, e, if_neg (by decide)]
                  have E := hide e
                  clear e
                  obtain ⟨nm, h1, h2⟩ := hme
                  have hsd : SlIn w4.drew w.heap.size cl.s := ⟨hin1.s.reads.drew, hin1.s.n_le, hin1.s.c_le, hin1.s.wf⟩
                  have hpd := pad_sl hsd hL1.disk.below.size hbn
                  have hps := hin1.s.sect hbn
                  have hlb := hps.wlen cl.at_
                  have hi65 : Is 65 (wrV cl.at_ (padB cl.s.zs)) := ⟨hlb, wrV_one _ _⟩
                  have hpl := hf.lt
                  have APP : ∀ w5, Below w4.drew.heap.size w4.drew w5 → HasAppL (w5.alloc (.cells (wrV cl.at_ (padB cl.s.zs)).toArray 35)) (.slice A5 S.ws.length c5) (.slice (some ⟨w5.heap.size, 0, none⟩) 1 1) ∧
                      ∀ q, appQ (w5.alloc (.cells (wrV cl.at_ (padB cl.s.zs)).toArray 35)) (.slice A5 S.ws.length c5) (.slice (some ⟨w5.heap.size, 0, none⟩) 1 1) = q →
                        AtL w (fun b => b = ms ∨ (Value.slice (some ⟨q.1, 0, none⟩) q.2.1 q.2.2.1).ownBlock = some b ∨ b = p) q.2.2.2 d i S ∧ (∃ nm, MapIs q.2.2.2 ms nm S.f ∧ nm + (S.ws ++ [(cl.at_, padB cl.s.zs)]).length ≤ i + 1) ∧
                        q.2.2.2.ownsRow w.heap.size 35 65 (.slice (some ⟨q.1, 0, none⟩) q.2.1 q.2.2.1) (S.ws ++ [(cl.at_, padB cl.s.zs)]).length (wsV (S.ws ++ [(cl.at_, padB cl.s.zs)])) ∧ VBlk q.2.2.2 p 30 (callV cl) := by
                    intro w5 hb5
                    have hb6 : Below w4.heap.size w4 (w5.alloc (.cells (wrV cl.at_ (padB cl.s.zs)).toArray 35)) := (((Below.refl w4.heap.size w4).drew).trans hb5).alloc hb5.size _
                    have O6 := only_of_below hb6 (fun _ => False)
                    have o6 := own_only hoe O6 (fun _ _ e => e)
                    have m6 := h1.only O6 (fun e => e)
                    have f6 := hf.below hb6 hpl
                    have a6 := hL1.disk.grow hb6
                    obtain ⟨k1, k2⟩ := app_oneL o6 (VBlk.new w5 35 (wrV cl.at_ (padB cl.s.zs))) hi65 (by omega) a6.below.size
                    refine ⟨k1, fun q hq => ?_⟩
                    obtain ⟨_, k3, k4, k5⟩ := k2 q hq
                    have T6 : Only (fun b => (Value.slice A5 S.ws.length c5).ownBlock = some b) (w5.alloc (.cells (wrV cl.at_ (padB cl.s.zs)).toArray 35)) q.2.2.2 := (Only.refl _ _).grown k4 fun k e => .inl e
                    have hmo := map_own_ne m6 o6
                    have hpo := own_blk_ne o6 f6 (by decide)
                    refine ⟨a6.step T6 (fun b hb => ⟨.inr (.inl hb), own_base o6 b hb⟩) (fun b hb => ?_), ⟨nm, m6.only T6 hmo, by rw [List.length_append]; show nm + (S.ws.length + 1) ≤ i + 1; omega⟩, ?_, f6.only T6 hpo⟩
                    · rcases hb with rfl | hb | rfl
                      · exact ⟨.inl (.inl rfl), Nat.lt_of_lt_of_le m6.lt k4.size⟩
                      · have e : q.1 = b := by simpa [Value.ownBlock] using hb
                        have hlt' := (k3.lt q.1 rfl).2
                        subst e
                        refine ⟨?_, hlt'⟩
                        rcases k5 with k5 | k5
                        · exact .inl (.inr (.inl k5.symm))
                        · exact .inr (by omega)
                      · exact ⟨.inl (.inr (.inr rfl)), Nat.lt_of_lt_of_le f6.lt k4.size⟩
                    · rw [List.length_append]
                      have ew : wsV (S.ws ++ [(cl.at_, padB cl.s.zs)]) = wsV S.ws ++ wrV cl.at_ (padB cl.s.zs) := by simp [wsV]
                      rw [ew]
                      exact k3
                  have APP := hide APP
                  have fx := takS_f S
                  have k3 : S.left ≤ 9223372036854775807 := by
                    obtain ⟨_, hDD, _⟩ := hL1.disk
                    exact hDD.left1
                  have c1d := hf.drew.cellAt (i := 1) rfl
                  have c4d := hf.drew.cellAt (i := 4) rfl
                  clear hL1 h1 h2 hoe hle
                  have T2 : Hid ((takS S).down = false) := hide (by unfold takS; rw [if_neg gd]; split <;> exact gdn)
                  cases ha : S.armed with
                  | true =>
                    have hlv : lv S = S.left := by unfold lv; rw [if_pos ha]
                    have T3 : Hid (lv (takS S) = S.left - 1) := hide (by unfold takS; rw [if_neg gd, if_pos ha]; unfold lv; exact if_pos ha)
                    rw [hlv] at hl0 hl0' ⊢
                    have dpos : decide ((0 : Int) < S.left) = true := decide_eq_true (by omega)
                    go_upto_region 18 with fail
                    refine wp_region_noPanic ?_
                    refine wp_region_held_drew (S := fun W => VBlk W p 30 (callV cl)) (by kernel_rfl) ?_ (fun hHeld => ?_)
                    · exact hf.drew
                    refine wpAnyH_take (i := 0) (oi := _) (v := ?_) (by simp only [List.getElem?_toArray, List.getElem?_cons_zero]; rfl) (by kernel_rfl) (by kernel_rfl) (by kernel_rfl) (by exact fun _ _ _ h => h) (Or.inl ⟨by rfl, ?_⟩) (by assumption) ?_
                    rotate_left
                    · intro w hSw
                      have k1 := hSw.cellAt (i := 1) rfl
                      have k4 := hSw.cellAt (i := 4) rfl
                      clear hSw
                      go_simp
                      try with_reducible rfl
                    try simp only [Act.put, List.setIfInBounds_toArray, List.set_cons_zero, List.set_cons_succ]
                    refine wpAnyH_take (i := 1) (oi := _) (v := ?_) (by simp only [List.getElem?_toArray, List.getElem?_cons_succ, List.getElem?_cons_zero]; rfl) (by kernel_rfl) (by kernel_rfl) (by kernel_rfl) (by exact fun _ _ _ h => h) (Or.inl ⟨by rfl, ?_⟩) (by assumption) ?_
                    rotate_left
                    · intro w hSw
                      have k1 := hSw.cellAt (i := 1) rfl
                      have k4 := hSw.cellAt (i := 4) rfl
                      clear hSw
                      go_simp
                      try with_reducible rfl
                    try simp only [Act.put, List.setIfInBounds_toArray, List.set_cons_zero, List.set_cons_succ]
                    refine wpAnyH_take (i := 3) (oi := _) (v := ?_) (by simp only [List.getElem?_toArray, List.getElem?_cons_succ, List.getElem?_cons_zero]; rfl) (by kernel_rfl) (by kernel_rfl) (by kernel_rfl) (by exact fun _ _ _ h => h) (Or.inl ⟨by rfl, ?_⟩) (by assumption) ?_
                    rotate_left
                    · intro w hSw
                      have k1 := hSw.cellAt (i := 1) rfl
                      have k4 := hSw.cellAt (i := 4) rfl
                      clear hSw
                      go_simp
                      try with_reducible rfl
                    try simp only [Act.put, List.setIfInBounds_toArray, List.set_cons_zero, List.set_cons_succ]
                    refine wpAnyH_take (i := 2) (oi := _) (v := ?_) (by simp only [List.getElem?_toArray, List.getElem?_cons_succ, List.getElem?_cons_zero]; rfl) (by kernel_rfl) (by kernel_rfl) (by kernel_rfl) (by exact fun _ _ _ h => h) (Or.inl ⟨by rfl, ?_⟩) (by assumption) ?_
                    rotate_left
                    · intro w hSw
                      have k1 := hSw.cellAt (i := 1) rfl
                      have k4 := hSw.cellAt (i := 4) rfl
                      clear hSw
                      go_simp
                      try with_reducible rfl
                    try simp only [Act.put, List.setIfInBounds_toArray, List.set_cons_zero, List.set_cons_succ]
                    refine wpAnyH_take (i := 4) (oi := _) (v := ?_) (by simp only [List.getElem?_toArray, List.getElem?_cons_succ, List.getElem?_cons_zero]; rfl) (by kernel_rfl) (by kernel_rfl) (by kernel_rfl) (by exact fun _ _ _ h => h) (Or.inl ⟨by rfl, ?_⟩) (by assumption) ?_
                    rotate_left
                    · intro w hSw
                      have k1 := hSw.cellAt (i := 1) rfl
                      have k4 := hSw.cellAt (i := 4) rfl
                      clear hSw
                      go_simp
                      try with_reducible rfl
                    try simp only [Act.put, List.setIfInBounds_toArray, List.set_cons_zero, List.set_cons_succ]
                    refine wpAnyH_ready (rs := [5]) (by kernel_rfl) (by simp) ?_
                    refine AllReadyH.cons (o := _) (by simp only [List.getElem?_toArray, List.getElem?_cons_succ, List.getElem?_cons_zero]; rfl) (fun K hK => ?_) AllReadyH.nil
                    go_simp
                    go_at_call 11
                    (with_reducible refine hpd.mono ?_)
                    rintro e w5 ⟨rfl, hb5⟩
                    have hapx := (APP.out w5 hb5).1
                    try go_wp2_with fail
                    refine hK.out _ _ ?_ (fun hHeld => ?_)
                    · exact hf.drew.below hb5 hpl
                    clear hK K
                    try simp only [Act.put, List.setIfInBounds_toArray, List.set_cons_zero, List.set_cons_succ]
                    refine wpAnyH_take (i := 6) (oi := _) (v := ?_) (by simp only [List.getElem?_toArray, List.getElem?_cons_succ, List.getElem?_cons_zero]; rfl) (by kernel_rfl) (by kernel_rfl) (by kernel_rfl) (by exact fun _ _ _ h => h) (Or.inl ⟨by rfl, ?_⟩) (by assumption) ?_
                    rotate_left
                    · intro w hSw
                      have k1 := hSw.cellAt (i := 1) rfl
                      have k4 := hSw.cellAt (i := 4) rfl
                      clear hSw
                      go_simp
                      try with_reducible rfl
                    try simp only [Act.put, List.setIfInBounds_toArray, List.set_cons_zero, List.set_cons_succ]
                    refine wpAnyH_ready (rs := [7]) (by kernel_rfl) (by simp) ?_
                    refine AllReadyH.cons (o := _) (by simp only [List.getElem?_toArray, List.getElem?_cons_succ, List.getElem?_cons_zero]; rfl) (fun K hK => ?_) AllReadyH.nil
                    go_simp
                    refine hK.out _ _ ?_ (fun hHeld => ?_)
                    · exact (hf.drew.below hb5 hpl).alloc _
                    clear hK K
                    try simp only [Act.put, List.setIfInBounds_toArray, List.set_cons_zero, List.set_cons_succ]
                    refine wpAnyH_ready (rs := [8]) (by kernel_rfl) (by simp) ?_
                    refine AllReadyH.cons (o := _) (by simp only [List.getElem?_toArray, List.getElem?_cons_succ, List.getElem?_cons_zero]; rfl) (fun K hK => ?_) AllReadyH.nil
                    go_simp
                    refine hK.out _ _ ?_ (fun hHeld => ?_)
                    · exact ((APP.out w5 hb5).2 _ rfl).2.2.2
                    clear hK K
                    try simp only [Act.put, List.setIfInBounds_toArray, List.set_cons_zero, List.set_cons_succ]
                    refine wpAnyH_take (i := 9) (oi := _) (v := ?_) (by simp only [List.getElem?_toArray, List.getElem?_cons_succ, List.getElem?_cons_zero]; rfl) (by kernel_rfl) (by kernel_rfl) (by kernel_rfl) (by exact fun _ _ _ h => h) (Or.inl ⟨by rfl, ?_⟩) (by assumption) ?_
                    rotate_left
                    · intro w hSw
                      have k1 := hSw.cellAt (i := 1) rfl
                      have k4 := hSw.cellAt (i := 4) rfl
                      clear hSw
                      go_simp
                      try with_reducible rfl
                    try simp only [Act.put, List.setIfInBounds_toArray, List.set_cons_zero, List.set_cons_succ]
                    refine wpAnyH_done (by kernel_rfl) ?_ _
                    refine NoPanic.normal ?_
                    go_wp2_with fail
                    go_meet
                    rw [E.out]
                    obtain ⟨t1, t2, t3, t4⟩ := (APP.out w5 hb5).2 _ rfl
                    refine ⟨t1, ?_, t3, ?_, ?_, rfl, t4⟩
                    · show ∃ nm, MapIs _ ms nm (takS S).f ∧ _
                      rw [fx]
                      exact t2
                    · show _ = Value.int .i64 (lv (takS S))
                      rw [T3.out]
                    · show _ = Value.bool (takS S).down
                      rw [T2.out]
                  | false =>
                    have hlv : lv S = -1 := by unfold lv; rw [ha]; rfl
                    have T3 : Hid (lv (takS S) = -1) := hide (by unfold lv; rw [takS_armed, ha]; rfl)
                    rw [hlv] at hl0' ⊢
                    go_upto_region 18 with fail
                    refine wp_region_noPanic ?_
                    refine wp_region_held_drew (S := fun W => VBlk W p 30 (callV cl)) (by kernel_rfl) ?_ (fun hHeld => ?_)
                    · exact hf.drew
                    refine wpAnyH_take (i := 0) (oi := _) (v := ?_) (by simp only [List.getElem?_toArray, List.getElem?_cons_zero]; rfl) (by kernel_rfl) (by kernel_rfl) (by kernel_rfl) (by exact fun _ _ _ h => h) (Or.inl ⟨by rfl, ?_⟩) (by assumption) ?_
                    rotate_left
                    · intro w hSw
                      have k1 := hSw.cellAt (i := 1) rfl
                      have k4 := hSw.cellAt (i := 4) rfl
                      clear hSw
                      go_simp
                      try with_reducible rfl
                    try simp only [Act.put, List.setIfInBounds_toArray, List.set_cons_zero, List.set_cons_succ]
                    refine wpAnyH_take (i := 1) (oi := _) (v := ?_) (by simp only [List.getElem?_toArray, List.getElem?_cons_succ, List.getElem?_cons_zero]; rfl) (by kernel_rfl) (by kernel_rfl) (by kernel_rfl) (by exact fun _ _ _ h => h) (Or.inl ⟨by rfl, ?_⟩) (by assumption) ?_
                    rotate_left
                    · intro w hSw
                      have k1 := hSw.cellAt (i := 1) rfl
                      have k4 := hSw.cellAt (i := 4) rfl
                      clear hSw
                      go_simp
                      try with_reducible rfl
                    try simp only [Act.put, List.setIfInBounds_toArray, List.set_cons_zero, List.set_cons_succ]
                    refine wpAnyH_take (i := 3) (oi := _) (v := ?_) (by simp only [List.getElem?_toArray, List.getElem?_cons_succ, List.getElem?_cons_zero]; rfl) (by kernel_rfl) (by kernel_rfl) (by kernel_rfl) (by exact fun _ _ _ h => h) (Or.inl ⟨by rfl, ?_⟩) (by assumption) ?_
                    rotate_left
                    · intro w hSw
                      have k1 := hSw.cellAt (i := 1) rfl
                      have k4 := hSw.cellAt (i := 4) rfl
                      clear hSw
                      go_simp
                      try with_reducible rfl
                    try simp only [Act.put, List.setIfInBounds_toArray, List.set_cons_zero, List.set_cons_succ]
                    refine wpAnyH_take (i := 2) (oi := _) (v := ?_) (by simp only [List.getElem?_toArray, List.getElem?_cons_succ, List.getElem?_cons_zero]; rfl) (by kernel_rfl) (by kernel_rfl) (by kernel_rfl) (by exact fun _ _ _ h => h) (Or.inl ⟨by rfl, ?_⟩) (by assumption) ?_
                    rotate_left
                    · intro w hSw
                      have k1 := hSw.cellAt (i := 1) rfl
                      have k4 := hSw.cellAt (i := 4) rfl
                      clear hSw
                      go_simp
                      try with_reducible rfl
                    try simp only [Act.put, List.setIfInBounds_toArray, List.set_cons_zero, List.set_cons_succ]
                    refine wpAnyH_take (i := 4) (oi := _) (v := ?_) (by simp only [List.getElem?_toArray, List.getElem?_cons_succ, List.getElem?_cons_zero]; rfl) (by kernel_rfl) (by kernel_rfl) (by kernel_rfl) (by exact fun _ _ _ h => h) (Or.inl ⟨by rfl, ?_⟩) (by assumption) ?_
                    rotate_left
                    · intro w hSw
                      have k1 := hSw.cellAt (i := 1) rfl
                      have k4 := hSw.cellAt (i := 4) rfl
                      clear hSw
                      go_simp
                      try with_reducible rfl
                    try simp only [Act.put, List.setIfInBounds_toArray, List.set_cons_zero, List.set_cons_succ]
                    refine wpAnyH_ready (rs := [5]) (by kernel_rfl) (by simp) ?_
                    refine AllReadyH.cons (o := _) (by simp only [List.getElem?_toArray, List.getElem?_cons_succ, List.getElem?_cons_zero]; rfl) (fun K hK => ?_) AllReadyH.nil
                    go_simp
                    go_at_call 11
                    (with_reducible refine hpd.mono ?_)
                    rintro e w5 ⟨rfl, hb5⟩
                    have hapx := (APP.out w5 hb5).1
                    try go_wp2_with fail
                    refine hK.out _ _ ?_ (fun hHeld => ?_)
                    · exact hf.drew.below hb5 hpl
                    clear hK K
                    try simp only [Act.put, List.setIfInBounds_toArray, List.set_cons_zero, List.set_cons_succ]
                    refine wpAnyH_take (i := 6) (oi := _) (v := ?_) (by simp only [List.getElem?_toArray, List.getElem?_cons_succ, List.getElem?_cons_zero]; rfl) (by kernel_rfl) (by kernel_rfl) (by kernel_rfl) (by exact fun _ _ _ h => h) (Or.inl ⟨by rfl, ?_⟩) (by assumption) ?_
                    rotate_left
                    · intro w hSw
                      have k1 := hSw.cellAt (i := 1) rfl
                      have k4 := hSw.cellAt (i := 4) rfl
                      clear hSw
                      go_simp
                      try with_reducible rfl
                    try simp only [Act.put, List.setIfInBounds_toArray, List.set_cons_zero, List.set_cons_succ]
                    refine wpAnyH_ready (rs := [7]) (by kernel_rfl) (by simp) ?_
                    refine AllReadyH.cons (o := _) (by simp only [List.getElem?_toArray, List.getElem?_cons_succ, List.getElem?_cons_zero]; rfl) (fun K hK => ?_) AllReadyH.nil
                    go_simp
                    refine hK.out _ _ ?_ (fun hHeld => ?_)
                    · exact (hf.drew.below hb5 hpl).alloc _
                    clear hK K
                    try simp only [Act.put, List.setIfInBounds_toArray, List.set_cons_zero, List.set_cons_succ]
                    refine wpAnyH_ready (rs := [8]) (by kernel_rfl) (by simp) ?_
                    refine AllReadyH.cons (o := _) (by simp only [List.getElem?_toArray, List.getElem?_cons_succ, List.getElem?_cons_zero]; rfl) (fun K hK => ?_) AllReadyH.nil
                    go_simp
                    refine hK.out _ _ ?_ (fun hHeld => ?_)
                    · exact ((APP.out w5 hb5).2 _ rfl).2.2.2
                    clear hK K
                    try simp only [Act.put, List.setIfInBounds_toArray, List.set_cons_zero, List.set_cons_succ]
                    refine wpAnyH_take (i := 9) (oi := _) (v := ?_) (by simp only [List.getElem?_toArray, List.getElem?_cons_succ, List.getElem?_cons_zero]; rfl) (by kernel_rfl) (by kernel_rfl) (by kernel_rfl) (by exact fun _ _ _ h => h) (Or.inl ⟨by rfl, ?_⟩) (by assumption) ?_
                    rotate_left
                    · intro w hSw
                      have k1 := hSw.cellAt (i := 1) rfl
                      have k4 := hSw.cellAt (i := 4) rfl
                      clear hSw
                      go_simp
                      try with_reducible rfl
                    try simp only [Act.put, List.setIfInBounds_toArray, List.set_cons_zero, List.set_cons_succ]
                    refine wpAnyH_done (by kernel_rfl) ?_ _
                    refine NoPanic.normal ?_
                    go_wp2_with fail
                    go_meet
                    rw [E.out]
                    obtain ⟨t1, t2, t3, t4⟩ := (APP.out w5 hb5).2 _ rfl
                    refine ⟨t1, ?_, t3, ?_, ?_, rfl, t4⟩
                    · show ∃ nm, MapIs _ ms nm (takS S).f ∧ _
                      rw [fx]
                      exact t2
                    · show _ = Value.int .i64 (lv (takS S))
                      rw [T3.out]
                    · show _ = Value.bool (takS S).down
                      rw [T2.out]
            case rest =>
              obtain ⟨hA, ⟨nm, hm1, hm2⟩, ho, rfl, rfl, rfl, hfq⟩ := hcut
              have hms := hL1.ms_
              have hpp := hL1.p_
              clear hL1 hf c1 c4 hoe hme hin1 hle
              have c1 := hfq.cellAt (i := 1) rfl
              have c4 := hfq.cellAt (i := 4) rfl
              go_wp2_with fail
              (with_reducible refine (hA.write (by omega) cl.at_ ba1 ba2 (hin0.s.keep hA.below)).mono ?_)
              rintro e w6 ⟨rfl, hA6, hk6⟩
              have hm6 := hm1.only hk6 (fun e => e (.inl rfl))
              have ho6 := own_only ho hk6 (fun g hg e => e (.inr (.inl hg)))
              have hf6 := hfq.only hk6 (fun e => e (.inr (.inr rfl)))
              have FIN := hide (And.intro (LawAt.mk hA6 ⟨nm, hm6, hm2⟩ ho6 hms hpp rfl rfl) hf6)
              clear hA6 hk6 hm6 ho6 hf6 hA hm1 ho hfq c1 c4 hm2
              go_wp2_with fail
              go_meet
              exact ⟨_, FIN.out⟩
      case rest =>
        as_aux_lemma =>
          have hkx1 := hin0.at_
          clear hL1 hin1 hf hi5
          obtain ⟨S', hL, hf⟩ := hcut
          have hLi := hL.v6_
          have hLd := hL.v7_
          subst hLi hLd
          obtain ⟨A6, c6, rfl⟩ := own_slice hL.own
          obtain ⟨nm, hM, hnm⟩ := hL.map
          have hw := hL.disk.wrs
          have hsf := hL.disk.sure
          have hfl := (hsf cl.at_).vlen
          have c1 := hf.cellAt (i := 1) rfl
          obtain ⟨rm, hhm⟩ := hM.got (by omega) cl.at_
          have ha := VBlk.new wc 33 (u8V zs64)
          have hrm := ha.room 0 64 (by decide)
          have hi64 : Is 64 (u8V (S'.f cl.at_)) := ⟨hfl, u8V_one _⟩
          have hf17 := ha.fill (us := u8V (S'.f cl.at_)) (by rw [hfl]; rfl)
          have hB0 : Below wc.heap.size wc (wc.alloc (.cells (u8V zs64).toArray 33)) := (Below.refl _ _).alloc (Nat.le_refl _) _
          have hBf : Below wc.heap.size wc ((wc.alloc (.cells (u8V zs64).toArray 33)).setCells wc.heap.size 0 (u8V (S'.f cl.at_))) := below_only hB0 (only_cells _ _ _ _) (fun i (e : i = wc.heap.size) => by omega) hB0.size
          generalize hlen : S'.ws.length = k at *
          go_upto_region 55 with fail
          clear ha hrm hB0 rm hhm c1 hi64
          generalize hq0 : wc.heap.size = q at *
          generalize (wc.alloc (.cells (u8V zs64).toArray 33)).setCells q 0 (u8V (S'.f cl.at_)) = w5 at *
          have hpl : p < q := hq0 ▸ hf.lt
          go_wp2_with fail
          go_loopw [170] (fun s170 wq => ∃ j : Nat, j ≤ k ∧ s170 = .int .i64 j ∧ VBlk wq q 33 (u8V (readF S'.f (S'.ws.take j) cl.at_)) ∧ Below q wc wq) (fun s170 _ => k - (intOf s170).toNat)
          case atStart => exact ⟨0, by omega, rfl, hf17, hBf⟩
          case round =>
            clear hf17 hBf
            obtain ⟨j, hj, rfl, hQ, hB⟩ := hrel
            have hBc : Below wc.heap.size wc wr := hq0.symm ▸ hB
            have hfq := hf.below hBc hf.lt
            by_cases hlt2 : j < k
            ·
              have dl2 : (j : Int) < (k : Int) := by omega
              have hO := own_only hL.own (only_of_below hBc fun _ => False) (fun _ _ e => e)
              rw [hlen] at hO
              obtain ⟨g, rfl, rr, hh⟩ := own_at hO hlen hw j (by omega)
              have hst : readF S'.f (S'.ws.take (j + 1)) cl.at_ = if S'.ws[j].1 = cl.at_ then S'.ws[j].2 else readF S'.f (S'.ws.take j) cl.at_ := by
                unfold readF
                rw [List.take_succ_eq_append_getElem (by omega), List.foldl_append]; rfl
              have hst := hide hst
              have hkx := hw S'.ws[j] (List.getElem_mem _)
              have hsc : Sect (readF S'.f (S'.ws.take j) cl.at_) := readF_sect (fun q hq => hw q (List.mem_of_mem_take hq)) hsf
              generalize readF S'.f (S'.ws.take j) cl.at_ = acc at *
              generalize S'.ws[j] = pr at *
              obtain ⟨x, bs⟩ := pr
              dsimp only at *
              have hlb := hkx.2.wlen x
              have hvl := hkx.2.vlen
              have ha := VBlk.new wr 35 (wrV 0 zs64)
              have hrm := ha.room 0 65 (by rw [wrV_length]; decide)
              have hi65 : Is 65 (wrV x bs) := ⟨hlb, wrV_one _ _⟩
              have hfw := ha.fill (us := wrV x bs) (by rw [hlb, wrV_length]; rfl)
              have hB0 : Below wr.heap.size wr (wr.alloc (.cells (wrV 0 zs64).toArray 35)) := (Below.refl _ _).alloc (Nat.le_refl _) _
              have hBf : Below wr.heap.size wr ((wr.alloc (.cells (wrV 0 zs64).toArray 35)).setCells wr.heap.size 0 (wrV x bs)) := below_only hB0 (only_cells _ _ _ _) (fun i (e : i = wr.heap.size) => by omega) hB0.size
              go_upto_region 58 with fail
              have hQ2 := hQ.below hBf hQ.lt
              have hfq2 := hfq.below hBf hfq.lt
              have hql := hQ.lt
              have hB2 : Below q wc ((wr.alloc (.cells (wrV 0 zs64).toArray 35)).setCells wr.heap.size 0 (wrV x bs)) := hB.trans (hBf.mono (by omega))
              clear hrm ha hB0 rr hh hQ hfq hBf hO hBc hB
              generalize wr.heap.size = p2 at *
              generalize (wr.alloc (.cells (wrV 0 zs64).toArray 35)).setCells p2 0 (wrV x bs) = w6 at *
              have cx := hfw.cellAt (i := 0) rfl
              have ct := hfq2.cellAt (i := 1) rfl
              by_cases hxx : x = cl.at_
              · have dx : (x == cl.at_) = true := by simpa using hxx
                have hst2 := hst.out
                rw [if_pos hxx] at hst2
                obtain ⟨rr, hh⟩ := hfw.got 1 64 (by rw [hlb]; decide)
                rw [show ((wrV x bs).drop 1).take 64 = u8V bs from List.take_of_length_le (Nat.le_of_eq hvl)] at rr
                have hrm := hQ2.room 0 64 (by rw [hsc.vlen]; decide)
                have hi64 : Is 64 (u8V bs) := ⟨hvl, u8V_one _⟩
                have hQ3 := hQ2.fill (us := u8V bs) (by rw [hvl, hsc.vlen])
                have hQ3 : VBlk (w6.setCells q 0 (u8V bs)) q 33 (u8V (readF S'.f (S'.ws.take (j + 1)) cl.at_)) := by rw [hst2]; exact hQ3
                have hB3 : Below q wc (w6.setCells q 0 (u8V bs)) := below_only hB2 (only_cells _ _ _ _) (fun i (e : i = q) => by omega) (by have := hB2.size; omega)
                have FIN := hide (And.intro hQ3 hB3)
                clear hQ2 hQ3 hB2 hB3 hst hst2 hfw hfq2 hxx
                go_wp2_with fail
                go_roundw
                case rel => go_light; exact ⟨j + 1, by omega, by go_num, FIN.out⟩
                case measure => go_light; simp [intOf]; omega
              · have dx : (x == cl.at_) = false := by simpa using hxx
                have hst2 := hst.out
                rw [if_neg hxx] at hst2
                rw [← hst2] at hQ2
                have FIN := hide (And.intro hQ2 hB2)
                clear hQ2 hB2 hst hst2 hfw hfq2 hxx
                go_wp2_with fail
                go_roundw
                case rel => go_light; exact ⟨j + 1, by omega, by go_num, FIN.out⟩
                case measure => go_light; simp [intOf]; omega
            ·
              obtain rfl : k = j := by omega
              have dl2 : ¬ ((k : Int) < (k : Int)) := by omega
              have e0 : S'.ws.take k = S'.ws := List.take_of_length_le (by omega)
              rw [e0] at hQ
              have hA := hL.disk.grow hBc
              have hMq := hM.only (only_of_below hBc fun _ => False) (fun e => e)
              have hLq := hL.grow hBc
              have hsr : Sect (readF S'.f S'.ws cl.at_) := readF_sect hw hsf
              have hss := hsf cl.at_
              have hsl := hsr.vlen
              have hrd : ∀ W, AtL w (fun b => b = ms ∨ (Value.slice A6 k c6).ownBlock = some b ∨ b = p) W d (i + 1) S' → Calls Try.prog 13 #[.pointer (some ⟨d, 0, none⟩), .int .i64 cl.at_] W fun e w' => e = .returned (secV (readF S'.f S'.ws cl.at_)) ∧ AtL w (fun b => b = ms ∨ (Value.slice A6 k c6).ownBlock = some b ∨ b = p) w' d (i + 1) S' ∧ Below W.heap.size W w' := fun W h => h.read (by omega) hkx1
              have hsu : ∀ W, AtL w (fun b => b = ms ∨ (Value.slice A6 k c6).ownBlock = some b ∨ b = p) W d (i + 1) S' → Calls Try.prog 14 #[.pointer (some ⟨d, 0, none⟩), .int .i64 cl.at_] W fun e w' => e = .returned (secV (S'.f cl.at_)) ∧ AtL w (fun b => b = ms ∨ (Value.slice A6 k c6).ownBlock = some b ∨ b = p) w' d (i + 1) S' ∧ Below W.heap.size W w' := fun W h => h.sureR (by omega) hkx1
              have hnmb : nm < 100000 := by omega
              generalize hrr : readF S'.f S'.ws cl.at_ = rdv at *
              generalize hff : S'.f cl.at_ = fat at *
              go_upto_region 61 with fail
              go_cut [211] (fun s211 wx => s211 = .bool false ∧ LawAt w wx d ms p (i + 1) S' (.slice A6 k c6) (.int .i64 (lv S')) (.bool S'.down))
              case first =>
                refine wp_region_noPanic ?_
                refine wp_region_held_drew (S := fun W => Below wr.heap.size wr W) (by kernel_rfl) ?_ (fun hHeld => ?_)
                · exact (Below.refl wr.heap.size wr).drew
                refine wpAnyH_take (i := 0) (oi := _) (v := ?_) (by simp only [List.getElem?_toArray, List.getElem?_cons_zero]; rfl) (by kernel_rfl) (by kernel_rfl) (by kernel_rfl) (by exact fun _ _ _ h => h) (Or.inl ⟨by rfl, ?_⟩) (by assumption) ?_
                rotate_left
                · intro w hSw
                  try dsimp only at hSw
                  have s2 := hMq.only (only_of_below hSw fun _ => False) (fun e => e)
                  have s3 := hfq.below hSw hfq.lt
                  have s4 := hQ.below hSw hQ.lt
                  have k1 := s3.cellAt (i := 1) rfl
                  obtain ⟨k2, k3⟩ := s4.whole hsl
                  obtain ⟨k4, k5⟩ := s2.got hnmb cl.at_
                  rw [hff] at k4
                  clear s2 s3 s4 hSw
                  go_simp
                  try with_reducible rfl
                try simp only [Act.put, List.setIfInBounds_toArray, List.set_cons_zero, List.set_cons_succ]
                refine wpAnyH_take (i := 1) (oi := _) (v := ?_) (by simp only [List.getElem?_toArray, List.getElem?_cons_succ, List.getElem?_cons_zero]; rfl) (by kernel_rfl) (by kernel_rfl) (by kernel_rfl) (by exact fun _ _ _ h => h) (Or.inl ⟨by rfl, ?_⟩) (by assumption) ?_
                rotate_left
                · intro w hSw
                  try dsimp only at hSw
                  have s2 := hMq.only (only_of_below hSw fun _ => False) (fun e => e)
                  have s3 := hfq.below hSw hfq.lt
                  have s4 := hQ.below hSw hQ.lt
                  have k1 := s3.cellAt (i := 1) rfl
                  obtain ⟨k2, k3⟩ := s4.whole hsl
                  obtain ⟨k4, k5⟩ := s2.got hnmb cl.at_
                  rw [hff] at k4
                  clear s2 s3 s4 hSw
                  go_simp
                  try with_reducible rfl
                try simp only [Act.put, List.setIfInBounds_toArray, List.set_cons_zero, List.set_cons_succ]
                refine wpAnyH_take (i := 2) (oi := _) (v := ?_) (by simp only [List.getElem?_toArray, List.getElem?_cons_succ, List.getElem?_cons_zero]; rfl) (by kernel_rfl) (by kernel_rfl) (by kernel_rfl) (by exact fun _ _ _ h => h) (Or.inl ⟨by rfl, ?_⟩) (by assumption) ?_
                rotate_left
                · intro w hSw
                  try dsimp only at hSw
                  have s2 := hMq.only (only_of_below hSw fun _ => False) (fun e => e)
                  have s3 := hfq.below hSw hfq.lt
                  have s4 := hQ.below hSw hQ.lt
                  have k1 := s3.cellAt (i := 1) rfl
                  obtain ⟨k2, k3⟩ := s4.whole hsl
                  obtain ⟨k4, k5⟩ := s2.got hnmb cl.at_
                  rw [hff] at k4
                  clear s2 s3 s4 hSw
                  go_simp
                  try with_reducible rfl
                try simp only [Act.put, List.setIfInBounds_toArray, List.set_cons_zero, List.set_cons_succ]
                refine wpAnyH_take (i := 4) (oi := _) (v := ?_) (by simp only [List.getElem?_toArray, List.getElem?_cons_succ, List.getElem?_cons_zero]; rfl) (by kernel_rfl) (by kernel_rfl) (by kernel_rfl) (by exact fun _ _ _ h => h) (Or.inl ⟨by rfl, ?_⟩) (by assumption) ?_
                rotate_left
                · intro w hSw
                  try dsimp only at hSw
                  have s2 := hMq.only (only_of_below hSw fun _ => False) (fun e => e)
                  have s3 := hfq.below hSw hfq.lt
                  have s4 := hQ.below hSw hQ.lt
                  have k1 := s3.cellAt (i := 1) rfl
                  obtain ⟨k2, k3⟩ := s4.whole hsl
                  obtain ⟨k4, k5⟩ := s2.got hnmb cl.at_
                  rw [hff] at k4
                  clear s2 s3 s4 hSw
                  go_simp
                  try with_reducible rfl
                try simp only [Act.put, List.setIfInBounds_toArray, List.set_cons_zero, List.set_cons_succ]
                refine wpAnyH_ready (rs := [3]) (by kernel_rfl) (by simp) ?_
                refine AllReadyH.cons (o := _) (by simp only [List.getElem?_toArray, List.getElem?_cons_succ, List.getElem?_cons_zero]; rfl) (fun K hK => ?_) AllReadyH.nil
                go_simp
                try dsimp only at hHeld
                go_at_call 13
                (with_reducible refine (hrd _ (hA.grow hHeld)).mono ?_)
                rintro e w7 ⟨rfl, _, b7⟩
                try go_wp2_with fail
                refine hK.out _ _ ?_ (fun hHeld => ?_)
                · exact hHeld.trans (b7.mono hHeld.size)
                clear hK K
                try simp only [Act.put, List.setIfInBounds_toArray, List.set_cons_zero, List.set_cons_succ]
                refine wpAnyH_take (i := 5) (oi := _) (v := ?_) (by simp only [List.getElem?_toArray, List.getElem?_cons_succ, List.getElem?_cons_zero]; rfl) (by kernel_rfl) (by kernel_rfl) (by kernel_rfl) (by exact fun _ _ _ h => h) (Or.inl ⟨by rfl, ?_⟩) (by assumption) ?_
                rotate_left
                · intro w hSw
                  try dsimp only at hSw
                  have s2 := hMq.only (only_of_below hSw fun _ => False) (fun e => e)
                  have s3 := hfq.below hSw hfq.lt
                  have s4 := hQ.below hSw hQ.lt
                  have k1 := s3.cellAt (i := 1) rfl
                  obtain ⟨k2, k3⟩ := s4.whole hsl
                  obtain ⟨k4, k5⟩ := s2.got hnmb cl.at_
                  rw [hff] at k4
                  clear s2 s3 s4 hSw
                  go_simp
                  try with_reducible rfl
                try simp only [Act.put, List.setIfInBounds_toArray, List.set_cons_zero, List.set_cons_succ]
                refine wpAnyH_take (i := 6) (oi := _) (v := ?_) (by simp only [List.getElem?_toArray, List.getElem?_cons_succ, List.getElem?_cons_zero]; rfl) (by kernel_rfl) (by kernel_rfl) (by kernel_rfl) (by exact fun _ _ _ h => h) (Or.inl ⟨by rfl, ?_⟩) (by assumption) ?_
                rotate_left
                · intro w hSw
                  try dsimp only at hSw
                  have s2 := hMq.only (only_of_below hSw fun _ => False) (fun e => e)
                  have s3 := hfq.below hSw hfq.lt
                  have s4 := hQ.below hSw hQ.lt
                  have k1 := s3.cellAt (i := 1) rfl
                  obtain ⟨k2, k3⟩ := s4.whole hsl
                  obtain ⟨k4, k5⟩ := s2.got hnmb cl.at_
                  rw [hff] at k4
                  clear s2 s3 s4 hSw
                  go_simp
                  try with_reducible rfl
                try simp only [Act.put, List.setIfInBounds_toArray, List.set_cons_zero, List.set_cons_succ]
                refine wpAnyH_take (i := 7) (oi := _) (v := ?_) (by simp only [List.getElem?_toArray, List.getElem?_cons_succ, List.getElem?_cons_zero]; rfl) (by kernel_rfl) (by kernel_rfl) (by kernel_rfl) (by exact fun _ _ _ h => h) (Or.inl ⟨by rfl, ?_⟩) (by assumption) ?_
                rotate_left
                · intro w hSw
                  try dsimp only at hSw
                  have s2 := hMq.only (only_of_below hSw fun _ => False) (fun e => e)
                  have s3 := hfq.below hSw hfq.lt
                  have s4 := hQ.below hSw hQ.lt
                  have k1 := s3.cellAt (i := 1) rfl
                  obtain ⟨k2, k3⟩ := s4.whole hsl
                  obtain ⟨k4, k5⟩ := s2.got hnmb cl.at_
                  rw [hff] at k4
                  clear s2 s3 s4 hSw
                  go_simp
                  try with_reducible rfl
                try simp only [Act.put, List.setIfInBounds_toArray, List.set_cons_zero, List.set_cons_succ]
                refine wpAnyH_take (i := 8) (oi := _) (v := ?_) (by simp only [List.getElem?_toArray, List.getElem?_cons_succ, List.getElem?_cons_zero]; rfl) (by kernel_rfl) (by kernel_rfl) (by kernel_rfl) (by exact fun _ _ _ h => h) (Or.inl ⟨by rfl, ?_⟩) (by assumption) ?_
                rotate_left
                · intro w hSw
                  try dsimp only at hSw
                  have s2 := hMq.only (only_of_below hSw fun _ => False) (fun e => e)
                  have s3 := hfq.below hSw hfq.lt
                  have s4 := hQ.below hSw hQ.lt
                  have k1 := s3.cellAt (i := 1) rfl
                  obtain ⟨k2, k3⟩ := s4.whole hsl
                  obtain ⟨k4, k5⟩ := s2.got hnmb cl.at_
                  rw [hff] at k4
                  clear s2 s3 s4 hSw
                  go_simp
                  try with_reducible rfl
                try simp only [Act.put, List.setIfInBounds_toArray, List.set_cons_zero, List.set_cons_succ]
                refine wpAnyH_take (i := 9) (oi := _) (v := ?_) (by simp only [List.getElem?_toArray, List.getElem?_cons_succ, List.getElem?_cons_zero]; rfl) (by kernel_rfl) (by kernel_rfl) (by kernel_rfl) (by exact fun _ _ _ h => h) (Or.inl ⟨by rfl, ?_⟩) (by assumption) ?_
                rotate_left
                · intro w hSw
                  try dsimp only at hSw
                  have s2 := hMq.only (only_of_below hSw fun _ => False) (fun e => e)
                  have s3 := hfq.below hSw hfq.lt
                  have s4 := hQ.below hSw hQ.lt
                  have k1 := s3.cellAt (i := 1) rfl
                  obtain ⟨k2, k3⟩ := s4.whole hsl
                  obtain ⟨k4, k5⟩ := s2.got hnmb cl.at_
                  rw [hff] at k4
                  clear s2 s3 s4 hSw
                  go_simp
                  try with_reducible rfl
                try simp only [Act.put, List.setIfInBounds_toArray, List.set_cons_zero, List.set_cons_succ]
                refine wpAnyH_take (i := 11) (oi := _) (v := ?_) (by simp only [List.getElem?_toArray, List.getElem?_cons_succ, List.getElem?_cons_zero]; rfl) (by kernel_rfl) (by kernel_rfl) (by kernel_rfl) (by exact fun _ _ _ h => h) (Or.inl ⟨by rfl, ?_⟩) (by assumption) ?_
                rotate_left
                · intro w hSw
                  try dsimp only at hSw
                  have s2 := hMq.only (only_of_below hSw fun _ => False) (fun e => e)
                  have s3 := hfq.below hSw hfq.lt
                  have s4 := hQ.below hSw hQ.lt
                  have k1 := s3.cellAt (i := 1) rfl
                  obtain ⟨k2, k3⟩ := s4.whole hsl
                  obtain ⟨k4, k5⟩ := s2.got hnmb cl.at_
                  rw [hff] at k4
                  clear s2 s3 s4 hSw
                  go_simp
                  try with_reducible rfl
                try simp only [Act.put, List.setIfInBounds_toArray, List.set_cons_zero, List.set_cons_succ]
                refine wpAnyH_take (i := 12) (oi := _) (v := ?_) (by simp only [List.getElem?_toArray, List.getElem?_cons_succ, List.getElem?_cons_zero]; rfl) (by kernel_rfl) (by kernel_rfl) (by kernel_rfl) (by exact fun _ _ _ h => h) (Or.inl ⟨by rfl, ?_⟩) (by assumption) ?_
                rotate_left
                · intro w hSw
                  try dsimp only at hSw
                  have s2 := hMq.only (only_of_below hSw fun _ => False) (fun e => e)
                  have s3 := hfq.below hSw hfq.lt
                  have s4 := hQ.below hSw hQ.lt
                  have k1 := s3.cellAt (i := 1) rfl
                  obtain ⟨k2, k3⟩ := s4.whole hsl
                  obtain ⟨k4, k5⟩ := s2.got hnmb cl.at_
                  rw [hff] at k4
                  clear s2 s3 s4 hSw
                  go_simp
                  try with_reducible rfl
                try simp only [Act.put, List.setIfInBounds_toArray, List.set_cons_zero, List.set_cons_succ]
                refine wpAnyH_take (i := 13) (oi := _) (v := ?_) (by simp only [List.getElem?_toArray, List.getElem?_cons_succ, List.getElem?_cons_zero]; rfl) (by kernel_rfl) (by kernel_rfl) (by kernel_rfl) (by exact fun _ _ _ h => h) (Or.inl ⟨by rfl, ?_⟩) (by assumption) ?_
                rotate_left
                · intro w hSw
                  try dsimp only at hSw
                  have s2 := hMq.only (only_of_below hSw fun _ => False) (fun e => e)
                  have s3 := hfq.below hSw hfq.lt
                  have s4 := hQ.below hSw hQ.lt
                  have k1 := s3.cellAt (i := 1) rfl
                  obtain ⟨k2, k3⟩ := s4.whole hsl
                  obtain ⟨k4, k5⟩ := s2.got hnmb cl.at_
                  rw [hff] at k4
                  clear s2 s3 s4 hSw
                  go_simp
                  try with_reducible rfl
                try simp only [Act.put, List.setIfInBounds_toArray, List.set_cons_zero, List.set_cons_succ]
                refine wpAnyH_take (i := 14) (oi := _) (v := ?_) (by simp only [List.getElem?_toArray, List.getElem?_cons_succ, List.getElem?_cons_zero]; rfl) (by kernel_rfl) (by kernel_rfl) (by kernel_rfl) (by exact fun _ _ _ h => h) (Or.inl ⟨by rfl, ?_⟩) (by assumption) ?_
                rotate_left
                · intro w hSw
                  try dsimp only at hSw
                  have s2 := hMq.only (only_of_below hSw fun _ => False) (fun e => e)
                  have s3 := hfq.below hSw hfq.lt
                  have s4 := hQ.below hSw hQ.lt
                  have k1 := s3.cellAt (i := 1) rfl
                  obtain ⟨k2, k3⟩ := s4.whole hsl
                  obtain ⟨k4, k5⟩ := s2.got hnmb cl.at_
                  rw [hff] at k4
                  clear s2 s3 s4 hSw
                  go_simp
                  try with_reducible rfl
                try simp only [Act.put, List.setIfInBounds_toArray, List.set_cons_zero, List.set_cons_succ]
                refine wpAnyH_ready (rs := [10]) (by kernel_rfl) (by simp) ?_
                refine AllReadyH.cons (o := _) (by simp only [List.getElem?_toArray, List.getElem?_cons_succ, List.getElem?_cons_zero]; rfl) (fun K hK => ?_) AllReadyH.nil
                go_simp
                try dsimp only at hHeld
                go_at_call 14
                (with_reducible refine (hsu _ (hA.grow hHeld)).mono ?_)
                rintro e w7 ⟨rfl, _, b7⟩
                try go_wp2_with fail
                refine hK.out _ _ ?_ (fun hHeld => ?_)
                · exact hHeld.trans (b7.mono hHeld.size)
                clear hK K
                try simp only [Act.put, List.setIfInBounds_toArray, List.set_cons_zero, List.set_cons_succ]
                refine wpAnyH_take (i := 15) (oi := _) (v := ?_) (by simp only [List.getElem?_toArray, List.getElem?_cons_succ, List.getElem?_cons_zero]; rfl) (by kernel_rfl) (by kernel_rfl) (by kernel_rfl) (by exact fun _ _ _ h => h) (Or.inl ⟨by rfl, ?_⟩) (by assumption) ?_
                rotate_left
                · intro w hSw
                  try dsimp only at hSw
                  have s2 := hMq.only (only_of_below hSw fun _ => False) (fun e => e)
                  have s3 := hfq.below hSw hfq.lt
                  have s4 := hQ.below hSw hQ.lt
                  have k1 := s3.cellAt (i := 1) rfl
                  obtain ⟨k2, k3⟩ := s4.whole hsl
                  obtain ⟨k4, k5⟩ := s2.got hnmb cl.at_
                  rw [hff] at k4
                  clear s2 s3 s4 hSw
                  go_simp
                  try with_reducible rfl
                try simp only [Act.put, List.setIfInBounds_toArray, List.set_cons_zero, List.set_cons_succ]
                refine wpAnyH_take (i := 16) (oi := _) (v := ?_) (by simp only [List.getElem?_toArray, List.getElem?_cons_succ, List.getElem?_cons_zero]; rfl) (by kernel_rfl) (by kernel_rfl) (by kernel_rfl) (by exact fun _ _ _ h => h) (Or.inl ⟨by rfl, ?_⟩) (by assumption) ?_
                rotate_left
                · intro w hSw
                  try dsimp only at hSw
                  have s2 := hMq.only (only_of_below hSw fun _ => False) (fun e => e)
                  have s3 := hfq.below hSw hfq.lt
                  have s4 := hQ.below hSw hQ.lt
                  have k1 := s3.cellAt (i := 1) rfl
                  obtain ⟨k2, k3⟩ := s4.whole hsl
                  obtain ⟨k4, k5⟩ := s2.got hnmb cl.at_
                  rw [hff] at k4
                  clear s2 s3 s4 hSw
                  go_simp
                  try with_reducible rfl
                try simp only [Act.put, List.setIfInBounds_toArray, List.set_cons_zero, List.set_cons_succ]
                refine wpAnyH_take (i := 17) (oi := _) (v := ?_) (by simp only [List.getElem?_toArray, List.getElem?_cons_succ, List.getElem?_cons_zero]; rfl) (by kernel_rfl) (by kernel_rfl) (by kernel_rfl) (by exact fun _ _ _ h => h) (Or.inl ⟨by rfl, ?_⟩) (by assumption) ?_
                rotate_left
                · intro w hSw
                  try dsimp only at hSw
                  have s2 := hMq.only (only_of_below hSw fun _ => False) (fun e => e)
                  have s3 := hfq.below hSw hfq.lt
                  have s4 := hQ.below hSw hQ.lt
                  have k1 := s3.cellAt (i := 1) rfl
                  obtain ⟨k2, k3⟩ := s4.whole hsl
                  obtain ⟨k4, k5⟩ := s2.got hnmb cl.at_
                  rw [hff] at k4
                  clear s2 s3 s4 hSw
                  go_simp
                  try with_reducible rfl
                try simp only [Act.put, List.setIfInBounds_toArray, List.set_cons_zero, List.set_cons_succ]
                refine wpAnyH_take (i := 18) (oi := _) (v := ?_) (by simp only [List.getElem?_toArray, List.getElem?_cons_succ, List.getElem?_cons_zero]; rfl) (by kernel_rfl) (by kernel_rfl) (by kernel_rfl) (by exact fun _ _ _ h => h) (Or.inl ⟨by rfl, ?_⟩) (by assumption) ?_
                rotate_left
                · intro w hSw
                  try dsimp only at hSw
                  have s2 := hMq.only (only_of_below hSw fun _ => False) (fun e => e)
                  have s3 := hfq.below hSw hfq.lt
                  have s4 := hQ.below hSw hQ.lt
                  have k1 := s3.cellAt (i := 1) rfl
                  obtain ⟨k2, k3⟩ := s4.whole hsl
                  obtain ⟨k4, k5⟩ := s2.got hnmb cl.at_
                  rw [hff] at k4
                  clear s2 s3 s4 hSw
                  go_simp
                  try with_reducible rfl
                try simp only [Act.put, List.setIfInBounds_toArray, List.set_cons_zero, List.set_cons_succ]
                refine wpAnyH_take (i := 20) (oi := _) (v := ?_) (by simp only [List.getElem?_toArray, List.getElem?_cons_succ, List.getElem?_cons_zero]; rfl) (by kernel_rfl) (by kernel_rfl) (by kernel_rfl) (by exact fun _ _ _ h => h) (Or.inl ⟨by rfl, ?_⟩) (by assumption) ?_
                rotate_left
                · intro w hSw
                  try dsimp only at hSw
                  have s2 := hMq.only (only_of_below hSw fun _ => False) (fun e => e)
                  have s3 := hfq.below hSw hfq.lt
                  have s4 := hQ.below hSw hQ.lt
                  have k1 := s3.cellAt (i := 1) rfl
                  obtain ⟨k2, k3⟩ := s4.whole hsl
                  obtain ⟨k4, k5⟩ := s2.got hnmb cl.at_
                  rw [hff] at k4
                  clear s2 s3 s4 hSw
                  go_simp
                  try with_reducible rfl
                try simp only [Act.put, List.setIfInBounds_toArray, List.set_cons_zero, List.set_cons_succ]
                refine wpAnyH_take (i := 21) (oi := _) (v := ?_) (by simp only [List.getElem?_toArray, List.getElem?_cons_succ, List.getElem?_cons_zero]; rfl) (by kernel_rfl) (by kernel_rfl) (by kernel_rfl) (by exact fun _ _ _ h => h) (Or.inl ⟨by rfl, ?_⟩) (by assumption) ?_
                rotate_left
                · intro w hSw
                  try dsimp only at hSw
                  have s2 := hMq.only (only_of_below hSw fun _ => False) (fun e => e)
                  have s3 := hfq.below hSw hfq.lt
                  have s4 := hQ.below hSw hQ.lt
                  have k1 := s3.cellAt (i := 1) rfl
                  obtain ⟨k2, k3⟩ := s4.whole hsl
                  obtain ⟨k4, k5⟩ := s2.got hnmb cl.at_
                  rw [hff] at k4
                  clear s2 s3 s4 hSw
                  go_simp
                  try with_reducible rfl
                try simp only [Act.put, List.setIfInBounds_toArray, List.set_cons_zero, List.set_cons_succ]
                refine wpAnyH_ready (rs := [19]) (by kernel_rfl) (by simp) ?_
                refine AllReadyH.cons (o := _) (by simp only [List.getElem?_toArray, List.getElem?_cons_succ, List.getElem?_cons_zero]; rfl) (fun K hK => ?_) AllReadyH.nil
                go_simp
                try dsimp only at hHeld
                go_at_call 15
                (with_reducible refine (hA.grow hHeld).waits.mono ?_)
                rintro e w7 ⟨rfl, rfl⟩
                rw [hlen]
                try go_wp2_with fail
                refine hK.out _ _ ?_ (fun hHeld => ?_)
                · exact hHeld
                clear hK K
                try simp only [Act.put, List.setIfInBounds_toArray, List.set_cons_zero, List.set_cons_succ]
                refine wpAnyH_take (i := 22) (oi := _) (v := ?_) (by simp only [List.getElem?_toArray, List.getElem?_cons_succ, List.getElem?_cons_zero]; rfl) (by kernel_rfl) (by kernel_rfl) (by kernel_rfl) (by exact fun _ _ _ h => h) (Or.inl ⟨by rfl, ?_⟩) (by assumption) ?_
                rotate_left
                · intro w hSw
                  try dsimp only at hSw
                  have s2 := hMq.only (only_of_below hSw fun _ => False) (fun e => e)
                  have s3 := hfq.below hSw hfq.lt
                  have s4 := hQ.below hSw hQ.lt
                  have k1 := s3.cellAt (i := 1) rfl
                  obtain ⟨k2, k3⟩ := s4.whole hsl
                  obtain ⟨k4, k5⟩ := s2.got hnmb cl.at_
                  rw [hff] at k4
                  clear s2 s3 s4 hSw
                  go_simp
                  try with_reducible rfl
                try simp only [Act.put, List.setIfInBounds_toArray, List.set_cons_zero, List.set_cons_succ]
                refine wpAnyH_take (i := 23) (oi := _) (v := ?_) (by simp only [List.getElem?_toArray, List.getElem?_cons_succ, List.getElem?_cons_zero]; rfl) (by kernel_rfl) (by kernel_rfl) (by kernel_rfl) (by exact fun _ _ _ h => h) (Or.inl ⟨by rfl, ?_⟩) (by assumption) ?_
                rotate_left
                · intro w hSw
                  try dsimp only at hSw
                  have s2 := hMq.only (only_of_below hSw fun _ => False) (fun e => e)
                  have s3 := hfq.below hSw hfq.lt
                  have s4 := hQ.below hSw hQ.lt
                  have k1 := s3.cellAt (i := 1) rfl
                  obtain ⟨k2, k3⟩ := s4.whole hsl
                  obtain ⟨k4, k5⟩ := s2.got hnmb cl.at_
                  rw [hff] at k4
                  clear s2 s3 s4 hSw
                  go_simp
                  try with_reducible rfl
                try simp only [Act.put, List.setIfInBounds_toArray, List.set_cons_zero, List.set_cons_succ]
                refine wpAnyH_take (i := 24) (oi := _) (v := ?_) (by simp only [List.getElem?_toArray, List.getElem?_cons_succ, List.getElem?_cons_zero]; rfl) (by kernel_rfl) (by kernel_rfl) (by kernel_rfl) (by exact fun _ _ _ h => h) (Or.inl ⟨by rfl, ?_⟩) (by assumption) ?_
                rotate_left
                · intro w hSw
                  try dsimp only at hSw
                  have s2 := hMq.only (only_of_below hSw fun _ => False) (fun e => e)
                  have s3 := hfq.below hSw hfq.lt
                  have s4 := hQ.below hSw hQ.lt
                  have k1 := s3.cellAt (i := 1) rfl
                  obtain ⟨k2, k3⟩ := s4.whole hsl
                  obtain ⟨k4, k5⟩ := s2.got hnmb cl.at_
                  rw [hff] at k4
                  clear s2 s3 s4 hSw
                  go_simp
                  try with_reducible rfl
                try simp only [Act.put, List.setIfInBounds_toArray, List.set_cons_zero, List.set_cons_succ]
                refine wpAnyH_take (i := 25) (oi := _) (v := ?_) (by simp only [List.getElem?_toArray, List.getElem?_cons_succ, List.getElem?_cons_zero]; rfl) (by kernel_rfl) (by kernel_rfl) (by kernel_rfl) (by exact fun _ _ _ h => h) (Or.inl ⟨by rfl, ?_⟩) (by assumption) ?_
                rotate_left
                · intro w hSw
                  try dsimp only at hSw
                  have s2 := hMq.only (only_of_below hSw fun _ => False) (fun e => e)
                  have s3 := hfq.below hSw hfq.lt
                  have s4 := hQ.below hSw hQ.lt
                  have k1 := s3.cellAt (i := 1) rfl
                  obtain ⟨k2, k3⟩ := s4.whole hsl
                  obtain ⟨k4, k5⟩ := s2.got hnmb cl.at_
                  rw [hff] at k4
                  clear s2 s3 s4 hSw
                  go_simp
                  try with_reducible rfl
                try simp only [Act.put, List.setIfInBounds_toArray, List.set_cons_zero, List.set_cons_succ]
                refine wpAnyH_take (i := 27) (oi := _) (v := ?_) (by simp only [List.getElem?_toArray, List.getElem?_cons_succ, List.getElem?_cons_zero]; rfl) (by kernel_rfl) (by kernel_rfl) (by kernel_rfl) (by exact fun _ _ _ h => h) (Or.inl ⟨by rfl, ?_⟩) (by assumption) ?_
                rotate_left
                · intro w hSw
                  try dsimp only at hSw
                  have s2 := hMq.only (only_of_below hSw fun _ => False) (fun e => e)
                  have s3 := hfq.below hSw hfq.lt
                  have s4 := hQ.below hSw hQ.lt
                  have k1 := s3.cellAt (i := 1) rfl
                  obtain ⟨k2, k3⟩ := s4.whole hsl
                  obtain ⟨k4, k5⟩ := s2.got hnmb cl.at_
                  rw [hff] at k4
                  clear s2 s3 s4 hSw
                  go_simp
                  try with_reducible rfl
                try simp only [Act.put, List.setIfInBounds_toArray, List.set_cons_zero, List.set_cons_succ]
                refine wpAnyH_ready (rs := [26]) (by kernel_rfl) (by simp) ?_
                refine AllReadyH.cons (o := _) (by simp only [List.getElem?_toArray, List.getElem?_cons_succ, List.getElem?_cons_zero]; rfl) (fun K hK => ?_) AllReadyH.nil
                go_simp
                try dsimp only at hHeld
                go_at_call 16
                (with_reducible refine (hA.grow hHeld).down.mono ?_)
                rintro e w7 ⟨rfl, rfl⟩
                try go_wp2_with fail
                refine hK.out _ _ ?_ (fun hHeld => ?_)
                · exact hHeld
                clear hK K
                try simp only [Act.put, List.setIfInBounds_toArray, List.set_cons_zero, List.set_cons_succ]
                refine wpAnyH_take (i := 28) (oi := _) (v := ?_) (by simp only [List.getElem?_toArray, List.getElem?_cons_succ, List.getElem?_cons_zero]; rfl) (by kernel_rfl) (by kernel_rfl) (by kernel_rfl) (by exact fun _ _ _ h => h) (Or.inl ⟨by rfl, ?_⟩) (by assumption) ?_
                rotate_left
                · intro w hSw
                  try dsimp only at hSw
                  have s2 := hMq.only (only_of_below hSw fun _ => False) (fun e => e)
                  have s3 := hfq.below hSw hfq.lt
                  have s4 := hQ.below hSw hQ.lt
                  have k1 := s3.cellAt (i := 1) rfl
                  obtain ⟨k2, k3⟩ := s4.whole hsl
                  obtain ⟨k4, k5⟩ := s2.got hnmb cl.at_
                  rw [hff] at k4
                  clear s2 s3 s4 hSw
                  go_simp
                  try with_reducible rfl
                try simp only [Act.put, List.setIfInBounds_toArray, List.set_cons_zero, List.set_cons_succ]
                refine wpAnyH_take (i := 29) (oi := _) (v := ?_) (by simp only [List.getElem?_toArray, List.getElem?_cons_succ, List.getElem?_cons_zero]; rfl) (by kernel_rfl) (by kernel_rfl) (by kernel_rfl) (by exact fun _ _ _ h => h) (Or.inl ⟨by rfl, ?_⟩) (by assumption) ?_
                rotate_left
                · intro w hSw
                  try dsimp only at hSw
                  have s2 := hMq.only (only_of_below hSw fun _ => False) (fun e => e)
                  have s3 := hfq.below hSw hfq.lt
                  have s4 := hQ.below hSw hQ.lt
                  have k1 := s3.cellAt (i := 1) rfl
                  obtain ⟨k2, k3⟩ := s4.whole hsl
                  obtain ⟨k4, k5⟩ := s2.got hnmb cl.at_
                  rw [hff] at k4
                  clear s2 s3 s4 hSw
                  go_simp
                  try with_reducible rfl
                try simp only [Act.put, List.setIfInBounds_toArray, List.set_cons_zero, List.set_cons_succ]
                refine wpAnyH_done (by kernel_rfl) ?_ _
                refine NoPanic.normal ?_
                have hLz := hide (hLq.grow hHeld)
                go_wp2_with fail
                go_meet
                exact ⟨rfl, hLz.out⟩
              case rest =>
                clear hQ hB hBc hfq hA hMq hLq hrd hsu
                obtain ⟨rfl, hLn⟩ := hcut
                have hLn := hLn.next (Nat.le_refl _)
                have hLn := hide hLn
                go_wp2_with fail
                go_roundw
                case rel => go_light; exact ⟨i + 1, S', by omega, by go_num, hLn.out⟩
                case measure => go_light; simp [intOf]; omega
    · obtain rfl : n = i := by omega
      have dl : ¬ ((n : Int) < (n : Int)) := by omega
      have hb := hL.disk.below
      go_wp2_with fail
      go_ret
      exact ⟨rfl, hb⟩
end Go.Proofs.Ythafhmpbhhpfbaa.diskRuns
