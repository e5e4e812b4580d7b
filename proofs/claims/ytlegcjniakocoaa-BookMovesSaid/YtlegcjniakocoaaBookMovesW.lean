/- The walk of BookMoves: it returns true at all arguments and leaves what was there as it was. -/
import Derived.Test.YtlegcjniakocoaaBookG
import Derived.Test.YtlegcjniakocoaaBitsI
import Derived.Deep.CutBlock
import Derived.StillTailTactics
namespace Go.Proofs.Ytlegcjniakocoaa.bookMoves
open Go.RowKit

theorem mod5 (who : Int) : ∃ Q q : Nat, bits .and .i64 who 255 = (Q : Int) ∧ (Q : Int) % 5 = (q : Int) ∧ q < 5 := by
  refine ⟨(who % 256).toNat, (who % 256).toNat % 5, ?_, by omega, by omega⟩
  rw [show bits .and .i64 who 255 = who % 256 from i64_and_mask who 8 (by omega)]; omega

attribute [local go_sem ↓] loadRowF_fold storeRowF_fold allocRowF_fold loadRowsF_fold storeRowsF_fold allocRowsF_fold
attribute [local go_sem] loadRowF_has storeRowF_has allocRowF_run loadRowsF_has storeRowsF_has allocRowsF_run
set_option maxRecDepth 100000 in
set_option maxHeartbeats 12800000 in
theorem walk (w : World) (A : Option Addr) (n c : Nat) (zs : List Int) (hR : RowsIn w w.heap.size A n zs) (how : List Int) (hhl : how.length = 3) (_ : wf64 how) :
    Calls Try.prog 7 #[.slice A n c, .agg (iA how)] w fun e w' => e = .returned (.bool true) ∧ Below w.heap.size w w' := by
  obtain ⟨h0, h1, h2, rfl⟩ : ∃ h0 h1 h2, how = [h0, h1, h2] := by
    match how, hhl with
    | [a, b, c], _ => exact ⟨_, _, _, rfl⟩
  obtain ⟨Q, q, hQ, hq, hq5⟩ := mod5 h0
  obtain ⟨T, t, hT, ht, ht5⟩ := mod5 h1
  obtain ⟨k, hk, hk4⟩ : ∃ k : Nat, bits .and .i64 h2 3 = (k : Int) ∧ k < 4 := ⟨(h2 % 4).toNat, by rw [show bits .and .i64 h2 3 = h2 % 4 from i64_and_mask h2 2 (by omega)]; omega, by omega⟩
  obtain ⟨m, hm, hm16⟩ : ∃ m : Nat, bits .and .i64 (h2 / 4) 15 = (m : Int) ∧ m < 16 := ⟨(h2 / 4 % 16).toNat, by rw [show bits .and .i64 (h2 / 4) 15 = h2 / 4 % 16 from i64_and_mask (h2 / 4) 4 (by omega)]; omega, by omega⟩
  have hH0 : IBlk (w.alloc (.cells (iA [h0, h1, h2]) 49)) w.heap.size 49 [h0, h1, h2] := IBlk.new _ _ _
  have hB0 : Below w.heap.size w (w.alloc (.cells (iA [h0, h1, h2]) 49)) := (Below.refl _ _).alloc (Nat.le_refl _) _
  go_enter Try.func7, Try.ntmps7
  go_wp2_with fail
  generalize w.alloc (.cells (iA [h0, h1, h2]) 49) = w0 at hH0 hB0
  generalize hph : w.heap.size = ph at hH0
  (with_reducible refine (fit5_any w0).mono ?_)
  rintro e w1 ⟨rfl, hx⟩
  have hH1 := hH0.below hx hH0.lt
  have hB1 := hB0.trans (hx.mono hB0.size)
  clear hH0 hB0 hx
  by_cases g1 : 10 < n
  · have d1 : decide ((10 : Int) < (n : Int)) = true := decide_eq_true (by omega)
    go_wp2_with fail
    go_ret
    exact ⟨rfl, by first | exact hB1 | exact hph ▸ hB1⟩
  have d1 : decide ((10 : Int) < (n : Int)) = false := decide_eq_false (by omega)
  have hR1 := hR.below hB1 (Nat.le_refl _)
  have hR1 : RowsIn w1 w1.heap.size A n zs := ⟨hR1.len, hR1.wf, fun h => by
    obtain ⟨b, off, e, hb, hc⟩ := hR1.at_ h
    exact ⟨b, off, e, Nat.lt_of_lt_of_le hb hB1.size, hc⟩⟩
  have HF := filled_any (c := c) hR1 (by omega)
  have hok := fillM_ok hR.len hR.wf (Nat.le_refl n)
  generalize fillM zs n = ms at HF hok
  go_wp2_with fail
  (with_reducible refine HF.mono ?_)
  rintro e w2 ⟨rfl, hb2, hx⟩
  have hH2 := hH1.below hx hH1.lt
  have hB2 := hB1.trans (hx.mono hB1.size)
  have hml := hok.len
  obtain ⟨rm, hX, hO, hB3⟩ := lay (t := 32) hB2 hml hB2.size
  have hb3 := hb2.only hO (fun h => h)
  have hH3 := hH2.only hO (fun h => h)
  have hmi : Is 870 ms := hml
  have hpw : w.heap.size ≤ w1.heap.size + 1 := by have := hB1.size; omega
  generalize hpb : w1.heap.size + 1 = pb at hb2 hb3 hpw
  go_upto_region 6 with fail
  generalize hpm : w2.heap.size = pm at hX hO hB3 hb3 hH3
  generalize (w2.alloc (.cells (iA (zeros 870)) 32)).setCells pm 0 (iV ms) = w3 at hX hO hB3 hb3 hH3
  clear rm hO hb2 hx hB2 HF d1 hpm hpb hH1 hH2 hB1 hR hR1
  have HML := hide hml
  have HOK := hide hok
  clear hok hml hmi
  have c0 : w3.drew.cell? ⟨ph, 0, none⟩ = some (.int .i64 h0) := hH3.drew.cellAt 0 h0 rfl
  have c1 : w3.drew.cell? ⟨ph, 1, none⟩ = some (.int .i64 h1) := hH3.drew.cellAt 1 h1 rfl
  have c2 : w3.drew.cell? ⟨ph, 2, none⟩ = some (.int .i64 h2) := hH3.drew.cellAt 2 h2 rfl
  have hHd := hH3.drew
  have hbd := hb3.drew
  have hXd := hX.drew
  have hBd := hB3.drew
  go_cut [7, 8, 9] (fun s7 s8 s9 wx => s7 = .int .i64 q ∧ s8 = .int .i64 t ∧ s9 = .int .i64 k ∧ IBlk wx ph 49 [h0, h1, h2] ∧ IBlk wx pb 34 ms ∧ IBlk wx pm 32 ms ∧ Below w.heap.size w wx)
  case first =>
    refine wp_region_still_lit (by kernel_rfl) (by kernel_rfl) ?_
    change wpStill _ _ w3.drew _ _ _
    repeat still_step
    refine wpStill_nil ?_
    change Exit.then _ _ _ _ w3.drew
    generalize w3.drew = w9 at hHd hbd hXd hBd
    clear c0 c1 c2 hH3 hb3 hX hB3
    go_wp2_with fail
    go_meet
    exact ⟨by rw [Int.tmod_eq_emod_of_nonneg (by omega), hq], by rw [Int.tmod_eq_emod_of_nonneg (by omega), ht], rfl, hHd, hbd, hXd, hBd⟩
  case rest =>
  clear c0 c1 c2 hH3 hb3 hX hB3 hHd hbd hXd hBd hQ hT hq ht hk
  obtain ⟨rfl, rfl, rfl, hH, hb, hX, hB⟩ := hcut
  have RET : ∀ w', Below w.heap.size w w' → Below w.heap.size w w' := fun _ h => h
  have hqi : (q : Int) < 5 := by omega
  have hti : (t : Int) < 5 := by omega
  by_cases e1 : q = t
  · have d1 : ((q : Int) == (t : Int)) = true := by simp [e1]
    go_wp2_with fail
    go_ret
    exact ⟨rfl, by first | exact hB | exact hph ▸ hB⟩
  have d1 : ((q : Int) == (t : Int)) = false := by simp; omega
  have cv : wc.cell? ⟨pm, q * 174, none⟩ = some (.int .i64 (ms.getD (q * 174) 0)) := hX.cell (by have := HML.out; omega)
  have ct : wc.cell? ⟨pm, t * 174 + 29 + q, none⟩ = some (.int .i64 (ms.getD (t * 174 + 29 + q) 0)) := hX.cell (by have := HML.out; omega)
  have cq : wc.cell? ⟨pm, q * 174 + 29 + t, none⟩ = some (.int .i64 (ms.getD (q * 174 + 29 + t) 0)) := hX.cell (by have := HML.out; omega)
  by_cases e2 : 1125899906842624 < ms.getD (q * 174) 0
  · have d2 := decide_eq_true e2
    generalize ms.getD (q * 174) 0 = xv at *
    go_wp2_with fail
    go_ret
    exact ⟨rfl, by first | exact hB | exact hph ▸ hB⟩
  have HV := hide e2
  have d2 := decide_eq_false e2
  generalize hxv : ms.getD (q * 174) 0 = xv at cv e2 d2
  clear hxv
  by_cases e3 : 0 < ms.getD (t * 174 + 29 + q) 0
  · have d3 := decide_eq_true e3
    generalize ms.getD (t * 174 + 29 + q) 0 = xt at *
    go_wp2_with fail
    go_ret
    exact ⟨rfl, by first | exact hB | exact hph ▸ hB⟩
  have d3 := decide_eq_false e3
  generalize ms.getD (t * 174 + 29 + q) 0 = xt at *
  by_cases e4 : 0 < ms.getD (q * 174 + 29 + t) 0
  · have d4 := decide_eq_true e4
    generalize ms.getD (q * 174 + 29 + t) 0 = xq at *
    go_wp2_with fail
    go_ret
    exact ⟨rfl, by first | exact hB | exact hph ▸ hB⟩
  have d4 := decide_eq_false e4
  generalize ms.getD (q * 174 + 29 + t) 0 = xq at *
  go_wp2_with fail
  clear cv ct cq d1 d2 d3 d4 e2 e3 e4
  go_loopw [66] (fun s66 wr => ∃ i : Nat, i ≤ 5 ∧ s66 = .int .i64 i ∧ Hid (∀ j, j < i → ms.getD (j * 174 + 29 + q) 0 ≤ 0 ∧ ms.getD (j * 174 + 29 + t) 0 ≤ 0) ∧ IBlk wr ph 49 [h0, h1, h2] ∧ IBlk wr pb 34 ms ∧ IBlk wr pm 32 ms ∧ Below w.heap.size w wr) (fun s66 _ => 5 - (intOf s66).toNat)
  case atStart => exact ⟨0, by omega, rfl, fun j hj => by omega, hH, hb, hX, hB⟩
  case round =>
    clear hH hb hX hB
    obtain ⟨i, hi, rfl, HI, hH, hb, hX, hB⟩ := hrel
    by_cases hlt : i < 5
    · have ca : wr.cell? ⟨pm, i * 174 + 29 + q, none⟩ = some (.int .i64 (ms.getD (i * 174 + 29 + q) 0)) := hX.cell (by have := HML.out; omega)
      have cb : wr.cell? ⟨pm, i * 174 + 29 + t, none⟩ = some (.int .i64 (ms.getD (i * 174 + 29 + t) 0)) := hX.cell (by have := HML.out; omega)
      have hii : (i : Int) < 5 := by omega
      have HI2 : Hid (ms.getD (i * 174 + 29 + q) 0 ≤ 0 → ms.getD (i * 174 + 29 + t) 0 ≤ 0 → ∀ j, j < i + 1 → ms.getD (j * 174 + 29 + q) 0 ≤ 0 ∧ ms.getD (j * 174 + 29 + t) 0 ≤ 0) := hide fun ha hb j hj => by
        by_cases e : j = i
        · subst e; exact ⟨ha, hb⟩
        · exact HI.out j (by omega)
      generalize ms.getD (i * 174 + 29 + q) 0 = a at ca HI2
      generalize ms.getD (i * 174 + 29 + t) 0 = b at cb HI2
      by_cases ea : 0 < a
      · have da := decide_eq_true ea
        go_wp2_with fail
        go_ret
        exact ⟨rfl, by first | exact hB | exact hph ▸ hB⟩
      have da := decide_eq_false ea
      by_cases eb : 0 < b
      · have db := decide_eq_true eb
        go_wp2_with fail
        go_ret
        exact ⟨rfl, by first | exact hB | exact hph ▸ hB⟩
      have db := decide_eq_false eb
      have HI3 := hide (HI2.out (by omega) (by omega))
      clear HI2
      go_wp2_with fail
      go_roundw
      case rel => go_light; exact ⟨i + 1, by omega, by go_num, HI3, hH, hb, hX, hB⟩
      case measure => go_light; simp [intOf]; omega
    · have hi5 : i = 5 := by omega
      have hh : ∀ j, j < 5 → (rowB ms j).getD (29 + q) 0 = 0 ∧ (rowB ms j).getD (29 + t) 0 = 0 := fun j hj => by
        have h1 := HI.out j (by omega)
        have h2 := HOK.out.ok j hj
        simp only [okRow, Bool.and_eq_true] at h2
        have h3 := (okH_iff.1 h2.2 q hq5).1
        have h4 := (okH_iff.1 h2.2 t ht5).1
        rw [rowB_getD _ _ _ (by omega)] at h3 h4
        rw [rowB_getD _ _ _ (by omega), rowB_getD _ _ _ (by omega)]
        rw [Nat.add_assoc, Nat.add_assoc] at h1
        omega
      obtain ⟨nn, hnn, hn1, hn16⟩ : ∃ nn : Int, (m : Int) + 1 = nn ∧ 1 ≤ nn ∧ nn ≤ 16 := ⟨_, rfl, by omega, by omega⟩
      have HMV : Moves ms q t k nn := ⟨HOK.out, hq5, ht5, hk4, e1, hh⟩
      have c2 : wr.cell? ⟨ph, 2, none⟩ = some (.int .i64 h2) := hH.cellAt 2 h2 rfl
      clear hh HI hi5
      have hrl := rowB_length HML.out hq5
      have hrw := HOK.out.row_wf q
      have hro := HOK.out.ok q hq5
      have hx0 : (rowB ms q).getD 0 0 = ms.getD (q * 174) 0 := rowB_getD _ _ _ (by omega)
      have hle : (rowB ms q).getD 0 0 ≤ 1125899906842624 := by rw [hx0]; have := HV.out; omega
      have HG := fun w => give_any (rowB ms q) hrl hro (by omega) (k : Int) nn (t : Int) w
      have HGV : Hid (giveV (rowB ms q) (k : Int) nn (t : Int) = if okC (cellOf (chg (rowB ms q) k (2 + t) nn) k) = true then (givenZ (rowB ms q) k t nn, 0) else (zeros 174, 6)) := hide (by
        rw [giveV, if_pos (inK_true.2 ⟨by omega, by omega⟩), show ((t : Int)).toNat = t from rfl, growV_in (2 + t) hk4 hn1 (by omega)]
        rfl)
      have HZ := hide (fun (h : okC (cellOf (chg (rowB ms q) k (2 + t) nn) k) = true) => show okRow (givenZ (rowB ms q) k t nn) = true from chg_ok hrl hro hk4 (by omega) (okRow_v hro) h)
      have HZW : Hid (okC (cellOf (chg (rowB ms q) k (2 + t) nn) k) = true → wf64 (givenZ (rowB ms q) k t nn)) := hide fun h => by
        have h1 := growV_wf hrl hrw hro (by omega) (k : Int) nn (f := 2 + t) (by omega)
        rw [growV_in (2 + t) hk4 hn1 (by omega), if_pos h] at h1
        exact h1
      have HNW : Hid (okC (cellOf (chg (rowB ms q) k (2 + t) nn) k) = true → newsB ms (q : Int) (givenZ (rowB ms q) k t nn) = true) := hide fun h => by
        rw [newsB, inK_true.2 ⟨by omega, by omega⟩, HZ.out h, givenZ_0 hrl, show ((q : Int)).toNat = q from rfl]
        simp; omega
      have HZL := hide (givenZ_length hrl k t nn)
      have HAF := hide HMV.after
      have HBQ := rightsV_bd HOK.out hq5 (k : Int)
      have HBT := rightsV_bd HOK.out ht5 (k : Int)
      have VV := fun {w : World} (hb : IBlk w pb 34 ms) => value_any HOK.out hb (k : Int)
      have RQ := fun {w : World} (hb : IBlk w pb 34 ms) => rights_any HOK.out hb (q : Int) (k : Int)
      have RT := fun {w : World} (hb : IBlk w pb 34 ms) => rights_any HOK.out hb (t : Int) (k : Int)
      generalize okC (cellOf (chg (rowB ms q) k (2 + t) nn) k) = okz at *
      clear hx0 hle HV hro hrw
      have hrr : ∀ wx, IBlk wx pm 32 ms → rowAt wx pm (q * 174) 174 = iA (rowB ms q) ∧ HasRow wx pm (q * 174) 174 := fun wx h => h.got (q * 174) 174 (by have := HML.out; omega)
      have HNB : Hid (∀ hz : okz = true, BookOk (putB ms q (givenZ (rowB ms q) k t nn))) := hide fun hz => HOK.out.put HZL.out (HZW.out hz) (HZ.out hz) hq5
      generalize givenZ (rowB ms q) k t nn = zz at *
      generalize rowB ms q = rr at *
      generalize valueV ms (k : Int) = vv at *
      generalize rightsV ms (q : Int) (k : Int) = rq at *
      generalize rightsV ms (t : Int) (k : Int) = rt at *
      go_upto_region 16 with fail
      clear c2 hH
      go_wp2_with fail
      (with_reducible refine (VV hb).mono ?_)
      rintro e w4 ⟨rfl, hx⟩
      have hb4 := hb.below hx hb.lt
      have hX4 := hX.below hx hX.lt
      have hB4 := hB.trans (hx.mono hB.size)
      clear hb hX hB hx
      go_wp2_with fail
      (with_reducible refine (RQ hb4).mono ?_)
      rintro e w5 ⟨rfl, hx⟩
      have hb5 := hb4.below hx hb4.lt
      have hX5 := hX4.below hx hX4.lt
      have hB5 := hB4.trans (hx.mono hB4.size)
      clear hb4 hX4 hB4 hx
      go_wp2_with fail
      (with_reducible refine (RT hb5).mono ?_)
      rintro e w6 ⟨rfl, hx⟩
      have hb6 := hb5.below hx hb5.lt
      have hX6 := hX5.below hx hX5.lt
      have hB6 := hB5.trans (hx.mono hB5.size)
      clear hb5 hX5 hB5 hx
      obtain ⟨r1, h1'⟩ := hrr w6 hX6
      go_wp2_with fail
      (with_reducible refine (HG w6).mono ?_)
      rintro e w7 ⟨rfl, hx⟩
      have hb7 := hb6.below hx hb6.lt
      have hB7 := hB6.trans (hx.mono hB6.size)
      clear hb6 hX6 hB6 hx r1 h1' HG
      cases okz with
      | false =>
        have HGV2 := HGV.out
        rw [if_neg (by decide)] at HGV2
        rw [HGV2]
        clear HGV HGV2
        have iz := is_zeros 174
        obtain ⟨rm, _, hO, hB8⟩ := lay (t := 31) hB7 (zeros_length 174) hB7.size
        go_upto_region 18 with fail
        generalize (w7.alloc (.cells (iA (zeros 174)) 31)).setCells w7.heap.size 0 (iV (zeros 174)) = w8 at hB8
        clear rm hO
        go_wp2_with fail
        go_ret
        exact ⟨rfl, by first | exact hB8 | exact hph ▸ hB8⟩
      | true =>
        have HGV2 := HGV.out
        rw [if_pos rfl] at HGV2
        rw [HGV2]
        clear HGV HGV2
        obtain ⟨rm, hZ, hO, hB8⟩ := lay (t := 31) hB7 HZL.out hB7.size
        have hb8 := hb7.only hO (fun h => h)
        have hzi : Is 174 zz := HZL.out
        go_upto_region 18 with fail
        generalize hpe : w7.heap.size = p at hZ hO hB8 hb8
        generalize (w7.alloc (.cells (iA (zeros 174)) 31)).setCells p 0 (iV zz) = w8 at hZ hB8 hb8
        clear rm hO hpe
        obtain ⟨r1, h1'⟩ := hZ.whole HZL.out
        have HM := merge_any HML.out hb8 (q : Int) HZL.out (HZW.out (by trivial))
        rw [mergeB, if_pos (HNW.out (by trivial)), HNW.out (by trivial), show ((q : Int)).toNat = q from rfl] at HM
        have HN2 := HNB.out (by trivial)
        obtain ⟨A1, A2, A3⟩ := HAF.out
        have VV2 := fun {w : World} (hb : IBlk w pb 34 (putB ms q zz)) => value_any HN2 hb (k : Int)
        have RQ2 := fun {w : World} (hb : IBlk w pb 34 (putB ms q zz)) => rights_any HN2 hb (q : Int) (k : Int)
        have RT2 := fun {w : World} (hb : IBlk w pb 34 (putB ms q zz)) => rights_any HN2 hb (t : Int) (k : Int)
        rw [A1] at VV2
        rw [A2] at RQ2
        rw [A3] at RT2
        generalize putB ms q zz = ms2 at *
        have b1 : rq - nn ≤ 109951162777600 := by omega
        have b2 : -109951162777600 ≤ rq - nn := by omega
        have b3 : rt + nn ≤ 109951162777600 := by omega
        have b4 : -109951162777600 ≤ rt + nn := by omega
        clear A1 A2 A3 HAF HNB HN2 HZ HZW HNW HMV HOK HML VV RQ RT HBQ HBT
        go_wp2_with fail
        (with_reducible refine HM.mono ?_)
        rintro e w9 ⟨rfl, hb9, hO⟩
        have hB9 := below_only hB8 hO (fun i (e : i = pb) => by go_light; omega) hB8.size
        clear hb8 hB8 hO hZ HM r1 h1'
        go_wp2_with fail
        (with_reducible refine (VV2 hb9).mono ?_)
        rintro e w10 ⟨rfl, hx⟩
        have hb10 := hb9.below hx hb9.lt
        have hB10 := hB9.trans (hx.mono hB9.size)
        clear hb9 hB9 hx
        go_wp2_with fail
        (with_reducible refine (RQ2 hb10).mono ?_)
        rintro e w11 ⟨rfl, hx⟩
        have hb11 := hb10.below hx hb10.lt
        have hB11 := hB10.trans (hx.mono hB10.size)
        clear hb10 hB10 hx
        go_wp2_with fail
        (with_reducible refine (RT2 hb11).mono ?_)
        rintro e w12 ⟨rfl, hx⟩
        have hB12 := hB11.trans (hx.mono hB11.size)
        go_wp2_with fail
        go_ret
        exact ⟨rfl, by first | exact hB12 | exact hph ▸ hB12⟩
end Go.Proofs.Ytlegcjniakocoaa.bookMoves
