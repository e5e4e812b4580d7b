/- The walk of RowChains: it returns true at all arguments and leaves what was there as it was. -/
import Derived.Test.YthacenajocchcaaRowI
namespace Go.Proofs.Ythacenajocchcaa.rowChains
open Go.RowKit

attribute [local go_sem ↓] loadRowF_fold storeRowF_fold buildRowF_fold allocRowF_fold loadCellsF_fold
attribute [local go_sem] loadRowF_has storeRowF_has buildRowF_none allocRowF_run loadCellsF_has
set_option maxRecDepth 100000 in
set_option maxHeartbeats 6400000 in
theorem walk (w : World) (az : List Int) (hla : az.length = 174) (wa : wf64 az) (bz : List Int) (hlb : bz.length = 174) (wb : wf64 bz) (cz : List Int) (hlc : cz.length = 174) (wc_ : wf64 cz) :
    Calls Try.prog 9 #[.agg (iA az), .agg (iA bz), .agg (iA cz)] w fun e w' => e = .returned (.bool true) ∧ Below w.heap.size w w' := by
  have hA0 : IBlk (((w.alloc (.cells (iA az) 53)).alloc (.cells (iA bz) 53)).alloc (.cells (iA cz) 53)) w.heap.size 53 az := ((IBlk.new _ _ _).alloc _).alloc _
  have hb0 : IBlk (((w.alloc (.cells (iA az) 53)).alloc (.cells (iA bz) 53)).alloc (.cells (iA cz) 53)) (w.heap.size + 1) 53 bz := by
    have := (IBlk.new (w.alloc (.cells (iA az) 53)) 53 bz).alloc (.cells (iA cz) 53)
    simpa using this
  have hC0 : IBlk (((w.alloc (.cells (iA az) 53)).alloc (.cells (iA bz) 53)).alloc (.cells (iA cz) 53)) (w.heap.size + 2) 53 cz := by
    have := IBlk.new ((w.alloc (.cells (iA az) 53)).alloc (.cells (iA bz) 53)) 53 cz
    simpa using this
  have hB0 : Below w.heap.size w (((w.alloc (.cells (iA az) 53)).alloc (.cells (iA bz) 53)).alloc (.cells (iA cz) 53)) := (((Below.refl _ _).alloc (Nat.le_refl _) _).alloc (by simp) _).alloc (by simp; omega) _
  have HA := hide hla
  have HB := hide hlb
  have HC := hide hlc
  have RA := lawRight_any az hla wa
  have RB := lawRight_any bz hlb wb
  have RC := lawRight_any cz hlc wc_
  go_enter Try.func9, Try.ntmps9
  go_wp2_with fail
  generalize ((w.alloc (.cells (iA az) 53)).alloc (.cells (iA bz) 53)).alloc (.cells (iA cz) 53) = w0 at hA0 hb0 hC0 hB0
  (with_reducible refine (fit4_any w0).mono ?_)
  rintro e w1 ⟨rfl, hx⟩
  have hA1 := hA0.below hx hA0.lt
  have hb1 := hb0.below hx hb0.lt
  have hC1 := hC0.below hx hC0.lt
  have hB1 := hB0.trans (hx.mono hB0.size)
  clear hA0 hb0 hC0 hB0 hx
  obtain ⟨r1, h1⟩ := hA1.whole hla
  go_wp2_with fail
  (with_reducible refine (RA w1).mono ?_)
  rintro e w2 ⟨rfl, hx⟩
  have hA2 := hA1.below hx hA1.lt
  have hb2 := hb1.below hx hb1.lt
  have hC2 := hC1.below hx hC1.lt
  have hB2 := hB1.trans (hx.mono hB1.size)
  clear hA1 hb1 hC1 hB1 hx r1 h1 RA
  cases oka : okRow az with
  | false =>
    go_wp2_with fail
    go_ret
    exact ⟨rfl, hB2⟩
  | true =>
  obtain ⟨r1, h1⟩ := hb2.whole hlb
  go_wp2_with fail
  (with_reducible refine (RB w2).mono ?_)
  rintro e w3 ⟨rfl, hx⟩
  have hA3 := hA2.below hx hA2.lt
  have hb3 := hb2.below hx hb2.lt
  have hC3 := hC2.below hx hC2.lt
  have hB3 := hB2.trans (hx.mono hB2.size)
  clear hA2 hb2 hC2 hB2 hx r1 h1 RB
  cases okb : okRow bz with
  | false =>
    go_wp2_with fail
    go_ret
    exact ⟨rfl, hB3⟩
  | true =>
  obtain ⟨r1, h1⟩ := hC3.whole hlc
  go_wp2_with fail
  (with_reducible refine (RC w3).mono ?_)
  rintro e w4 ⟨rfl, hx⟩
  have hA4 := hA3.below hx hA3.lt
  have hb4 := hb3.below hx hb3.lt
  have hC4 := hC3.below hx hC3.lt
  have hB4 := hB3.trans (hx.mono hB3.size)
  clear hA3 hb3 hC3 hB3 hx r1 h1 RC
  cases okc : okRow cz with
  | false =>
    go_wp2_with fail
    go_ret
    exact ⟨rfl, hB4⟩
  | true =>
  have ca0 : w4.cell? ⟨w.heap.size, 0, none⟩ = some (.int .i64 (az.getD 0 0)) := hA4.cell (by omega)
  have cb0 : w4.cell? ⟨w.heap.size + 1, 0, none⟩ = some (.int .i64 (bz.getD 0 0)) := hb4.cell (by omega)
  have cc0 : w4.cell? ⟨w.heap.size + 2, 0, none⟩ = some (.int .i64 (cz.getD 0 0)) := hC4.cell (by omega)
  have ca1 : w4.cell? ⟨w.heap.size, 30, none⟩ = some (.int .i64 (az.getD 30 0)) := hA4.cell (by omega)
  have cb2 : w4.cell? ⟨w.heap.size + 1, 31, none⟩ = some (.int .i64 (bz.getD 31 0)) := hb4.cell (by omega)
  have va := okRow_v oka
  have vb := okRow_v okb
  have vc := okRow_v okc
  have ha2 := okRow_h hla oka (k := 2) (by omega)
  have HW := hide (And.intro wa (And.intro wb wc_))
  clear oka okb okc hla hlb hlc wa wb wc_
  by_cases q1 : 1125899906842624 < az.getD 0 0
  · have d := decide_eq_true q1
    generalize az.getD 0 0 = av at *
    go_wp2_with fail
    go_ret
    exact ⟨rfl, hB4⟩
  have d1 := decide_eq_false q1
  by_cases q2 : 1125899906842624 < bz.getD 0 0
  · have d := decide_eq_true q2
    generalize az.getD 0 0 = av at *
    generalize bz.getD 0 0 = bv at *
    go_wp2_with fail
    go_ret
    exact ⟨rfl, hB4⟩
  have d2 := decide_eq_false q2
  by_cases q3 : 1125899906842624 < cz.getD 0 0
  · have d := decide_eq_true q3
    generalize az.getD 0 0 = av at *
    generalize bz.getD 0 0 = bv at *
    generalize cz.getD 0 0 = cv at *
    go_wp2_with fail
    go_ret
    exact ⟨rfl, hB4⟩
  have d3 := decide_eq_false q3
  by_cases q4 : 0 < az.getD 30 0
  · have d := decide_eq_true q4
    generalize az.getD 0 0 = av at *
    generalize bz.getD 0 0 = bv at *
    generalize cz.getD 0 0 = cv at *
    generalize az.getD 30 0 = a1 at *
    go_wp2_with fail
    go_ret
    exact ⟨rfl, hB4⟩
  have d4 := decide_eq_false q4
  by_cases q5 : 0 < bz.getD 31 0
  · have d := decide_eq_true q5
    generalize az.getD 0 0 = av at *
    generalize bz.getD 0 0 = bv at *
    generalize cz.getD 0 0 = cv at *
    generalize az.getD 30 0 = a1 at *
    generalize bz.getD 31 0 = b2 at *
    go_wp2_with fail
    go_ret
    exact ⟨rfl, hB4⟩
  have d5 := decide_eq_false q5
  -- x := Inherit(b, 2, c)
  have I1 := inherit_any bz cz 2 HB.out HC.out HW.out.2.1 HW.out.2.2 (by omega) (by omega) w4
  obtain ⟨rb, hb'⟩ := hb4.whole HB.out
  obtain ⟨rc, hc'⟩ := hC4.whole HC.out
  have BD := hide (show ((0 ≤ az.getD 0 0 ∧ az.getD 0 0 ≤ 1125899906842624) ∧ (0 ≤ bz.getD 0 0 ∧ bz.getD 0 0 ≤ 1125899906842624) ∧ (0 ≤ cz.getD 0 0 ∧ cz.getD 0 0 ≤ 1125899906842624)) ∧ ¬ 0 < az.getD 30 0 ∧ ¬ 0 < bz.getD 31 0 ∧ 0 ≤ az.getD 31 0 from ⟨⟨by omega, by omega, by omega⟩, q4, q5, ha2⟩)
  clear q1 q2 q3 q4 q5 va vb vc ha2
  generalize az.getD 0 0 = av at ca0 d1
  generalize bz.getD 0 0 = bv at cb0 d2
  generalize cz.getD 0 0 = cv at cc0 d3
  generalize az.getD 30 0 = a30 at ca1 d4
  generalize bz.getD 31 0 = b31 at cb2 d5
  go_upto_region 5 with fail
  go_wp2_with fail
  (with_reducible refine I1.mono ?_)
  rintro e w5 ⟨⟨xz, er, rfl, hlx, hE⟩, hx⟩
  have hE2 := InhIs.yes (q := 2) hE (by omega) (by have h := BD.out.2.2.1; show ¬ 0 < bz.getD 31 0; omega)
  clear hE
  obtain ⟨rfl, wx, RX⟩ := hE2
  have hA5 := hA4.below hx hA4.lt
  have hC5 := hC4.below hx hC4.lt
  have hB5 := hB4.trans (hx.mono hB4.size)
  clear I1 hA4 hb4 hC4 hB4 hx rb hb' rc hc' ca0 cb0 cc0 ca1 cb2 d1 d2 d3 d4 d5
  have hix : Is 174 xz := hlx
  obtain ⟨rm, hX6, hO6, hB6⟩ := layRow (g := xz) hB5 hlx hB5.size
  have hA6 := hA5.only hO6 (fun h => h)
  have hC6 := hC5.only hO6 (fun h => h)
  go_upto_region 8 with fail
  obtain ⟨⟨va, vb, vc⟩, q4, q5, ha2⟩ := BD.out
  have xv : xz.getD 0 0 = bz.getD 0 0 + 1 := RX.ver
  have x2 : xz.getD 31 0 = cz.getD 0 0 + 1 := RX.heir 2 (by omega)
  have xl2 : chunk xz 90 = chunk cz 1 := RX.left 2 (by omega)
  clear rm hO6 RX hA5 hC5
  generalize hpe : w5.heap.size = p at hA6 hC6 hX6 hB6
  generalize (w5.alloc (.cells (iA (zeros 174)) 53)).setCells p 0 (iV xz) = w6 at hA6 hC6 hX6 hB6
  clear hpe
  clear hB5
  -- y := Inherit(a, 1, x)
  have I2 := inherit_any az xz 1 HA.out hlx HW.out.1 wx (by omega) (by omega) w6
  have XF := hide (And.intro xv (And.intro x2 xl2))
  clear xv x2 xl2 va vb vc q4 q5 ha2
  obtain ⟨rb, hb'⟩ := hA6.whole HA.out
  obtain ⟨rc, hc'⟩ := hX6.whole hlx
  go_wp2_with fail
  (with_reducible refine I2.mono ?_)
  rintro e w7 ⟨⟨yz, er, rfl, hly, hE⟩, hx⟩
  have hE2 := InhIs.yes (q := 1) hE (by omega) (by have h := BD.out.2.1; show ¬ 0 < az.getD 30 0; omega)
  clear hE
  obtain ⟨rfl, wy, RY⟩ := hE2
  have hA7 := hA6.below hx hA6.lt
  have hC7 := hC6.below hx hC6.lt
  have hX7 := hX6.below hx hX6.lt
  have hB7 := hB6.trans (hx.mono hB6.size)
  clear I2 hA6 hC6 hX6 hB6 hx rb hb' rc hc'
  have hiy : Is 174 yz := hly
  obtain ⟨rm, hY8, hO8, hB8⟩ := layRow (g := yz) hB7 hly hB7.size
  have hA8 := hA7.only hO8 (fun h => h)
  have hC8 := hC7.only hO8 (fun h => h)
  have hX8 := hX7.only hO8 (fun h => h)
  go_upto_region 9 with fail
  obtain ⟨⟨va, vb, vc⟩, q4, q5, ha2⟩ := BD.out
  obtain ⟨xv, x2, xl2⟩ := XF.out
  have yv : yz.getD 0 0 = az.getD 0 0 + 1 := RY.ver
  have y1 : yz.getD 30 0 = xz.getD 0 0 + 1 := RY.heir 1 (by omega)
  have y2 : yz.getD 31 0 = if az.getD 31 0 = 0 then xz.getD 31 0 else az.getD 31 0 := by
    have := RY.heir 2 (by omega)
    rw [if_neg (by omega), mixH] at this
    by_cases e : az.getD 31 0 = 0
    · rw [if_pos e]; rw [if_pos ⟨by omega, by rw [x2]; omega, e⟩] at this; exact this
    · rw [if_neg e]; rw [if_neg (fun h => e h.2.2)] at this; exact this
  have yl2 : az.getD 31 0 = 0 → chunk yz 90 = chunk xz 90 := fun e => by
    have := RY.left 2 (by omega)
    rw [if_neg (by omega), mixL, if_pos ⟨by omega, by rw [x2]; omega, e⟩] at this
    exact this
  clear rm hO8 RY hA7 hC7 hX7
  generalize hqe : w7.heap.size = q at hA8 hC8 hX8 hY8 hB8
  generalize (w7.alloc (.cells (iA (zeros 174)) 53)).setCells q 0 (iV yz) = w8 at hA8 hC8 hX8 hY8 hB8
  clear hqe
  clear hB7
  have y2p : 0 < yz.getD 31 0 := by
    rw [y2]
    split
    · omega
    · have : 0 ≤ az.getD 31 0 := ha2
      omega
  have cy1 : w8.cell? ⟨q, 30, none⟩ = some (.int .i64 (bz.getD 0 0 + 1 + 1)) := by rw [← xv, ← y1]; exact hY8.cell (by omega)
  have cy2 : w8.cell? ⟨q, 31, none⟩ = some (.int .i64 (yz.getD 31 0)) := hY8.cell (by omega)
  have cx0 : w8.cell? ⟨p, 0, none⟩ = some (.int .i64 (bz.getD 0 0 + 1)) := by rw [← xv]; exact hX8.cell (by omega)
  have ey : (yz.getD 31 0 == 0) = false := by simp only [beq_eq_false_iff_ne]; omega
  have I3 := inherit_any yz xz 1 hly hlx wy wx (by omega) (by omega) w8
  have hlim : bz.getD 0 0 ≤ 1125899906842624 := by omega
  have hlim0 : 0 ≤ bz.getD 0 0 := by omega
  have y1p : 0 < yz.getD (29 + 1) 0 := by show 0 < yz.getD 30 0; omega
  have y2q : 0 < yz.getD 31 0 := y2p
  have I4' := fun w10 => inherit_any yz cz 2 hly HC.out wy HW.out.2.2 (by omega) (by omega) w10
  have YF := hide (And.intro y1p (And.intro y2p (And.intro ha2 (fun e => (yl2 e).trans xl2))))
  clear va vb vc q4 q5 ha2 xv x2 xl2 yv y1 y2 yl2 y2p y1p y2q
  generalize bz.getD 0 0 = bv at cy1 cx0 hlim hlim0
  generalize yz.getD 31 0 = y31 at cy2 ey
  obtain ⟨rb, hb'⟩ := hY8.whole hly
  obtain ⟨rc, hc'⟩ := hX8.whole hlx
  go_upto_region 11 with fail
  go_wp2_with fail
  (with_reducible refine I3.mono ?_)
  rintro e w9 ⟨⟨z1, er, rfl, hlz1, hE⟩, hx⟩
  have hE2 := InhIs.busy (q := 1) hE (by omega) YF.out.1
  obtain ⟨rfl, rfl⟩ := hE2
  clear hE
  have hA9 := hA8.below hx hA8.lt
  have hC9 := hC8.below hx hC8.lt
  have hY9 := hY8.below hx hY8.lt
  have hB9 := hB8.trans (hx.mono hB8.size)
  clear I3 hA8 hC8 hX8 hY8 hB8 hx rb hb' rc hc' cy1 cy2 cx0 hlz1
  have iz := is_zeros 174
  obtain ⟨rm, hZ, hO10, hB10⟩ := layRow (g := zeros 174) hB9 (zeros_length 174) hB9.size
  have hA10 := hA9.only hO10 (fun h => h)
  have hC10 := hC9.only hO10 (fun h => h)
  have hY10 := hY9.only hO10 (fun h => h)
  go_upto_region 12 with fail
  clear rm hO10 hA9 hC9 hY9 hZ
  generalize (w9.alloc (.cells (iA (zeros 174)) 53)).setCells w9.heap.size 0 (iV (zeros 174)) = w10 at *
  clear hB9
  have I4 := I4' w10
  obtain ⟨rb, hb'⟩ := hY10.whole hly
  obtain ⟨rc, hc'⟩ := hC10.whole HC.out
  go_wp2_with fail
  (with_reducible refine I4.mono ?_)
  rintro e w11 ⟨⟨z1, er, rfl, hlz1, hE⟩, hx⟩
  have hE2 := InhIs.busy (q := 2) hE (by omega) YF.out.2.1
  obtain ⟨rfl, rfl⟩ := hE2
  clear hE
  have hA11 := hA10.below hx hA10.lt
  have hC11 := hC10.below hx hC10.lt
  have hY11 := hY10.below hx hY10.lt
  have hB11 := hB10.trans (hx.mono hB10.size)
  clear I4 hA10 hC10 hY10 hB10 hx rb hb' rc hc' hlz1
  obtain ⟨rm, hZ, hO12, hB12⟩ := layRow (g := zeros 174) hB11 (zeros_length 174) hB11.size
  have hA12 := hA11.only hO12 (fun h => h)
  have hC12 := hC11.only hO12 (fun h => h)
  have hY12 := hY11.only hO12 (fun h => h)
  go_upto_region 13 with fail
  clear rm hO12 hA11 hC11 hY11 hZ
  generalize (w11.alloc (.cells (iA (zeros 174)) 53)).setCells w11.heap.size 0 (iV (zeros 174)) = w12 at *
  clear hB11
  have ca2 : w12.cell? ⟨w.heap.size, 31, none⟩ = some (.int .i64 (az.getD 31 0)) := hA12.cell (by rw [HA.out]; omega)
  by_cases e : 0 < az.getD 31 0
  · have d := decide_eq_true e
    generalize az.getD 31 0 = a31 at ca2 d
    go_wp2_with fail
    go_ret
    exact ⟨rfl, hB12⟩
  · have e0 : az.getD 31 0 = 0 := by have : 0 ≤ az.getD 31 0 := YF.out.2.2.1; omega
    have hcl : (chunk cz 1).length = 28 := chunk_length (by rw [HC.out]; omega)
    have hcw : wf64 (chunk cz 1) := wf64_chunk HW.out.2.2 _ _
    have hq : ∀ w, (Op.equalIn 10000 50 (.agg (iA (chunk cz 1))) (.agg (iA (chunk cz 1)))).run Try.prog w = .ok (decide (chunk cz 1 = chunk cz 1)) w := fun w => Try.eqCells hcl hcl hcw hcw w
    simp only [decide_true] at hq
    obtain ⟨rb, hb'⟩ := hY12.got 90 28 (by rw [hly]; decide)
    obtain ⟨rc, hc'⟩ := hC12.got 1 28 (by rw [HC.out]; decide)
    rw [show (yz.drop 90).take 28 = chunk cz 1 from YF.out.2.2.2 e0] at rb
    rw [show (cz.drop 1).take 28 = chunk cz 1 from rfl] at rc
    rw [e0] at ca2
    generalize chunk cz 1 = ch at rb rc hq
    go_wp2_with fail
    go_ret
    exact ⟨rfl, hB12⟩
end Go.Proofs.Ythacenajocchcaa.rowChains
