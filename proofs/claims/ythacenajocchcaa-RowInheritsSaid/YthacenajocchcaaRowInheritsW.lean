/- The walk of RowInherits: it returns true at all arguments and leaves what was there as it was. -/
import Derived.Test.YthacenajocchcaaRowI
import Derived.StillTailTactics
import Derived.BigQuiet
namespace Go.Proofs.Ythacenajocchcaa.rowInherits
open Go.RowKit

theorem inh_ok {xs ds y : List Int} {q : Nat} (hx : xs.length = 174) (hd : ds.length = 174) (ox : okRow xs = true) (od : okRow ds = true)
    (h : RowIs y (xs.getD 0 0 + 1) (chunk xs 1) (fun i => if i = q then ds.getD 0 0 + 1 else mixH xs ds 5 i) (fun i => if i = q then chunk ds 1 else mixL xs ds 5 i)) : okRow y = true := by
  obtain ⟨x1, x2, x3⟩ := (rowIs_self hx).ok.1 ox
  obtain ⟨d1, d2, d3⟩ := (rowIs_self hd).ok.1 od
  refine h.ok.2 ⟨by omega, x2, fun i hi => ?_⟩
  by_cases e : i = q
  · simp only [if_pos e]
    exact ⟨by omega, d2, .inl (by omega)⟩
  · simp only [if_neg e]
    unfold mixH mixL
    by_cases t : i < 5 ∧ Tk xs ds i
    · rw [if_pos t, if_pos t]; exact d3 i hi
    · rw [if_neg t, if_neg t]; exact x3 i hi

attribute [local go_sem ↓] loadRowF_fold storeRowF_fold buildRowF_fold allocRowF_fold loadCellsF_fold storeCellsF_fold allocCellsF_fold
attribute [local go_sem] loadRowF_has storeRowF_has buildRowF_none allocRowF_run loadCellsF_has storeCellsF_has allocCellsF_run
set_option maxRecDepth 100000 in
set_option maxHeartbeats 6400000 in
theorem walk (w : World) (xz : List Int) (hlx : xz.length = 174) (wx : wf64 xz) (dz : List Int) (hld : dz.length = 174) (wd : wf64 dz) (who : Int) (_ : -9223372036854775808 ≤ who) (_ : who ≤ 9223372036854775807) :
    Calls Try.prog 6 #[.agg (iA xz), .agg (iA dz), .int .i64 who] w fun e w' => e = .returned (.bool true) ∧ Below w.heap.size w w' := by
  have hX0 : IBlk ((w.alloc (.cells (iA xz) 53)).alloc (.cells (iA dz) 53)) w.heap.size 53 xz := (IBlk.new _ _ _).alloc _
  have hD0 : IBlk ((w.alloc (.cells (iA xz) 53)).alloc (.cells (iA dz) 53)) (w.heap.size + 1) 53 dz := by
    have := IBlk.new (w.alloc (.cells (iA xz) 53)) 53 dz
    simpa using this
  have hB0 : Below w.heap.size w ((w.alloc (.cells (iA xz) 53)).alloc (.cells (iA dz) 53)) := ((Below.refl _ _).alloc (Nat.le_refl _) _).alloc (by simp) _
  have HX := hide hlx
  have HD := hide hld
  have RX := lawRight_any xz hlx wx
  have RD := lawRight_any dz hld wd
  go_enter Try.func6, Try.ntmps6
  go_wp2_with fail
  generalize (w.alloc (.cells (iA xz) 53)).alloc (.cells (iA dz) 53) = w0 at hX0 hD0 hB0
  (with_reducible refine (fit4_any w0).mono ?_)
  rintro e w1 ⟨rfl, hx⟩
  have hX1 := hX0.below hx hX0.lt
  have hD1 := hD0.below hx hD0.lt
  have hB1 := hB0.trans (hx.mono hB0.size)
  clear hX0 hD0 hB0 hx
  obtain ⟨r1, h1⟩ := hX1.whole hlx
  go_wp2_with fail
  (with_reducible refine (RX w1).mono ?_)
  rintro e w2 ⟨rfl, hx⟩
  have hX2 := hX1.below hx hX1.lt
  have hD2 := hD1.below hx hD1.lt
  have hB2 := hB1.trans (hx.mono hB1.size)
  clear hX1 hD1 hB1 hx r1 h1 RX
  cases okx : okRow xz with
  | false =>
    go_wp2_with fail
    go_ret
    exact ⟨rfl, hB2⟩
  | true =>
  obtain ⟨r1, h1⟩ := hD2.whole hld
  go_wp2_with fail
  (with_reducible refine (RD w2).mono ?_)
  rintro e w4 ⟨rfl, hx⟩
  have hX4 := hX2.below hx hX2.lt
  have hD4 := hD2.below hx hD2.lt
  have hB4 := hB2.trans (hx.mono hB2.size)
  clear hX2 hD2 hB2 hx r1 h1 RD
  cases okd : okRow dz with
  | false =>
    go_wp2_with fail
    go_ret
    exact ⟨rfl, hB4⟩
  | true =>
  have cx0 : w4.cell? ⟨w.heap.size, 0, none⟩ = some (.int .i64 (xz.getD 0 0)) := hX4.cell (by omega)
  have cd0 : w4.cell? ⟨w.heap.size + 1, 0, none⟩ = some (.int .i64 (dz.getD 0 0)) := hD4.cell (by omega)
  have vx := okRow_v okx
  have vd := okRow_v okd
  have HO := hide (And.intro okx okd)
  have HW := hide (And.intro wx wd)
  clear okx okd wx wd
  by_cases q1 : 1152921504606846976 < xz.getD 0 0
  · have d := decide_eq_true q1
    generalize xz.getD 0 0 = xv at *
    go_wp2_with fail
    go_ret
    exact ⟨rfl, hB4⟩
  have d1 := decide_eq_false q1
  by_cases q2 : 1152921504606846976 < dz.getD 0 0
  · have d := decide_eq_true q2
    generalize xz.getD 0 0 = xv at *
    generalize dz.getD 0 0 = dv at *
    go_wp2_with fail
    go_ret
    exact ⟨rfl, hB4⟩
  have d2 := decide_eq_false q2
  have I1 := inherit_any xz dz who hlx hld HW.out.1 HW.out.2 (by omega) (by omega) w4
  have BD := hide (show (0 ≤ xz.getD 0 0 ∧ xz.getD 0 0 ≤ 1152921504606846976) ∧ (0 ≤ dz.getD 0 0 ∧ dz.getD 0 0 ≤ 1152921504606846976) from ⟨by omega, by omega⟩)
  clear hlx hld q1 q2 vx vd
  generalize xz.getD 0 0 = xv at cx0 d1
  generalize dz.getD 0 0 = dv at cd0 d2
  obtain ⟨rb, hb'⟩ := hX4.whole HX.out
  obtain ⟨rc, hc'⟩ := hD4.whole HD.out
  go_upto_region 5 with fail
  go_wp2_with fail
  (with_reducible refine I1.mono ?_)
  rintro e w5 ⟨⟨yz, er, rfl, hly, hE⟩, hx⟩
  have hX5 := hX4.below hx hX4.lt
  have hD5 := hD4.below hx hD4.lt
  have hB5 := hB4.trans (hx.mono hB4.size)
  clear I1 hX4 hD4 hB4 hx rb hb' rc hc' cx0 cd0 d1 d2
  have hiy : Is 174 yz := hly
  obtain ⟨rm, hY6, hO6, hB6⟩ := layRow (g := yz) hB5 hly hB5.size
  have hX6 := hX5.only hO6 (fun h => h)
  have hD6 := hD5.only hO6 (fun h => h)
  have hpX : w.heap.size + 1 < w5.heap.size := hD5.lt
  have HE := hide hE
  clear hE
  go_upto_region 6 with fail
  clear rm hO6 hX5 hD5
  generalize hpe : w5.heap.size = p at hX6 hD6 hY6 hB6 hpX
  generalize (w5.alloc (.cells (iA (zeros 174)) 53)).setCells p 0 (iV yz) = w6 at hX6 hD6 hY6 hB6
  clear hpe hB5
  have HYL := hide hly
  have zz : ∀ w, (Op.equalIn 10000 53 (.agg (iA (zeros 174))) (.agg (iA (zeros 174)))).run Try.prog w = .ok (decide (zeros 174 = zeros 174)) w := fun w => Try.eqRow (zeros_length _) (zeros_length _) (wf_zeros _) (wf_zeros _) w
  simp only [decide_true] at zz
  by_cases hin : inK who 5 = true
  · obtain ⟨q, rfl⟩ : ∃ q : Nat, who = (q : Int) := ⟨who.toNat, by have := inK_true.1 hin; omega⟩
    have hq5 : q < 5 := by have := (inK_true.1 hin).2; omega
    clear hin
    have cq : w6.cell? ⟨w.heap.size, 29 + q, none⟩ = some (.int .i64 (xz.getD (29 + q) 0)) := hX6.cell (by rw [HX.out]; omega)
    by_cases hb : 0 < xz.getD (29 + q) 0
    · obtain ⟨rfl, rfl⟩ := InhIs.busy HE.out hq5 hb
      obtain ⟨ry, hy⟩ := hY6.whole hly
      have d := decide_eq_true hb
      generalize xz.getD (29 + q) 0 = xq at cq d
      clear HE hb
      go_wp2_with fail
      go_ret
      exact ⟨rfl, hB6⟩
    · obtain ⟨rfl, wy, RY⟩ := InhIs.yes HE.out hq5 hb
      have oky := inh_ok HX.out HD.out HO.out.1 HO.out.2 RY
      have d := decide_eq_false hb
      generalize xz.getD (29 + q) 0 = xq at cq d
      clear HE hb zz
      go_upto_region 10 with fail
      clear cq d
      have hRR := rowRight_any yz hly wy
      rw [oky] at hRR
      have WY := hide wy
      have HRY := hide RY
      have y0 := RY.ver
      have y1 := RY.cells
      have yh := RY.heir q hq5
      have yl := RY.left q hq5
      simp only [if_pos] at yh yl
      obtain ⟨⟨vx, vx'⟩, ⟨vd, vd'⟩⟩ := BD.out
      have cy0 : w6.drew.cell? ⟨p, 0, none⟩ = some (.int .i64 (xz.getD 0 0 + 1)) := by rw [← y0]; exact hY6.drew.cell (by omega)
      have cx0 : w6.drew.cell? ⟨w.heap.size, 0, none⟩ = some (.int .i64 (xz.getD 0 0)) := hX6.drew.cell (by rw [HX.out]; omega)
      have cd0 : w6.drew.cell? ⟨w.heap.size + 1, 0, none⟩ = some (.int .i64 (dz.getD 0 0)) := hD6.drew.cell (by rw [HD.out]; omega)
      have cyq : w6.drew.cell? ⟨p, 29 + q, none⟩ = some (.int .i64 (dz.getD 0 0 + 1)) := by rw [← yh]; exact hY6.drew.cell (by omega)
      obtain ⟨ry1, hy1⟩ := hY6.drew.got 1 28 (by omega)
      obtain ⟨rx1, hx1⟩ := hX6.drew.got 1 28 (by rw [HX.out]; omega)
      obtain ⟨rd1, hd1⟩ := hD6.drew.got 1 28 (by rw [HD.out]; omega)
      obtain ⟨ryq, hyq⟩ := hY6.drew.got (34 + q * 28) 28 (by omega)
      obtain ⟨ryw, hyw⟩ := hY6.drew.whole hly
      rw [show (yz.drop 1).take 28 = chunk xz 1 from y1] at ry1
      rw [show (xz.drop 1).take 28 = chunk xz 1 from rfl] at rx1
      rw [show (dz.drop 1).take 28 = chunk dz 1 from rfl] at rd1
      rw [show (yz.drop (34 + q * 28)).take 28 = chunk dz 1 from yl] at ryq
      have eqs : ∀ c : List Int, c.length = 28 → wf64 c → ∀ w, (Op.equalIn 10000 50 (.agg (iA c)) (.agg (iA c))).run Try.prog w = .ok true w := fun c h1 h2 w => by
        have := Try.eqCells h1 h1 h2 h2 w
        simpa using this
      have EQS := hide eqs
      have qx := eqs (chunk xz 1) (chunk_length (by rw [HX.out]; omega)) (wf64_chunk HW.out.1 _ _)
      have qd := eqs (chunk dz 1) (chunk_length (by rw [HD.out]; omega)) (wf64_chunk HW.out.2 _ _)
      clear y0 y1 yh yl RY wy oky eqs
      generalize xz.getD 0 0 = xv at cy0 cx0 vx vx'
      generalize dz.getD 0 0 = dv at cd0 cyq vd vd'
      generalize chunk xz 1 = cx1 at *
      generalize chunk dz 1 = cd1 at *
      have hw1 : IntKind.i64.wrap (xv + 1) = xv + 1 := IntWalk.i64_in _ (by omega)
      have hw2 : IntKind.i64.wrap (dv + 1) = dv + 1 := IntWalk.i64_in _ (by omega)
      go_cut [106] (fun s106 wx => s106 = .bool false ∧ IBlk wx w.heap.size 53 xz ∧ IBlk wx (w.heap.size + 1) 53 dz ∧ IBlk wx p 53 yz ∧ Below w.heap.size w wx)
      case first =>
        refine wp_region_still_tail 38 (by kernel_rfl) (by kernel_rfl) ?_
        simp only [List.take_succ_cons, List.take_zero, List.drop_succ_cons, List.drop_zero]
        change wpStill _ _ w6.drew _ _ _
        repeat still_step
        refine wpStill_nil ?_
        have hX7 := hX6.drew
        have hD7 := hD6.drew
        have hY7 := hY6.drew
        have hB7 := hB6.drew
        change wpList _ _ _ _ _ w6.drew
        generalize w6.drew = w7 at hX7 hD7 hY7 hB7
        clear cy0 cx0 cd0 cyq ry1 hy1 rx1 hx1 rd1 hd1 ryq hyq ryw hyw qx qd hX6 hD6 hY6 hB6
        go_wp2_with fail
        (with_reducible refine (hRR w7).mono ?_)
        rintro e w8 ⟨rfl, hx⟩
        go_wp2_with fail
        go_meet
        exact ⟨rfl, hX7.below hx hX7.lt, hD7.below hx hD7.lt, hY7.below hx hY7.lt, hB7.trans (hx.mono hB7.size)⟩
      case rest =>
        clear cy0 cx0 cd0 cyq ry1 hy1 rx1 hx1 rd1 hd1 ryq hyq ryw hyw qx qd hX6 hD6 hY6 hB6 hRR hw1 hw2
        obtain ⟨rfl, hX, hD, hY, hB⟩ := hcut
        go_wp2_with fail
        go_loopw [107] (fun i wr => ∃ k : Nat, k ≤ 5 ∧ i = .int .i64 k ∧ IBlk wr w.heap.size 53 xz ∧ IBlk wr (w.heap.size + 1) 53 dz ∧ IBlk wr p 53 yz ∧ Below w.heap.size w wr) (fun i _ => 5 - (intOf i).toNat)
        case atStart => exact ⟨0, by omega, rfl, hX, hD, hY, hB⟩
        case round =>
          clear hX hD hY hB
          obtain ⟨k, hk, rfl, hX, hD, hY, hB⟩ := hrel
          by_cases hlt : k < 5
          · by_cases hkq : k = q
            · subst hkq
              go_wp2_with fail
              go_roundw
              case rel => exact ⟨k + 1, by omega, by go_num, hX, hD, hY, hB⟩
              case measure => simp [intOf]; omega
            · have hkq' : ((k : Int) == (q : Int)) = false := by simp; omega
              have yh := HRY.out.heir k hlt
              have yl := HRY.out.left k hlt
              simp only [if_neg hkq] at yh yl
              have cx : wr.drew.cell? ⟨w.heap.size, 29 + k, none⟩ = some (.int .i64 (xz.getD (29 + k) 0)) := hX.drew.cell (by rw [HX.out]; omega)
              obtain ⟨rx, hx⟩ := hX.drew.got (34 + k * 28) 28 (by rw [HX.out]; omega)
              rw [show (xz.drop (34 + k * 28)).take 28 = chunk xz (34 + k * 28) from rfl] at rx
              have hcl : (chunk xz (34 + k * 28)).length = 28 := chunk_length (by rw [HX.out]; omega)
              have hdl : (chunk dz (34 + k * 28)).length = 28 := chunk_length (by rw [HD.out]; omega)
              have hic : Is 28 (chunk xz (34 + k * 28)) := hcl
              have hid : Is 28 (chunk dz (34 + k * 28)) := hdl
              have ex := EQS.out _ hcl (wf64_chunk HW.out.1 _ _)
              have ed := EQS.out _ hdl (wf64_chunk HW.out.2 _ _)
              have hwd : wr.drew.heap.size = wr.heap.size := rfl
              have hnew : IBlk (wr.drew.alloc (.cells (iA (zeros 28)) 50)) wr.heap.size 50 (zeros 28) := IBlk.new _ _ _
              have hrm : Room (wr.alloc (.cells (iA (zeros 28)) 50)).drew wr.heap.size 0 28 := hnew.room 0 28 (by decide)
              have hXa := (hX.alloc (.cells (iA (zeros 28)) 50)).drew
              have cx2 : (wr.alloc (.cells (iA (zeros 28)) 50)).drew.cell? ⟨w.heap.size, 29 + k, none⟩ = some (.int .i64 (xz.getD (29 + k) 0)) := hXa.cell (by rw [HX.out]; omega)
              obtain ⟨rx2, hx2⟩ := hXa.got (34 + k * 28) 28 (by rw [HX.out]; omega)
              rw [show (xz.drop (34 + k * 28)).take 28 = chunk xz (34 + k * 28) from rfl] at rx2
              clear hXa
              have hf := hnew.fill (ys := chunk xz (34 + k * 28)) hcl
              have hO : Only (fun _ => False) wr ((wr.drew.alloc (.cells (iA (zeros 28)) 50)).setCells wr.heap.size 0 (iV (chunk xz (34 + k * 28)))) := Only.setCells _ (.inr (Nat.le_refl _)) _ _ (((Only.refl _ _).drew).alloc _)
              have hX2 := hX.only hO (fun h => h)
              have hD2 := hD.only hO (fun h => h)
              have hY2 := hY.only hO (fun h => h)
              have hB2 := below_only hB hO (fun _ h => h.elim) hB.size
              have hsX := hX.lt
              have hsD := hD.lt
              have hsY := hY.lt
              have hsB := hB.size
              clear hO hnew
              go_upto_region 16 with fail
              go_cut [10, 11] (fun s10 s11 wx => s10 = .int .i64 (xz.getD (29 + k) 0) ∧ s11 = .pointer (some ⟨wr.heap.size, 0, none⟩) ∧ IBlk wx wr.heap.size 50 (chunk xz (34 + k * 28)) ∧ IBlk wx w.heap.size 53 xz ∧ IBlk wx (w.heap.size + 1) 53 dz ∧ IBlk wx p 53 yz ∧ Below w.heap.size w wx)
              case first =>
                clear hkq hkq' ex ed yh yl hid hdl
                generalize xz.getD (29 + k) 0 = xh at *
                generalize chunk xz (34 + k * 28) = xc at *
                go_region
                all_goals
                  go_wp2_with fail
                  go_meet
                  exact ⟨rfl, rfl, hf, hX2, hD2, hY2, hB2⟩
              case rest =>
                clear hX2 hD2 hY2 hB2 hf hrm cx rx hx cx2 rx2 hx2 hX hD hY hB hic
                obtain ⟨rfl, rfl, hL, hX, hD, hY, hB⟩ := hcut
                generalize hpe : wr.heap.size = r at hL hsB hsX hsD hsY
                clear hpe
                have cd : wc.cell? ⟨w.heap.size + 1, 29 + k, none⟩ = some (.int .i64 (dz.getD (29 + k) 0)) := hD.cell (by rw [HD.out]; omega)
                have fin_ : ∀ (w9 : World) (c : List Int), IBlk w9 r 50 c → IBlk w9 p 53 yz → c.length = 28 → yz.getD (29 + k) 0 = yz.getD (29 + k) 0 := fun _ _ _ _ _ => rfl
                clear fin_
                by_cases tk : Tk xz dz k
                · have mh : mixH xz dz 5 k = dz.getD (29 + k) 0 := by rw [mixH, if_pos ⟨hlt, tk⟩]
                  have ml : mixL xz dz 5 k = chunk dz (34 + k * 28) := by rw [mixL, if_pos ⟨hlt, tk⟩]
                  rw [mh] at yh
                  rw [ml] at yl
                  obtain ⟨t1, t2⟩ := tk
                  obtain ⟨rd, hd⟩ := hD.drew.got (34 + k * 28) 28 (by rw [HD.out]; omega)
                  rw [show (dz.drop (34 + k * 28)).take 28 = chunk dz (34 + k * 28) from rfl] at rd
                  have cdd : wc.drew.cell? ⟨w.heap.size + 1, 29 + k, none⟩ = some (.int .i64 (dz.getD (29 + k) 0)) := cd
                  have hrm := hL.drew.room 0 28 (by omega)
                  have hL2 := hL.drew.fill (ys := chunk dz (34 + k * 28)) (by omega)
                  have oL := (Only.refl (· = r) wc).drew.trans_ (only_cells wc.drew r 0 (iV (chunk dz (34 + k * 28))))
                  have hX2 := hX.only oL (by show ¬ w.heap.size = r; omega)
                  have hD2 := hD.only oL (by show ¬ w.heap.size + 1 = r; omega)
                  have hY2 := hY.only oL (by show ¬ p = r; omega)
                  have hB2 := below_only hB oL (fun i (e : i = r) => by omega) hB.size
                  clear mh ml oL ex
                  rw [t2]
                  clear t2
                  generalize dz.getD (29 + k) 0 = dh at *
                  generalize hdc : chunk dz (34 + k * 28) = dc at *
                  clear hdc
                  go_upto_region 18 with fail
                  go_cut [10] (fun s10 wx => s10 = .int .i64 dh ∧ IBlk wx r 50 dc ∧ IBlk wx w.heap.size 53 xz ∧ IBlk wx (w.heap.size + 1) 53 dz ∧ IBlk wx p 53 yz ∧ Below w.heap.size w wx)
                  case first =>
                    clear yh yl ed
                    go_region
                    all_goals
                      go_wp2_with fail
                      go_meet
                      exact ⟨rfl, hL2, hX2, hD2, hY2, hB2⟩
                  case rest =>
                    clear hX2 hD2 hY2 hB2 hL2 hrm cd cdd rd hd hX hD hY hB hL
                    obtain ⟨rfl, hL, hX, hD, hY, hB⟩ := hcut
                    have cy : wc.drew.cell? ⟨p, 29 + k, none⟩ = some (.int .i64 dh) := by rw [← yh]; exact hY.drew.cell (by omega)
                    obtain ⟨ry, hy⟩ := hY.drew.got (34 + k * 28) 28 (by omega)
                    rw [show (yz.drop (34 + k * 28)).take 28 = dc from yl] at ry
                    obtain ⟨rl, hl'⟩ := hL.drew.whole hdl
                    have hX2 := hX.drew
                    have hD2 := hD.drew
                    have hY2 := hY.drew
                    have hB2 := hB.drew
                    go_upto_region 19 with fail
                    go_cut [151] (fun s151 wx => s151 = .bool false ∧ IBlk wx w.heap.size 53 xz ∧ IBlk wx (w.heap.size + 1) 53 dz ∧ IBlk wx p 53 yz ∧ Below w.heap.size w wx)
                    case first =>
                      refine wp_region_still_lit (by kernel_rfl) (by kernel_rfl) ?_
                      change wpStill _ _ wc.drew _ _ _
                      repeat still_step
                      refine wpStill_nil ?_
                      change Exit.then _ _ _ _ wc.drew
                      generalize wc.drew = w9 at hX2 hD2 hY2 hB2
                      clear cy ry hy rl hl' hL hX hD hY hB
                      go_wp2_with fail
                      go_meet
                      exact ⟨rfl, hX2, hD2, hY2, hB2⟩
                    case rest =>
                      clear cy ry hy rl hl' hL hX hD hY hB hX2 hD2 hY2 hB2
                      obtain ⟨rfl, hX, hD, hY, hB⟩ := hcut
                      go_wp2_with fail
                      go_roundw
                      case rel => exact ⟨k + 1, by omega, by go_num, hX, hD, hY, hB⟩
                      case measure => simp [intOf]; omega
                · have mh : mixH xz dz 5 k = xz.getD (29 + k) 0 := by rw [mixH, if_neg (fun h => tk h.2)]
                  have ml : mixL xz dz 5 k = chunk xz (34 + k * 28) := by rw [mixL, if_neg (fun h => tk h.2)]
                  rw [mh] at yh
                  rw [ml] at yl
                  have dec : (xz.getD (29 + k) 0 == 0) = false ∨ decide (0 < dz.getD (29 + k) 0) = false := by
                    by_cases e : xz.getD (29 + k) 0 = 0
                    · exact .inr (decide_eq_false fun h => tk ⟨h, e⟩)
                    · exact .inl (by simpa using e)
                  clear mh ml ed tk
                  generalize xz.getD (29 + k) 0 = xh at *
                  generalize dz.getD (29 + k) 0 = dh at *
                  generalize hxc : chunk xz (34 + k * 28) = xc at *
                  clear hxc
                  have cy : wc.drew.cell? ⟨p, 29 + k, none⟩ = some (.int .i64 xh) := by rw [← yh]; exact hY.drew.cell (by omega)
                  obtain ⟨ry, hy⟩ := hY.drew.got (34 + k * 28) 28 (by omega)
                  rw [show (yz.drop (34 + k * 28)).take 28 = xc from yl] at ry
                  obtain ⟨rl, hl'⟩ := hL.drew.whole hcl
                  have hX2 := hX.drew
                  have hD2 := hD.drew
                  have hY2 := hY.drew
                  have hB2 := hB.drew
                  go_upto_region 17 with fail
                  go_cut [129] (fun s129 wx => s129 = .bool false ∧ wx = wc)
                  case first =>
                    rcases dec with e | e
                    · by_cases e0 : xh = 0
                      · subst e0; simp at e
                      · go_wp2_with fail
                        go_meet
                        exact ⟨rfl, rfl⟩
                    · by_cases e0 : xh = 0
                      · subst e0
                        go_wp2_with fail
                        go_meet
                        exact ⟨rfl, rfl⟩
                      · have e1 : (xh == 0) = false := by simpa using e0
                        go_wp2_with fail
                        go_meet
                        exact ⟨rfl, rfl⟩
                  case rest =>
                    rename_i wc0
                    obtain ⟨rfl, rfl⟩ := hcut
                    go_upto_region 19 with fail
                    go_cut [151] (fun s151 wx => s151 = .bool false ∧ IBlk wx w.heap.size 53 xz ∧ IBlk wx (w.heap.size + 1) 53 dz ∧ IBlk wx p 53 yz ∧ Below w.heap.size w wx)
                    case first =>
                      refine wp_region_still_lit (by kernel_rfl) (by kernel_rfl) ?_
                      change wpStill _ _ wc.drew _ _ _
                      repeat still_step
                      refine wpStill_nil ?_
                      change Exit.then _ _ _ _ wc.drew
                      generalize wc.drew = w9 at hX2 hD2 hY2 hB2
                      clear cy ry hy rl hl' hL hX hD hY hB
                      go_wp2_with fail
                      go_meet
                      exact ⟨rfl, hX2, hD2, hY2, hB2⟩
                    case rest =>
                      clear cy ry hy rl hl' hL hX hD hY hB hX2 hD2 hY2 hB2
                      obtain ⟨rfl, hX, hD, hY, hB⟩ := hcut
                      go_wp2_with fail
                      go_roundw
                      case rel => exact ⟨k + 1, by omega, by go_num, hX, hD, hY, hB⟩
                      case measure => simp [intOf]; omega
          · obtain rfl : k = 5 := by omega
            go_wp2_with fail
            go_ret
            exact ⟨rfl, hB⟩
  · have hE := HE.out
    rw [InhIs, if_neg hin] at hE
    obtain ⟨rfl, rfl⟩ := hE
    obtain ⟨ry, hy⟩ := hY6.whole hly
    by_cases h0 : who < 0
    · have d := decide_eq_true h0
      clear HE
      go_wp2_with fail
      go_ret
      exact ⟨rfl, hB6⟩
    · have d := decide_eq_false h0
      have d2 : decide (5 ≤ who) = true := decide_eq_true (by
        rw [inK_true] at hin; omega)
      clear HE
      go_wp2_with fail
      go_ret
      exact ⟨rfl, hB6⟩
end Go.Proofs.Ythacenajocchcaa.rowInherits
