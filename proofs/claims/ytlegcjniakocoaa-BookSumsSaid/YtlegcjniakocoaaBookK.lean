/- The contract of the law package's cell: it is the book's. -/
import Derived.Test.YtlegcjniakocoaaBookL
import Derived.Deep.CutBlock
import Derived.StillTailTactics
namespace Go.Proofs.Ytlegcjniakocoaa
open Go.RowKit

attribute [local go_sem ↓] loadRowF_fold storeRowF_fold allocRowF_fold loadCellF_fold storeCellF_fold buildCellF_fold allocCellF_fold loadRowsF_fold indexRowsF_fold
attribute [local go_sem] loadRowF_has storeRowF_has allocRowF_run loadCellF_has storeCellF_has buildCellF_none allocCellF_run loadRowsF_has indexRowsF_at
set_option maxRecDepth 100000 in
set_option maxHeartbeats 6400000 in
theorem lawCell_any (ms : List Int) (hl : ms.length = 870) (hw : wf64 ms) (o k : Nat) (ho : o < 5) (hk : k < 4) (w : World) :
    Calls Try.prog 16 #[.agg (iA ms), .int .i64 o, .int .i64 k] w fun e w' => e = .returned (.agg (iA (cellB ms o k))) ∧ Below w.heap.size w w' := by
  have hM : IBlk (((w.alloc (.cells (iA ms) 32)).alloc (.cells (iA (zeros 7)) 27)).alloc (.cells (iA (zeros 7)) 27)) w.heap.size 32 ms := ((IBlk.new _ _ _).alloc _).alloc _
  have hJ : IBlk (((w.alloc (.cells (iA ms) 32)).alloc (.cells (iA (zeros 7)) 27)).alloc (.cells (iA (zeros 7)) 27)) (w.heap.size + 1) 27 (zeros 7) := by
    have := (IBlk.new (w.alloc (.cells (iA ms) 32)) 27 (zeros 7)).alloc (.cells (iA (zeros 7)) 27)
    simpa using this
  have hL : IBlk (((w.alloc (.cells (iA ms) 32)).alloc (.cells (iA (zeros 7)) 27)).alloc (.cells (iA (zeros 7)) 27)) (w.heap.size + 2) 27 (zeros 7) := by
    have := IBlk.new ((w.alloc (.cells (iA ms) 32)).alloc (.cells (iA (zeros 7)) 27)) 27 (zeros 7)
    simpa using this
  have hB : Below w.heap.size w (((w.alloc (.cells (iA ms) 32)).alloc (.cells (iA (zeros 7)) 27)).alloc (.cells (iA (zeros 7)) 27)) := (((Below.refl _ _).alloc (Nat.le_refl _) _).alloc (by simp) _).alloc (by simp; omega) _
  have iz := is_zeros 7
  have hi7 := Try.infoCell
  have HL := hide hl
  have HW := hide hw
  have HBL := hide (fun (j : Nat) (hj : j ≤ 5) => bestC_length hl (o : Int) (k : Int) hj)
  have HST : Hid (∀ j, bestC ms o k (j + 1) = if (bestC ms o k j).2 < (cellV (rowB ms j) j o k).2 then cellV (rowB ms j) j o k else bestC ms o k j) := hide fun j => by
    have : cellI (rowB ms j) j (o : Int) (k : Int) = cellV (rowB ms j) j o k := by rw [cellI, if_pos ⟨inK_true.2 ⟨by omega, by omega⟩, inK_true.2 ⟨by omega, by omega⟩⟩]; rfl
    rw [← this]; rfl
  have hoi : (o : Int) < 5 := by omega
  have hki : (k : Int) < 4 := by omega
  clear hl hw
  go_enter Try.func16, Try.ntmps16
  have hrm := hL.room 0 7 (by rw [zeros_length]; decide)
  have hO3 := only_cells (((w.alloc (.cells (iA ms) 32)).alloc (.cells (iA (zeros 7)) 27)).alloc (.cells (iA (zeros 7)) 27)) (w.heap.size + 2) 0 (iV (zeros 7))
  have hL3 := hL.fill (ys := zeros 7) rfl
  have hJ3 := hJ.only hO3 (by omega)
  have hM3 := hM.only hO3 (by omega)
  have hB3 := below_only hB hO3 (fun i (e : i = w.heap.size + 2) => by omega) hB.size
  go_upto_region 2 with fail
  generalize (((w.alloc (.cells (iA ms) 32)).alloc (.cells (iA (zeros 7)) 27)).alloc (.cells (iA (zeros 7)) 27)).setCells (w.heap.size + 2) 0 (iV (zeros 7)) = w3 at hL3 hJ3 hM3 hB3
  clear hM hJ hL hB hrm hO3
  obtain ⟨r0, h0⟩ := hM3.whole HL.out
  go_wp2_with fail
  clear r0 h0 hM3
  go_loopw [8, 15] (fun s8 s15 wr => ∃ j : Nat, j ≤ 5 ∧ s15 = .int .i64 j ∧ s8 = .int .i64 (bestC ms o k j).2 ∧ IBlk wr (w.heap.size + 1) 27 (zeros 7) ∧ IBlk wr (w.heap.size + 2) 27 (bestC ms o k j).1 ∧ Below w.heap.size w wr) (fun _ s15 _ => 5 - (intOf s15).toNat)
  case atStart => exact ⟨0, by omega, rfl, rfl, hJ3, hL3, hB3⟩
  case round =>
    clear hJ3 hL3 hB3
    obtain ⟨j, hj, rfl, rfl, hJ, hL, hB⟩ := hrel
    by_cases hlt : j < 5
    · have hix : ∀ w, (indexRowsF (.agg (iA ms)) (.int .i64 (j : Int))).run Try.prog w = .ok (.agg (iA (rowB ms j))) w := indexRowsF_at hlt
      have hbl2 := HBL.out j (by omega)
      have hrl : (rowB ms j).length = 174 := rowB_length HL.out hlt
      have hrw : wf64 (rowB ms j) := wf64_chunk HW.out _ _
      have hst := HST.out j
      have hcl := cellV_length hrl (q := j) ho hk
      have hV : cellV (rowB ms j) j o k = if o = j then (((rowB ms j).drop (1 + k * 7)).take 7, (rowB ms j).getD 0 0) else if 0 < (rowB ms j).getD (29 + o) 0 then (((rowB ms j).drop (34 + o * 28 + k * 7)).take 7, (rowB ms j).getD (29 + o) 0 - 1) else (zeros 7, -1) := rfl
      generalize rowB ms j = rr at *
      generalize cellV rr j o k = cc at *
      generalize bestC ms o k j = be at hL hbl2 hst
      have HS := hide hst
      have HV := hide hV
      clear hst hV
      obtain ⟨cv, cn⟩ := cc
      obtain ⟨bv, bn⟩ := be
      obtain ⟨rm, hX, hO, hB2⟩ := lay (t := 31) hB hrl hB.size
      have hJ2 := hJ.only hO (fun h => h)
      have hL2 := hL.only hO (fun h => h)
      have hri : Is 174 rr := hrl
      have hsz := hB.size
      go_upto_region 5 with fail
      generalize hpe : wr.heap.size = p at hX hO hB2 hJ2 hL2
      generalize (wr.alloc (.cells (iA (zeros 174)) 31)).setCells p 0 (iV rr) = w5 at hX hO hB2 hJ2 hL2
      clear rm hpe hO hJ hL hB hsz
      obtain ⟨rm, hC, hO, hB3⟩ := lay (t := 27) hB2 (zeros_length 7) hB2.size
      have hJ3 := hJ2.only hO (fun h => h)
      have hL3 := hL2.only hO (fun h => h)
      have hX3 := hX.only hO (fun h => h)
      have hsz := hB2.size
      have hXl := hX.lt
      have hLl := hL2.lt
      go_upto_region 6 with fail
      generalize hpe : w5.heap.size = p2 at hC hO hB3 hJ3 hL3 hX3 hsz hXl hLl
      generalize (w5.alloc (.cells (iA (zeros 7)) 27)).setCells p2 0 (iV (zeros 7)) = w6 at hC hO hB3 hJ3 hL3 hX3
      clear rm hpe hO hJ2 hL2 hX hB2
      have after : ∀ (w9 : World) (g : List Int), w9 = w6.drew → g.length = 7 → IBlk (w9.setCells p2 0 (iV g)) p2 27 g ∧ IBlk (w9.setCells p2 0 (iV g)) (w.heap.size + 1) 27 (zeros 7) ∧ IBlk (w9.setCells p2 0 (iV g)) (w.heap.size + 2) 27 bv ∧ Below w.heap.size w (w9.setCells p2 0 (iV g)) := fun w9 g e hg => by
        subst e
        have ho := only_cells w6.drew p2 0 (iV g)
        exact ⟨hC.drew.fill (by rw [hg, zeros_length]), hJ3.drew.only ho (by omega), hL3.drew.only ho (by omega), below_only hB3.drew ho (fun i (e : i = p2) => by omega) hB3.size⟩
      have hrm := hC.drew.room 0 7 (by rw [zeros_length]; decide)
      by_cases e : o = j
      · have HV2 := hide (HV.out.trans (if_pos e))
        obtain ⟨hcv, hcn⟩ := Prod.mk.inj HV2.out
        subst e
        obtain ⟨rx, hx⟩ := hX3.drew.got (1 + k * 7) 7 (by omega)
        rw [← hcv] at rx
        have c0 : w6.drew.cell? ⟨p, 0, none⟩ = some (.int .i64 cn) := by rw [hcn]; exact hX3.drew.cell (by omega)
        have hci : Is 7 cv := hcl
        obtain ⟨a1, a2, a3, a4⟩ := after w6.drew cv rfl hcl
        clear HV HV2 hcv hcn after hX3 hC
        go_upto_region 7 with fail
        go_cut [11] (fun s11 wx => s11 = .int .i64 cn ∧ IBlk wx p2 27 cv ∧ IBlk wx (w.heap.size + 1) 27 (zeros 7) ∧ IBlk wx (w.heap.size + 2) 27 bv ∧ Below w.heap.size w wx)
        case first =>
          go_region
          all_goals
            go_wp2_with fail
            go_meet
            exact ⟨rfl, a1, a2, a3, a4⟩
        case rest =>
          clear a1 a2 a3 a4 c0 rx hx hJ3 hL3 hB3 hrm
          obtain ⟨rfl, hC, hJ, hL, hB⟩ := hcut
          by_cases hv : bn < cn
          · have dv := decide_eq_true hv
            obtain ⟨r2, h2⟩ := hC.whole hcl
            have hci : Is 7 cv := hcl
            have hrm := hL.room 0 7 (by rw [hbl2]; go_light; omega)
            have hO8 := only_cells wc (w.heap.size + 2) 0 (iV cv)
            have hL8 := hL.fill (ys := cv) (by rw [hcl]; exact hbl2.symm)
            have hJ8 := hJ.only hO8 (by go_light; omega)
            have hB8 := below_only hB hO8 (fun i (e : i = w.heap.size + 2) => by go_light; omega) hB.size
            have HS2 := hide (HS.out.trans (if_pos hv))
            go_wp2_with fail
            go_roundw
            case rel => go_light; exact ⟨o + 1, by omega, by go_num, by rw [HS2.out], hJ8, by rw [HS2.out]; exact hL8, hB8⟩
            case measure => go_light; simp [intOf]; omega
          · have dv := decide_eq_false hv
            have HS2 := hide (HS.out.trans (if_neg hv))
            go_wp2_with fail
            go_roundw
            case rel => go_light; exact ⟨o + 1, by omega, by go_num, by rw [HS2.out], hJ, by rw [HS2.out]; exact hL, hB⟩
            case measure => go_light; simp [intOf]; omega
      · have e' : ((j : Int) == (o : Int)) = false := by simp; omega
        have HV1 := hide (HV.out.trans (if_neg e))
        have ch : w6.cell? ⟨p, 29 + o, none⟩ = some (.int .i64 (rr.getD (29 + o) 0)) := hX3.cell (by omega)
        have hub := (wf_bd hrw (29 + o) (by omega)).2
        clear HV
        by_cases hp : 0 < rr.getD (29 + o) 0
        · have dp := decide_eq_true hp
          obtain ⟨hcv, hcn⟩ := Prod.mk.inj (HV1.out.trans (if_pos hp))
          obtain ⟨rx, hx⟩ := hX3.drew.got (34 + o * 28 + k * 7) 7 (by omega)
          rw [← hcv] at rx
          have chd : w6.drew.cell? ⟨p, 29 + o, none⟩ = some (.int .i64 (rr.getD (29 + o) 0)) := ch
          have hwr : IntKind.i64.wrap (rr.getD (29 + o) 0 - 1) = cn := (IntWalk.i64_in _ (by omega)).trans hcn.symm
          have hci : Is 7 cv := hcl
          obtain ⟨a1, a2, a3, a4⟩ := after w6.drew cv rfl hcl
          clear HV1 hcv hcn after hX3 hC
          generalize rr.getD (29 + o) 0 = hh at *
          go_upto_region 9 with fail
          go_cut [11] (fun s11 wx => s11 = .int .i64 cn ∧ IBlk wx p2 27 cv ∧ IBlk wx (w.heap.size + 1) 27 (zeros 7) ∧ IBlk wx (w.heap.size + 2) 27 bv ∧ Below w.heap.size w wx)
          case first =>
            go_region
            all_goals
              go_wp2_with fail
              go_meet
              exact ⟨rfl, a1, a2, a3, a4⟩
          case rest =>
            clear a1 a2 a3 a4 ch chd hwr rx hx hJ3 hL3 hB3 hrm hub dp hp
            obtain ⟨rfl, hC, hJ, hL, hB⟩ := hcut
            by_cases hv : bn < cn
            · have dv := decide_eq_true hv
              obtain ⟨r2, h2⟩ := hC.whole hcl
              have hci : Is 7 cv := hcl
              have hrm := hL.room 0 7 (by rw [hbl2]; go_light; omega)
              have hO8 := only_cells wc (w.heap.size + 2) 0 (iV cv)
              have hL8 := hL.fill (ys := cv) (by rw [hcl]; exact hbl2.symm)
              have hJ8 := hJ.only hO8 (by go_light; omega)
              have hB8 := below_only hB hO8 (fun i (e : i = w.heap.size + 2) => by go_light; omega) hB.size
              have HS2 := hide (HS.out.trans (if_pos hv))
              go_wp2_with fail
              go_roundw
              case rel => go_light; exact ⟨j + 1, by omega, by go_num, by rw [HS2.out], hJ8, by rw [HS2.out]; exact hL8, hB8⟩
              case measure => go_light; simp [intOf]; omega
            · have dv := decide_eq_false hv
              have HS2 := hide (HS.out.trans (if_neg hv))
              go_wp2_with fail
              go_roundw
              case rel => go_light; exact ⟨j + 1, by omega, by go_num, by rw [HS2.out], hJ, by rw [HS2.out]; exact hL, hB⟩
              case measure => go_light; simp [intOf]; omega
        · have dp := decide_eq_false hp
          obtain ⟨rfl, rfl⟩ := Prod.mk.inj (HV1.out.trans (if_neg hp))
          generalize rr.getD (29 + o) 0 = hh at *
          clear HV1 after hX3 hrm
          by_cases hv : bn < -1
          · have dv := decide_eq_true hv
            obtain ⟨r2, h2⟩ := hC.whole hcl
            have hci : Is 7 (zeros 7) := iz
            have hrm := hL3.room 0 7 (by rw [hbl2]; go_light; omega)
            have hO8 := only_cells w6 (w.heap.size + 2) 0 (iV (zeros 7))
            have hL8 := hL3.fill (ys := zeros 7) (by rw [hcl]; exact hbl2.symm)
            have hJ8 := hJ3.only hO8 (by go_light; omega)
            have hB8 := below_only hB3 hO8 (fun i (e : i = w.heap.size + 2) => by go_light; omega) hB3.size
            have HS2 := hide (HS.out.trans (if_pos hv))
            go_wp2_with fail
            go_roundw
            case rel => go_light; exact ⟨j + 1, by omega, by go_num, by rw [HS2.out], hJ8, by rw [HS2.out]; exact hL8, hB8⟩
            case measure => go_light; simp [intOf]; omega
          · have dv := decide_eq_false hv
            have HS2 := hide (HS.out.trans (if_neg hv))
            go_wp2_with fail
            go_roundw
            case rel => go_light; exact ⟨j + 1, by omega, by go_num, by rw [HS2.out], hJ3, by rw [HS2.out]; exact hL3, hB3⟩
            case measure => go_light; simp [intOf]; omega
    · obtain rfl : j = 5 := by omega
      have hV : Hid ((bestC ms o k 5).1 = cellB ms o k) := hide rfl
      have hbl2 := HBL.out 5 (by omega)
      obtain ⟨r1, h1⟩ := hL.whole hbl2
      have hbi : Is 7 (bestC ms o k 5).1 := hbl2
      have hrm := hJ.room 0 7 (by rw [zeros_length]; decide)
      have f1 := hJ.fill (ys := (bestC ms o k 5).1) (by rw [hbl2, zeros_length])
      have f2 := below_only hB (only_cells wr (w.heap.size + 1) 0 (iV (bestC ms o k 5).1)) (fun i (e : i = w.heap.size + 1) => by omega) hB.size
      rw [hV.out] at *
      generalize hfe : cellB ms o k = fin at *
      have HFE := hide hfe
      clear hfe
      go_wp2_with fail
      refine bodyPost_ret (results_i rfl rfl f1 Try.underlying27 rfl (by rw [hbl2]; exact hi7)) rfl ⟨by rw [HFE.out], f2⟩
end Go.Proofs.Ytlegcjniakocoaa
