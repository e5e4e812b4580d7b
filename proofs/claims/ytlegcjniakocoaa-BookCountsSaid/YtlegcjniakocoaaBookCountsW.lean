/- The walk of BookCounts: it returns true at all arguments and leaves what was there as it was. -/
import Derived.Test.YtlegcjniakocoaaBookN
import Derived.Deep.RegionWith
namespace Go.Proofs.Ytlegcjniakocoaa.bookCounts
open Go.RowKit

attribute [local go_sem ↓] loadRowsF_fold storeRowsF_fold allocRowsF_fold loadCellF_fold storeCellF_fold buildCellF_fold allocCellF_fold fieldCellF_fold indexInts5F_fold
attribute [local go_sem] loadRowsF_has storeRowsF_has allocRowsF_run loadCellF_has storeCellF_has buildCellF_none allocCellF_run fieldCellF_given indexInts5F_at
set_option maxRecDepth 100000 in
set_option maxHeartbeats 6400000 in
/-- Where there is no such machine, or key. -/
theorem walk_out (w : World) (A : Option Addr) (n c : Nat) (zs : List Int) (hR : RowsIn w w.heap.size A n zs) (who : Int) (key : Int) (hout : inK who 5 = false ∨ inK key 4 = false) :
    Calls Try.prog 4 #[.slice A n c, .int .i64 who, .int .i64 key] w fun e w' => e = .returned (.bool true) ∧ Below w.heap.size w w' := by
  go_enter Try.func4, Try.ntmps4
  go_wp2_with fail
  (with_reducible refine (fit5_any w).mono ?_)
  rintro e w1 ⟨rfl, hB1⟩
  by_cases g1 : 20 < n
  · have d1 : decide ((20 : Int) < (n : Int)) = true := decide_eq_true (by omega)
    go_wp2_with fail
    go_ret
    exact ⟨rfl, hB1⟩
  have d1 : decide ((20 : Int) < (n : Int)) = false := decide_eq_false (by omega)
  have hR1 := hR.below hB1 (Nat.le_refl _)
  have hR1 : RowsIn w1 w1.heap.size A n zs := ⟨hR1.len, hR1.wf, fun h => by
    obtain ⟨b, off, e, hb, hc⟩ := hR1.at_ h
    exact ⟨b, off, e, Nat.lt_of_lt_of_le hb hB1.size, hc⟩⟩
  have HF := filled_any (c := c) hR1 (by omega)
  have hok := fillM_ok hR.len hR.wf (Nat.le_refl n)
  generalize fillM zs n = ms at HF hok
  go_wp2_with fail
  (with_reducible refine HF.mono ?_)
  rintro e w2 ⟨rfl, hb2, hx⟩
  have hB2 := hB1.trans (hx.mono hB1.size)
  have hml := hok.len
  obtain ⟨rm, hX, hO, hB3⟩ := lay (t := 32) hB2 hml hB2.size
  have hb3 := hb2.only hO (fun h => h)
  have hmi : Is 870 ms := hml
  generalize hpb : w1.heap.size + 1 = pb at hb2 hb3
  go_upto_region 6 with fail
  generalize (w2.alloc (.cells (iA (zeros 870)) 32)).setCells w2.heap.size 0 (iV ms) = w3 at hX hO hB3 hb3
  clear rm hX hO hb2 hx hB2 HF d1
  have HR := rights_any hok hb3 who key
  rw [rightsV_out hout] at HR
  have HC := fun {w : World} (hb : IBlk w pb 34 ms) => cellB_any hml hok.wf hb who key
  rw [cellB_out hout] at HC
  have zz : ∀ w, (Op.equalIn 10000 27 (.agg (iA (zeros 7))) (.agg (iA (zeros 7)))).run Try.prog w = .ok true w := fun w => by
    have := Try.eqCell (zeros_length 7) (zeros_length 7) (wf_zeros 7) (wf_zeros 7) w
    simpa using this
  by_cases k0 : key < 0
  · have hkk : inK key 4 = false := by rw [← Bool.not_eq_true, inK_true]; omega
    have a1 : decide (key < 0) = true := decide_eq_true k0
    have a2 : decide (0 ≤ key) = false := decide_eq_false (by omega)
    go_wp2_with fail
    (with_reducible refine HR.mono ?_)
    rintro e w4 ⟨rfl, hx⟩
    have hb4 := hb3.below hx hb3.lt
    have hB4 := hB3.trans (hx.mono hB3.size)
    clear hx HR hb3 hB3
    go_wp2_with fail
    (with_reducible refine (HC hb4).mono ?_)
    rintro e w5 ⟨rfl, hx⟩
    have hb5 := hb4.below hx hb4.lt
    have hB5 := hB4.trans (hx.mono hB4.size)
    clear hx HC hb4 hB4
    have HV := value_any hok hb5 key
    rw [valueV_out hkk] at HV
    go_wp2_with fail
    (with_reducible refine HV.mono ?_)
    rintro e w6 ⟨rfl, hx⟩
    have hB6 := hB5.trans (hx.mono hB5.size)
    go_wp2_with fail
    go_ret
    exact ⟨rfl, hB6⟩
  by_cases k4 : 4 ≤ key
  · have hkk : inK key 4 = false := by rw [← Bool.not_eq_true, inK_true]; omega
    have a1 : decide (key < 0) = false := decide_eq_false k0
    have a2 : decide (0 ≤ key) = true := decide_eq_true (by omega)
    have a3 : decide (4 ≤ key) = true := decide_eq_true k4
    have a4 : decide (key < 4) = false := decide_eq_false (by omega)
    go_wp2_with fail
    (with_reducible refine HR.mono ?_)
    rintro e w4 ⟨rfl, hx⟩
    have hb4 := hb3.below hx hb3.lt
    have hB4 := hB3.trans (hx.mono hB3.size)
    clear hx HR hb3 hB3
    go_wp2_with fail
    (with_reducible refine (HC hb4).mono ?_)
    rintro e w5 ⟨rfl, hx⟩
    have hb5 := hb4.below hx hb4.lt
    have hB5 := hB4.trans (hx.mono hB4.size)
    clear hx HC hb4 hB4
    have HV := value_any hok hb5 key
    rw [valueV_out hkk] at HV
    go_wp2_with fail
    (with_reducible refine HV.mono ?_)
    rintro e w6 ⟨rfl, hx⟩
    have hB6 := hB5.trans (hx.mono hB5.size)
    go_wp2_with fail
    go_ret
    exact ⟨rfl, hB6⟩
  have hw5 : inK who 5 = false := by
    rcases hout with h | h
    · exact h
    · rw [← Bool.not_eq_true, inK_true] at h; omega
  by_cases w0 : who < 0
  · have a5 : decide (who < 0) = true := decide_eq_true w0
    have a1 : decide (key < 0) = false := decide_eq_false k0
    have a2 : decide (0 ≤ key) = true := decide_eq_true (by omega)
    have a3 : decide (4 ≤ key) = false := decide_eq_false k4
    have a4 : decide (key < 4) = true := decide_eq_true (by omega)
    go_wp2_with fail
    (with_reducible refine HR.mono ?_)
    rintro e w4 ⟨rfl, hx⟩
    have hb4 := hb3.below hx hb3.lt
    have hB4 := hB3.trans (hx.mono hB3.size)
    clear hx HR hb3 hB3
    go_wp2_with fail
    (with_reducible refine (HC hb4).mono ?_)
    rintro e w5 ⟨rfl, hx⟩
    have hb5 := hb4.below hx hb4.lt
    have hB5 := hB4.trans (hx.mono hB4.size)
    clear hx HC hb4 hB4
    go_wp2_with fail
    go_ret
    exact ⟨rfl, hB5⟩
  · have a5 : decide (who < 0) = false := decide_eq_false w0
    have a6 : decide (5 ≤ who) = true := decide_eq_true (by rw [← Bool.not_eq_true, inK_true] at hw5; omega)
    have a1 : decide (key < 0) = false := decide_eq_false k0
    have a2 : decide (0 ≤ key) = true := decide_eq_true (by omega)
    have a3 : decide (4 ≤ key) = false := decide_eq_false k4
    have a4 : decide (key < 4) = true := decide_eq_true (by omega)
    go_wp2_with fail
    (with_reducible refine HR.mono ?_)
    rintro e w4 ⟨rfl, hx⟩
    have hb4 := hb3.below hx hb3.lt
    have hB4 := hB3.trans (hx.mono hB3.size)
    clear hx HR hb3 hB3
    go_wp2_with fail
    (with_reducible refine (HC hb4).mono ?_)
    rintro e w5 ⟨rfl, hx⟩
    have hb5 := hb4.below hx hb4.lt
    have hB5 := hB4.trans (hx.mono hB4.size)
    clear hx HC hb4 hB4
    go_wp2_with fail
    go_ret
    exact ⟨rfl, hB5⟩

set_option maxRecDepth 100000 in
set_option maxHeartbeats 12800000 in
theorem walk_in (w : World) (A : Option Addr) (n c : Nat) (zs : List Int) (hR : RowsIn w w.heap.size A n zs) (q k : Nat) (hq : q < 5) (hk : k < 4) :
    Calls Try.prog 4 #[.slice A n c, .int .i64 (q : Int), .int .i64 (k : Int)] w fun e w' => e = .returned (.bool true) ∧ Below w.heap.size w w' := by
  go_enter Try.func4, Try.ntmps4
  go_wp2_with fail
  (with_reducible refine (fit5_any w).mono ?_)
  rintro e w1 ⟨rfl, hB1⟩
  by_cases g1 : 20 < n
  · have d1 : decide ((20 : Int) < (n : Int)) = true := decide_eq_true (by omega)
    go_wp2_with fail
    go_ret
    exact ⟨rfl, hB1⟩
  have d1 : decide ((20 : Int) < (n : Int)) = false := decide_eq_false (by omega)
  have hR1 := hR.below hB1 (Nat.le_refl _)
  have hR1 : RowsIn w1 w1.heap.size A n zs := ⟨hR1.len, hR1.wf, fun h => by
    obtain ⟨b, off, e, hb, hc⟩ := hR1.at_ h
    exact ⟨b, off, e, Nat.lt_of_lt_of_le hb hB1.size, hc⟩⟩
  have HF := filled_any (c := c) hR1 (by omega)
  have hok := fillM_ok hR.len hR.wf (Nat.le_refl n)
  generalize fillM zs n = ms at HF hok
  go_wp2_with fail
  (with_reducible refine HF.mono ?_)
  rintro e w2 ⟨rfl, hb2, hx⟩
  have hB2 := hB1.trans (hx.mono hB1.size)
  have hml := hok.len
  obtain ⟨rm, hX, hO, hB3⟩ := lay (t := 32) hB2 hml hB2.size
  have hb3 := hb2.only hO (fun h => h)
  have hmi : Is 870 ms := hml
  generalize hpb : w1.heap.size + 1 = pb at hb2 hb3
  go_upto_region 6 with fail
  generalize hpm : w2.heap.size = pm at hX hO hB3 hb3
  generalize (w2.alloc (.cells (iA (zeros 870)) 32)).setCells pm 0 (iV ms) = w3 at hX hO hB3 hb3
  clear rm hO hb2 hx hB2 HF d1 hpm
  have HCB := hide (fun (i : Nat) {w : World} (hb : IBlk w pb 34 ms) => cellB_any hml hok.wf hb (i : Int) (k : Int))
  have HCL := hide (fun (i : Nat) (hi : i < 5) w => lawCell_any ms hml hok.wf i k hi hk w)
  have HV := fun {w : World} (hb : IBlk w pb 34 ms) => value_any hok hb (k : Int)
  have HRI := fun {w : World} (hb : IBlk w pb 34 ms) => rights_any hok hb (q : Int) (k : Int)
  rw [rightsV_in ms hq] at HRI
  have h5 := cellsB_ok hok (k : Int)
  have HGD := hide (fun (i j : Nat) (hi : i < 5) (hj : j < 7) => cellB_getD hml (k : Int) hi hj)
  have HLC := hide (fun (i : Nat) => cellB_length hml (i : Int) (k : Int))
  have HWC : Hid (∀ i : Nat, wf64 (cellB ms (i : Int) (k : Int))) := hide (fun i z hz => by
    obtain ⟨j, hj, rfl⟩ := List.mem_iff_getElem.1 hz
    have hn := bestC_num hok (i : Int) (k : Int) j (by rw [cellB_length hml] at hj; exact hj) (Nat.le_refl 5)
    have e : (cellB ms (i : Int) (k : Int)).getD j 0 = (cellB ms (i : Int) (k : Int))[j] := by simp [List.getD, hj]
    change Num ((cellB ms (i : Int) (k : Int)).getD j 0) at hn
    rw [e] at hn
    unfold Num at hn
    simp [Lit.wf, IntKind.min, IntKind.max, IntKind.signed, IntKind.bits]; omega)
  have HH : Hid (∀ i, i < 5 → 0 ≤ ms.getD (q * 174 + (29 + i)) 0 ∧ heirB (rowB ms q) i = decide (0 < ms.getD (q * 174 + (29 + i)) 0)) := hide fun i hi => by
    have h1 := hok.ok q hq
    simp only [okRow, Bool.and_eq_true] at h1
    have h2 := (okH_iff.1 h1.2 i hi).1
    rw [rowB_getD _ _ _ (by omega)] at h2
    exact ⟨h2, by rw [heirB, rowB_getD _ _ _ (by omega)]⟩
  have HVV : Hid (valueV ms (k : Int) = valU (cellsB ms (k : Int)) 5) := hide rfl
  generalize heirB (rowB ms q) = hr at *
  generalize cellsB ms (k : Int) = cs at *
  have HN := hide h5
  have HVB := hide (fun (j : Nat) (hj : j ≤ 5) => valU_bd h5 hj)
  have HRB := hide (fun (i : Nat) (hi : i < 5) (j : Nat) (hj : j ≤ 5) => rgtU_bd h5 hi hj)
  have HOB := hide (fun (j : Nat) (hj : j ≤ 5) => ownSum_bd h5 hr q hj)
  have HML := hide hml
  have a1 : decide ((k : Int) < 0) = false := decide_eq_false (by omega)
  have a3 : decide (4 ≤ (k : Int)) = false := decide_eq_false (by omega)
  have a5 : decide ((q : Int) < 0) = false := decide_eq_false (by omega)
  have a6 : decide (5 ≤ (q : Int)) = false := decide_eq_false (by omega)
  clear h5 hok hR hR1 hml hmi hB1
  go_wp2_with fail
  clear a1 a3 a5 a6
  go_loopw [9, 67] (fun s9 s67 wr => ∃ i : Nat, i ≤ 5 ∧ s67 = .int .i64 i ∧ s9 = .int .i64 (valU cs i) ∧ IBlk wr pb 34 ms ∧ IBlk wr pm 32 ms ∧ Below w.heap.size w wr) (fun _ s67 _ => 5 - (intOf s67).toNat)
  case atStart => exact ⟨0, by omega, rfl, rfl, hb3, hX, hB3⟩
  case round =>
    clear hb3 hX hB3
    obtain ⟨i, hi, rfl, rfl, hb, hm, hB⟩ := hrel
    by_cases hlt : i < 5
    · have HL := HCL.out i hlt wr
      have hcl := HLC.out i
      have hwc := HWC.out i
      have HB2 := fun {w : World} (hb : IBlk w pb 34 ms) => HCB.out i hb
      have g0 := HGD.out i 0 hlt (by omega)
      have g1 := HGD.out i 1 hlt (by omega)
      have n0 := HN.out.num i 0 hlt (by omega)
      have n1 := HN.out.num i 1 hlt (by omega)
      have hbd := HVB.out i hi
      have HS : Hid (valU cs (i + 1) = valU cs i + (cs.getD (i * 7) 0 - cs.getD (i * 7 + 1) 0)) := hide rfl
      rw [Nat.add_zero] at n0 g0
      generalize cellB ms (i : Int) (k : Int) = c at *
      generalize cs.getD (i * 7) 0 = x0 at g0 n0 HS
      generalize cs.getD (i * 7 + 1) 0 = x1 at g1 n1 HS
      generalize valU cs i = v at hbd HS
      unfold Num at n0 n1
      have b1 : x0 - x1 ≤ 1099511627776 := by omega
      have b2 : -1099511627776 ≤ x0 - x1 := by omega
      have hi5 : 1099511627776 * (i : Int) ≤ 5497558138880 := by omega
      have b3 : v + (x0 - x1) ≤ 109951162777600 := by omega
      have b4 : -109951162777600 ≤ v + (x0 - x1) := by omega
      clear hbd n0 n1 hi5
      obtain ⟨r1, h1⟩ := hm.whole HML.out
      have hci : Is 7 c := hcl
      go_wp2_with fail
      (with_reducible refine HL.mono ?_)
      rintro e w4 ⟨rfl, hx⟩
      have hb4 := hb.below hx hb.lt
      have hm4 := hm.below hx hm.lt
      have hB4 := hB.trans (hx.mono hB.size)
      clear r1 h1 hb hm hB hx HL
      obtain ⟨rm, hC, hO, hB5⟩ := lay (t := 27) hB4 hcl hB4.size
      have hb5 := hb4.only hO (fun h => h)
      have hm5 := hm4.only hO (fun h => h)
      go_upto_region 13 with fail
      generalize hpe : w4.heap.size = p at hC hO hB5 hb5 hm5
      generalize (w4.alloc (.cells (iA (zeros 7)) 27)).setCells p 0 (iV c) = w5 at hC hO hB5 hb5 hm5
      clear rm hpe hO hb4 hm4 hB4 hci
      have hqq : ∀ w, (Op.equalIn 10000 27 (.agg (iA c)) (.agg (iA c))).run Try.prog w = .ok true w := fun w => by
        have := Try.eqCell hcl hcl hwc hwc w
        simpa using this
      have after : ∀ w6, Below w5.drew.heap.size w5.drew w6 → (rowAt w6 p 0 7 = iA c ∧ HasRow w6 p 0 7) ∧ IBlk w6 p 27 c ∧ IBlk w6 pb 34 ms ∧ IBlk w6 pm 32 ms ∧ Below w.heap.size w w6 := fun w6 hx => by
        have hC6 := hC.drew.below hx hC.lt
        exact ⟨hC6.whole hcl, hC6, hb5.drew.below hx hb5.lt, hm5.drew.below hx hm5.lt, hB5.drew.trans (hx.mono hB5.size)⟩
      have hbd := hb5.drew
      obtain ⟨r1, h1⟩ := hC.drew.whole hcl
      go_cut [79] (fun s79 wx => s79 = .bool false ∧ IBlk wx p 27 c ∧ IBlk wx pb 34 ms ∧ IBlk wx pm 32 ms ∧ Below w.heap.size w wx)
      case first =>
        go_region_with (first
          | (go_at_call 14; (with_reducible refine (HB2 hbd).mono ?_); rintro e w6 ⟨rfl, hx⟩; obtain ⟨⟨r2, h2⟩, k1, k2, k3, k4⟩ := after w6 hx))
        all_goals
          go_wp2_with fail
          go_meet
          exact ⟨rfl, k1, k2, k3, k4⟩
      case rest =>
        clear hC hb5 hm5 hB5 hbd r1 h1 after HB2 hqq
        obtain ⟨rfl, hC, hb, hm, hB⟩ := hcut
        have c0 : wc.cell? ⟨p, 0, none⟩ = some (.int .i64 x0) := by rw [← g0]; exact hC.cell (by go_light; omega)
        have c1 : wc.cell? ⟨p, 1, none⟩ = some (.int .i64 x1) := by rw [← g1]; exact hC.cell (by go_light; omega)
        clear g0 g1 hC
        go_wp2_with fail
        go_roundw
        case rel => go_light; exact ⟨i + 1, by omega, by go_num, by rw [HS.out], hb, hm, hB⟩
        case measure => go_light; simp [intOf]; omega
    · have hi5 : i = 5 := by omega
      rw [show valU cs i = valueV ms (k : Int) by rw [hi5, HVV.out]]
      have d5 : decide ((i : Int) < 5) = false := decide_eq_false (by omega)
      clear HVV HVB HCB hi5
      generalize valueV ms (k : Int) = vv at *
      go_wp2_with fail
      go_loopw [12, 88] (fun s12 s88 wr => ∃ i : Nat, i ≤ 5 ∧ s88 = .int .i64 i ∧ s12 = .int .i64 (ownSum cs hr q i) ∧ IBlk wr pb 34 ms ∧ IBlk wr pm 32 ms ∧ Below w.heap.size w wr) (fun _ s88 _ => 5 - (intOf s88).toNat)
      case atStart => exact ⟨0, by omega, rfl, rfl, hb, hm, hB⟩
      case round =>
        clear hb hm hB
        obtain ⟨i, hi, rfl, rfl, hb, hm, hB⟩ := hrel
        by_cases hlt : i < 5
        · obtain ⟨hh0, hhr⟩ := HH.out i hlt
          have ch : wr.cell? ⟨pm, q * 174 + 29 + i, none⟩ = some (.int .i64 (ms.getD (q * 174 + (29 + i)) 0)) := by rw [Nat.add_assoc]; exact hm.cell (by have := HML.out; omega)
          have hqi : (q : Int) < 5 := by omega
          have hii : (i : Int) < 5 := by omega
          have HS : Hid (ownSum cs hr q (i + 1) = ownSum cs hr q i + (if (i == q || hr i) = true then rgtU cs i 5 else 0)) := hide rfl
          have hbd := HOB.out i hi
          generalize ms.getD (q * 174 + (29 + i)) 0 = hv at *
          go_upto_region 21 with fail
          go_cut [102] (fun s102 wx => s102 = .bool (!(i == q || hr i)) ∧ IBlk wx pb 34 ms ∧ IBlk wx pm 32 ms ∧ Below w.heap.size w wx)
          case first =>
            by_cases e : i = q
            · have e' : ((i : Int) == (q : Int)) = true := by simp [e]
              go_wp2_with fail
              go_meet
              exact ⟨by simp [e], hb, hm, hB⟩
            · have e' : ((i : Int) == (q : Int)) = false := by simp; omega
              have e2 : (hv == 0) = !(hr i) := by
                rw [hhr]
                by_cases h0 : 0 < hv
                · rw [decide_eq_true h0]; simp; omega
                · rw [decide_eq_false h0]; simp; omega
              go_wp2_with fail
              go_meet
              exact ⟨by rw [hhr, show ((i : Int) != (q : Int)) = true by simp; omega, show (i == q) = false by simpa using e]; rfl, hb, hm, hB⟩
          case rest =>
          clear ch hb hm hB
          obtain ⟨rfl, hb, hm, hB⟩ := hcut
          cases hown : (i == q || hr i) with
          | false =>
            have HS2 : Hid (ownSum cs hr q (i + 1) = ownSum cs hr q i) := hide (by rw [HS.out, hown]; simp)
            clear HS
            go_wp2_with fail
            go_roundw
            case rel => go_light; exact ⟨i + 1, by omega, by go_num, by rw [HS2.out], hb, hm, hB⟩
            case measure => go_light; simp [intOf]; omega
          | true =>
            have HS2 : Hid (ownSum cs hr q (i + 1) = ownSum cs hr q i + rgtU cs i 5) := hide (by rw [HS.out, hown]; simp)
            clear HS hhr hh0 hown
            have HL := HCL.out i hlt wc
            have hcl := HLC.out i
            have g0 := HGD.out i 0 hlt (by go_light; omega)
            have g1 := HGD.out i 1 hlt (by go_light; omega)
            have HG := hide (fun (j : Nat) (hj : j < 7) => HGD.out i j hlt hj)
            have n0 := HN.out.num i 0 hlt (by go_light; omega)
            have n1 := HN.out.num i 1 hlt (by go_light; omega)
            have HR0 : Hid (rgtU cs i 0 = cs.getD (i * 7) 0 - cs.getD (i * 7 + 1) 0) := hide rfl
            rw [Nat.add_zero] at n0 g0
            generalize cellB ms (i : Int) (k : Int) = c at *
            generalize cs.getD (i * 7) 0 = x0 at g0 n0 HR0
            generalize cs.getD (i * 7 + 1) 0 = x1 at g1 n1 HR0
            generalize ownSum cs hr q i = v at hbd HS2
            unfold Num at n0 n1
            have b1 : x0 - x1 ≤ 1099511627776 := by go_light; omega
            have b2 : -1099511627776 ≤ x0 - x1 := by go_light; omega
            have hi5 : 6597069766656 * (i : Int) ≤ 32985348833280 := by go_light; omega
            have b5 : v ≤ 32985348833280 := by go_light; omega
            have b6 : -32985348833280 ≤ v := by go_light; omega
            have b3 : v + (x0 - x1) ≤ 109951162777600 := by go_light; omega
            have b4 : -109951162777600 ≤ v + (x0 - x1) := by go_light; omega
            clear hbd n0 n1 hi5
            obtain ⟨r1, h1⟩ := hm.whole HML.out
            have hci : Is 7 c := hcl
            go_wp2_with fail
            (with_reducible refine HL.mono ?_)
            rintro e w4 ⟨rfl, hx⟩
            have hb4 := hb.below hx hb.lt
            have hm4 := hm.below hx hm.lt
            have hB4 := hB.trans (hx.mono hB.size)
            clear r1 h1 hb hm hB hx HL
            obtain ⟨rm, hC, hO, hB5⟩ := lay (t := 27) hB4 hcl hB4.size
            have hb5 := hb4.only hO (fun h => h)
            have hm5 := hm4.only hO (fun h => h)
            go_upto_region 23 with fail
            generalize hpe : w4.heap.size = p at hC hO hB5 hb5 hm5
            generalize (w4.alloc (.cells (iA (zeros 7)) 27)).setCells p 0 (iV c) = w5 at hC hO hB5 hb5 hm5
            clear rm hpe hO hb4 hm4 hB4 hci
            have c0 : w5.cell? ⟨p, 0, none⟩ = some (.int .i64 x0) := by rw [← g0]; exact hC.cell (by go_light; omega)
            have c1 : w5.cell? ⟨p, 1, none⟩ = some (.int .i64 x1) := by rw [← g1]; exact hC.cell (by go_light; omega)
            clear g0 g1
            go_wp2_with fail
            clear c0 c1
            go_loopw [12, 114] (fun s12 s114 wr => ∃ kk : Nat, kk ≤ 5 ∧ s114 = .int .i64 kk ∧ s12 = .int .i64 (v + rgtU cs i kk) ∧ IBlk wr p 27 c ∧ IBlk wr pb 34 ms ∧ IBlk wr pm 32 ms ∧ Below w.heap.size w wr) (fun _ s114 _ => 5 - (intOf s114).toNat)
            case atStart => go_light; exact ⟨0, by omega, rfl, by rw [HR0.out], hC, hb5, hm5, hB5⟩
            case round =>
              clear hC hb5 hm5 hB5 HR0 b1 b2 b3 b4
              obtain ⟨kk, hkk, rfl, rfl, hC, hb, hm, hB⟩ := hrel
              by_cases hlt2 : kk < 5
              · have HL2 := HCL.out kk hlt2
                have hcl2 := HLC.out kk
                have g2 := HGD.out kk (2 + i) hlt2 (by go_light; omega)
                have g3 := HG.out (2 + kk) (by go_light; omega)
                have n2 := HN.out.num kk (2 + i) hlt2 (by go_light; omega)
                have n3 := HN.out.num i (2 + kk) hlt (by go_light; omega)
                have hbd2 := HRB.out i hlt kk (by go_light; omega)
                have HS3 : Hid (rgtU cs i (kk + 1) = rgtU cs i kk + (cs.getD (kk * 7 + (2 + i)) 0 - cs.getD (i * 7 + (2 + kk)) 0)) := hide rfl
                generalize cellB ms (kk : Int) (k : Int) = c2 at *
                have hl5 : Is 5 ((c2.drop 2).take 5) := by show _ = _; rw [List.length_take, List.length_drop, hcl2]; rfl
                have hix : ∀ w, (indexInts5F (.agg (iA ((c2.drop 2).take 5))) (.int .i64 (i : Int))).run Try.prog w = .ok (.int .i64 (cs.getD (kk * 7 + (2 + i)) 0)) w := fun w => by
                  rw [← g2, ← getD_part c2 2 5 i hlt]
                  exact indexInts5F_at hlt hl5 w
                have cp : wr.drew.cell? ⟨p, 2 + kk, none⟩ = some (.int .i64 (cs.getD (i * 7 + (2 + kk)) 0)) := by rw [← g3]; exact hC.drew.cell (by go_light; omega)
                generalize cs.getD (kk * 7 + (2 + i)) 0 = y0 at *
                generalize cs.getD (i * 7 + (2 + kk)) 0 = y1 at *
                generalize rgtU cs i kk = u at *
                have after : ∀ w6, Below wr.drew.heap.size wr.drew w6 → w6.cell? ⟨p, 2 + kk, none⟩ = some (.int .i64 y1) ∧ IBlk w6 p 27 c ∧ IBlk w6 pb 34 ms ∧ IBlk w6 pm 32 ms ∧ Below w.heap.size w w6 := fun w6 hx =>
                  ⟨(hx.cell (p := ⟨p, 2 + kk, none⟩) hC.lt).trans cp, hC.drew.below hx hC.lt, hb.drew.below hx hb.lt, hm.drew.below hx hm.lt, hB.drew.trans (hx.mono hB.size)⟩
                obtain ⟨r1, h1⟩ := hm.drew.whole HML.out
                unfold Num at n2 n3
                have hk5 : 1099511627776 * ((kk : Int) + 1) ≤ 6597069766656 := by go_light; omega
                have q1 : IntKind.i64.wrap (y0 - y1) = y0 - y1 := IntWalk.i64_in _ (by go_light; omega)
                have q2 : IntKind.i64.wrap (v + u + (y0 - y1)) = v + u + (y0 - y1) := IntWalk.i64_in _ (by go_light; omega)
                have hk5i : (kk : Int) < 5 := by go_light; omega
                clear g2 g3 hl5 n2 n3 hbd2 hk5 hcl2
                go_upto_region 27 with fail
                go_region_with (first
                  | (go_at_call 16; (with_reducible refine (HL2 wr.drew).mono ?_); rintro e w6 ⟨rfl, hx⟩; obtain ⟨cp2, k1, k2, k3, k4⟩ := after w6 hx))
                all_goals
                  go_wp2_with fail
                  go_roundw
                  case rel => go_light; exact ⟨kk + 1, by omega, by go_num, by rw [HS3.out, Int.add_assoc], k1, k2, k3, k4⟩
                  case measure => go_light; simp [intOf]; omega
              · obtain rfl : kk = 5 := by go_light; omega
                go_wp2_with fail
                go_roundw
                case rel => go_light; exact ⟨i + 1, by omega, by go_num, by rw [HS2.out], hb, hm, hB⟩
                case measure => go_light; simp [intOf]; omega
        · obtain rfl : i = 5 := by omega
          have HV2 := HV hb
          generalize ownSum cs hr q 5 = rr at *
          go_wp2_with fail
          (with_reducible refine HV2.mono ?_)
          rintro e w6 ⟨rfl, hx⟩
          have HR2 := HRI (hb.below hx hb.lt)
          have hB6 := hB.trans (hx.mono hB.size)
          go_wp2_with fail
          (with_reducible refine HR2.mono ?_)
          rintro e w7 ⟨rfl, hx⟩
          go_wp2_with fail
          go_ret
          exact ⟨rfl, hB6.trans (hx.mono hB6.size)⟩

theorem walk (w : World) (A : Option Addr) (n c : Nat) (zs : List Int) (hR : RowsIn w w.heap.size A n zs) (who : Int) (_ : -9223372036854775808 ≤ who) (_ : who ≤ 9223372036854775807) (key : Int) (_ : -9223372036854775808 ≤ key) (_ : key ≤ 9223372036854775807) :
    Calls Try.prog 4 #[.slice A n c, .int .i64 who, .int .i64 key] w fun e w' => e = .returned (.bool true) ∧ Below w.heap.size w w' := by
  cases h1 : inK who 5 with
  | false => exact walk_out w A n c zs hR who key (.inl h1)
  | true =>
    cases h2 : inK key 4 with
    | false => exact walk_out w A n c zs hR who key (.inr h2)
    | true =>
      have e1 := inK_true.1 h1
      have e2 := inK_true.1 h2
      have := walk_in w A n c zs hR who.toNat key.toNat (by omega) (by omega)
      rwa [show ((who.toNat : Nat) : Int) = who by omega, show ((key.toNat : Nat) : Int) = key by omega] at this
end Go.Proofs.Ytlegcjniakocoaa.bookCounts
