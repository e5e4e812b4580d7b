/- The walk of BookMerges: it returns true at all arguments and leaves what was there as it was. -/
import Derived.Test.YtlegcjniakocoaaBookL
import Derived.Deep.CutBlock
import Derived.StillTailTactics
namespace Go.Proofs.Ytlegcjniakocoaa.bookMerges
open Go.RowKit

def mm (zs ws : List Int) : Nat → List Int
  | 0 => zeros 870
  | i + 1 => mergeB (mm zs ws i) (ws.getD i 0) (rowB zs i)
theorem mm_ok {zs : List Int} (ws : List Int) {n : Nat} (hl : zs.length = n * 174) (hw : wf64 zs) : ∀ {i : Nat}, i ≤ n → BookOk (mm zs ws i)
  | 0, _ => bookOk_zeros
  | i + 1, h => (mm_ok ws hl hw (by omega)).merge _ (rowB_len hl (by omega)) (wf64_chunk hw _ _)

attribute [local go_sem ↓] loadRowF_fold storeRowF_fold buildRowF_fold allocRowF_fold allocBookF_fold allocRowsF_fold
attribute [local go_sem] loadRowF_has storeRowF_has buildRowF_none allocRowF_run allocBookF_run allocRowsF_run
set_option maxRecDepth 100000 in
set_option maxHeartbeats 6400000 in
theorem walk (w : World) (A : Option Addr) (n c : Nat) (zs : List Int) (hR : RowsIn w w.heap.size A n zs) (A1 : Option Addr) (n1 c1 : Nat) (ws : List Int) (hr1 : Reads w w.heap.size 1 A1 n1 (ws.map (Value.int .i64))) (_ : n1 ≤ c1) (_ : c1 ≤ maxLen) (_ : c1 * 8 ≤ 140737488351232) (_ : ∀ z ∈ ws, (Lit.int .i64 z).wf = true) :
    Calls Try.prog 3 #[.slice A n c, .slice A1 n1 c1] w fun e w' => e = .returned (.bool true) ∧ Below w.heap.size w w' := by
  go_enter Try.func3, Try.ntmps3
  go_wp2_with fail
  (with_reducible refine (fit5_any w).mono ?_)
  rintro e w1 ⟨rfl, hB1⟩
  by_cases g1 : 30 < n
  · have d1 : decide ((30 : Int) < (n : Int)) = true := decide_eq_true (by omega)
    go_wp2_with fail
    go_ret
    exact ⟨rfl, hB1⟩
  have d1 : decide ((30 : Int) < (n : Int)) = false := decide_eq_false (by omega)
  by_cases g2 : n1 < n
  · have d2 : decide ((n1 : Int) < (n : Int)) = true := decide_eq_true (by omega)
    go_wp2_with fail
    go_ret
    exact ⟨rfl, hB1⟩
  have d2 : decide ((n1 : Int) < (n : Int)) = false := decide_eq_false (by omega)
  have hb2 : IBlk ((w1.alloc (.cells (iA (zeros 870)) 34)).alloc (.cells (iA (zeros 870)) 32)) w1.heap.size 34 (zeros 870) := (IBlk.new _ _ _).alloc _
  have hm2 : IBlk ((w1.alloc (.cells (iA (zeros 870)) 34)).alloc (.cells (iA (zeros 870)) 32)) (w1.heap.size + 1) 32 (zeros 870) := by
    have := IBlk.new (w1.alloc (.cells (iA (zeros 870)) 34)) 32 (zeros 870)
    simpa using this
  have hs1 := hB1.size
  have hB2 : Below w.heap.size w ((w1.alloc (.cells (iA (zeros 870)) 34)).alloc (.cells (iA (zeros 870)) 32)) := (hB1.alloc hs1 _).alloc (by simp; omega) _
  have HL := hide hR.len
  have HK := hide (fun (i : Nat) (hi : i ≤ n) => mm_ok ws hR.len hR.wf hi)
  have HW := hide hR.wf
  have HST : Hid (∀ i, mm zs ws (i + 1) = mergeB (mm zs ws i) (ws.getD i 0) (rowB zs i)) := hide fun _ => rfl
  go_upto_region 7 with fail
  generalize (w1.alloc (.cells (iA (zeros 870)) 34)).alloc (.cells (iA (zeros 870)) 32) = w2 at hb2 hm2 hB2
  generalize w1.heap.size = pb at hb2 hm2 hs1
  go_wp2_with fail
  clear d1 d2
  go_loopw [26] (fun s26 wr => ∃ j : Nat, j ≤ n ∧ s26 = .int .i64 j ∧ IBlk wr pb 34 (mm zs ws j) ∧ IBlk wr (pb + 1) 32 (mm zs ws j) ∧ Below w.heap.size w wr) (fun s26 _ => n - (intOf s26).toNat)
  case atStart => exact ⟨0, by omega, rfl, hb2, hm2, hB2⟩
  case round =>
    clear hb2 hm2 hB2
    obtain ⟨j, hj, rfl, hb, hm, hB⟩ := hrel
    by_cases hlt : j < n
    · have hRr := hR.below hB (Nat.le_refl _)
      have hr1r := hr1.below hB
      obtain ⟨ab, off, rfl, habl, _⟩ := hR.at_ (by omega)
      obtain ⟨a1, off1, rfl, ha1l, hc1⟩ := hr1r.ints (by omega)
      have cw := hc1 j (by omega)
      obtain ⟨r0, h0⟩ := hRr.got rfl hlt
      have hok := HK.out j hj
      have hrl := rowB_len HL.out hlt
      have hrw : wf64 (rowB zs j) := wf64_chunk HW.out _ _
      have hst := HST.out j
      generalize rowB zs j = rr at *
      generalize ws.getD j 0 = who at *
      generalize mm zs ws j = F at *
      have HM := fun {w : World} {b : Nat} (hb : IBlk w b 34 F) => merge_any hok.len hb who hrl hrw
      have HLR := lawRight_any rr hrl hrw
      have HN : Hid (mergeB F who rr = if newsB F who rr = true then putB F who.toNat rr else F) := hide rfl
      have HNW : Hid (newsB F who rr = (inK who 5 && okRow rr && decide ((rowB F who.toNat).getD 0 0 < rr.getD 0 0))) := hide rfl
      have HS := hide hst
      have HFL := hide hok.len
      have hml := hm.lt
      have hbl := hb.lt
      have dl : (j : Int) < (n : Int) := by omega
      have dl1 : (j : Int) < (n1 : Int) := by omega
      obtain ⟨rm, hX, hO, hB2⟩ := lay (t := 31) hB hrl hB.size
      have hb2 := hb.only hO (fun h => h)
      have hm2 := hm.only hO (fun h => h)
      have cw2 := (hO.cell (p := ⟨a1, off1 + j, none⟩) (by show a1 < wr.heap.size; have := hB.size; omega) (fun h => h)).trans cw
      have hri : Is 174 rr := hrl
      clear hst hok hb hm hB hRr hr1r hrw hc1 ha1l habl
      go_upto_region 10 with fail
      generalize hpe : wr.heap.size = p at hX hO hB2 hb2 hm2 hml hbl cw2
      generalize (wr.alloc (.cells (iA (zeros 174)) 31)).setCells p 0 (iV rr) = w3 at hX hO hB2 hb2 hm2 cw2
      clear rm hpe hO r0 h0 cw
      obtain ⟨r1, h1⟩ := hX.whole hrl
      by_cases hin : inK who 5 = true
      · obtain ⟨q, rfl⟩ : ∃ q : Nat, who = (q : Int) := ⟨who.toNat, by have := inK_true.1 hin; omega⟩
        have hq : q < 5 := by have := (inK_true.1 hin).2; omega
        have d0 : decide (0 ≤ (q : Int)) = true := decide_eq_true (by omega)
        have d5 : decide ((q : Int) < 5) = true := decide_eq_true (by omega)
        have hqi : (q : Int) < 5 := by omega
        have hq0 : 0 ≤ (q : Int) := by omega
        go_wp2_with fail
        (with_reducible refine (HLR w3).mono ?_)
        rintro e w4 ⟨rfl, hx⟩
        have hX4 := hX.below hx hX.lt
        have hb4 := hb2.below hx hb2.lt
        have hm4 := hm2.below hx hm2.lt
        have hB4 := hB2.trans (hx.mono hB2.size)
        clear r1 h1 hX hb2 hm2 hB2 hx cw2 HLR
        cases hokr : okRow rr with
        | false =>
          have HNF : Hid (newsB F (q : Int) rr = false) := hide (by rw [HNW.out, hokr, hin]; rfl)
          have HN2 := hide ((HS.out.trans HN.out).trans (if_neg (by rw [HNF.out]; decide)))
          clear hin hokr HNW HN
          obtain ⟨r1, h1⟩ := hX4.whole hrl
          go_wp2_with fail
          (with_reducible refine (HM hb4).mono ?_)
          rintro e w5 ⟨rfl, hb5, hO5⟩
          have hm5 := hm4.only hO5 (by omega)
          have hB5 := below_only hB4 hO5 (fun i (e : i = pb) => by omega) hB4.size
          rw [HNF.out]
          go_wp2_with fail
          go_roundw
          case rel => go_light; exact ⟨j + 1, by omega, by go_num, by rw [HS.out]; exact hb5, by rw [HN2.out]; exact hm5, hB5⟩
          case measure => go_light; simp [intOf]; omega
        | true =>
          have cx : w4.drew.cell? ⟨p, 0, none⟩ = some (.int .i64 (rr.getD 0 0)) := hX4.drew.cell (by omega)
          have cm : w4.drew.cell? ⟨pb + 1, q * 174, none⟩ = some (.int .i64 (F.getD (q * 174) 0)) := hm4.drew.cell (by have := HFL.out; omega)
          have HND : Hid (newsB F (q : Int) rr = decide (F.getD (q * 174) 0 < rr.getD 0 0)) := hide (by rw [HNW.out, hokr, hin, show ((q : Int)).toNat = q from rfl, rowB_getD _ _ _ (by omega)]; rfl)
          generalize rr.getD 0 0 = x0 at cx HND
          generalize F.getD (q * 174) 0 = f0 at cm HND
          have hXd := hX4.drew
          have hbd := hb4.drew
          have hmd := hm4.drew
          have hBd := hB4.drew
          clear hin hokr HNW
          go_upto_region 13 with fail
          go_cut [10] (fun s10 wx => s10 = .bool (newsB F (q : Int) rr) ∧ IBlk wx p 31 rr ∧ IBlk wx pb 34 F ∧ IBlk wx (pb + 1) 32 F ∧ Below w.heap.size w wx)
          case first =>
            refine wp_region_still_lit (by kernel_rfl) (by kernel_rfl) ?_
            change wpStill _ _ w4.drew _ _ _
            repeat still_step
            refine wpStill_nil ?_
            first | change Exit.then _ _ _ _ w4.drew | change Exit.inBlock _ _ _ _ w4.drew
            generalize w4.drew = w9 at hXd hbd hmd hBd
            clear cx cm hX4 hb4 hm4 hB4
            go_wp2_with fail
            go_meet
            exact ⟨by rw [HND.out], hXd, hbd, hmd, hBd⟩
          case rest =>
            clear cx cm hX4 hb4 hm4 hB4 hXd hbd hmd hBd HND
            obtain ⟨rfl, hX4, hb4, hm4, hB4⟩ := hcut
            obtain ⟨r1, h1⟩ := hX4.whole hrl
            have HM2 := HM hb4
            cases hnw : newsB F (q : Int) rr with
            | false =>
              rw [hnw] at HM2
              have HN2 := hide ((HS.out.trans HN.out).trans (if_neg (by rw [hnw]; decide)))
              clear hnw HN
              go_wp2_with fail
              (with_reducible refine HM2.mono ?_)
              rintro e w5 ⟨rfl, hb5, hO5⟩
              have hm5 := hm4.only hO5 (by go_light; omega)
              have hB5 := below_only hB4 hO5 (fun i (e : i = pb) => by go_light; omega) hB4.size
              go_wp2_with fail
              go_roundw
              case rel => go_light; exact ⟨j + 1, by omega, by go_num, by rw [HS.out]; exact hb5, by rw [HN2.out]; exact hm5, hB5⟩
              case measure => go_light; simp [intOf]; omega
            | true =>
              rw [hnw] at HM2
              have HN2 := hide ((HS.out.trans HN.out).trans (if_pos hnw))
              clear hnw HN
              go_wp2_with fail
              (with_reducible refine HM2.mono ?_)
              rintro e w5 ⟨rfl, hb5, hO5⟩
              have hX5 := hX4.only hO5 (by go_light; omega)
              have hm5 := hm4.only hO5 (by go_light; omega)
              have hB5 := below_only hB4 hO5 (fun i (e : i = pb) => by go_light; omega) hB4.size
              clear r1 h1
              obtain ⟨r1, h1⟩ := hX5.whole hrl
              have hrm := hm5.room (q * 174) 174 (by go_light; have := HFL.out; omega)
              have hO6 := only_cells w5 (pb + 1) (q * 174) (iV rr)
              have hm6 := hm5.setN (o := q * 174) (xs := rr) (by go_light; have := HFL.out; omega)
              have hb6 := hb5.only hO6 (by go_light; omega)
              have hB6 := below_only hB5 hO6 (fun i (e : i = pb + 1) => by go_light; omega) hB5.size
              go_wp2_with fail
              go_roundw
              case rel => go_light; exact ⟨j + 1, by omega, by go_num, by rw [HS.out]; exact hb6, by rw [HN2.out]; exact hm6, hB6⟩
              case measure => go_light; simp [intOf]; omega
      · have hin : inK who 5 = false := by simpa using hin
        have HNF : Hid (newsB F who rr = false) := hide (by rw [HNW.out, hin]; rfl)
        have HN2 := hide ((HS.out.trans HN.out).trans (if_neg (by rw [HNF.out]; decide)))
        have HM2 := HM hb2
        rw [HNF.out] at HM2
        clear HNW HN
        by_cases h0 : 0 ≤ who
        · have d0 : decide (0 ≤ who) = true := decide_eq_true h0
          have d5 : decide (who < 5) = false := decide_eq_false (fun h => by rw [← Bool.not_eq_true] at hin; exact hin (inK_true.2 ⟨h0, h⟩))
          go_wp2_with fail
          (with_reducible refine HM2.mono ?_)
          rintro e w5 ⟨rfl, hb5, hO5⟩
          have hm5 := hm2.only hO5 (by go_light; omega)
          have hB5 := below_only hB2 hO5 (fun i (e : i = pb) => by go_light; omega) hB2.size
          go_wp2_with fail
          go_roundw
          case rel => go_light; exact ⟨j + 1, by omega, by go_num, by rw [HS.out]; exact hb5, by rw [HN2.out]; exact hm5, hB5⟩
          case measure => go_light; simp [intOf]; omega
        · have d0 : decide (0 ≤ who) = false := decide_eq_false h0
          go_wp2_with fail
          (with_reducible refine HM2.mono ?_)
          rintro e w5 ⟨rfl, hb5, hO5⟩
          have hm5 := hm2.only hO5 (by go_light; omega)
          have hB5 := below_only hB2 hO5 (fun i (e : i = pb) => by go_light; omega) hB2.size
          go_wp2_with fail
          go_roundw
          case rel => go_light; exact ⟨j + 1, by omega, by go_num, by rw [HS.out]; exact hb5, by rw [HN2.out]; exact hm5, hB5⟩
          case measure => go_light; simp [intOf]; omega
    · obtain rfl : j = n := by omega
      have hFok := HK.out j (Nat.le_refl _)
      have dl : ¬ ((j : Int) < (j : Int)) := by omega
      generalize mm zs ws j = F at *
      have HFL := hide hFok.len
      have HFW := hide (fun (i : Nat) (hi : i < 5) => And.intro (rowB_length hFok.len hi) (hFok.row_wf i))
      clear HK HST HL HW hFok hR hr1
      go_wp2_with fail
      go_loopw [63] (fun s63 wr => ∃ i : Nat, i ≤ 5 ∧ s63 = .int .i64 i ∧ IBlk wr pb 34 F ∧ IBlk wr (pb + 1) 32 F ∧ Below w.heap.size w wr) (fun s63 _ => 5 - (intOf s63).toNat)
      case atStart => exact ⟨0, by omega, rfl, hb, hm, hB⟩
      case round =>
        clear hb hm hB
        obtain ⟨i, hi, rfl, hb, hm, hB⟩ := hrel
        by_cases hlt : i < 5
        · obtain ⟨hrl, hrw⟩ := HFW.out i hlt
          have hq : ∀ w, (Op.equalIn 10000 31 (.agg (iA (rowB F i))) (.agg (iA (rowB F i)))).run Try.prog w = .ok true w := fun w => by
            have := Try.eqRow hrl hrl hrw hrw w
            simpa using this
          have HRO := fun {w : World} (hb : IBlk w pb 34 F) => row_any HFL.out hb (i : Int)
          rw [show rowV F (i : Int) = rowB F i by rw [rowV, if_pos (inK_true.2 ⟨by omega, by omega⟩)]; rfl] at HRO
          obtain ⟨r1, h1⟩ := hm.drew.got (i * 174) 174 (by have := HFL.out; omega)
          change rowAt wr.drew (pb + 1) (i * 174) 174 = iA (rowB F i) at r1
          have after : ∀ w5, Below wr.drew.heap.size wr.drew w5 → (rowAt w5 (pb + 1) (i * 174) 174 = iA (rowB F i) ∧ HasRow w5 (pb + 1) (i * 174) 174) ∧ IBlk w5 pb 34 F ∧ IBlk w5 (pb + 1) 32 F ∧ Below w.heap.size w w5 := fun w5 hx => by
            have hm5 := hm.drew.below hx hm.lt
            exact ⟨hm5.got (i * 174) 174 (by have := HFL.out; omega), hb.drew.below hx hb.lt, hm5, hB.drew.trans (hx.mono hB.size)⟩
          have hi5 : (i : Int) < 5 := by omega
          have hbd := hb.drew
          go_upto_region 22 with fail
          go_cut [71] (fun s71 wx => s71 = .bool false ∧ IBlk wx pb 34 F ∧ IBlk wx (pb + 1) 32 F ∧ Below w.heap.size w wx)
          case first =>
            go_region_with (first
              | (go_at_call 11; (with_reducible refine (HRO hbd).mono ?_); rintro e w5 ⟨rfl, hx⟩; obtain ⟨⟨r2, h2⟩, k1, k2, k3⟩ := after w5 hx))
            all_goals
              go_wp2_with fail
              go_meet
              exact ⟨rfl, k1, k2, k3⟩
          case rest =>
            clear hb hm hB hbd r1 h1 after
            obtain ⟨rfl, hb, hm, hB⟩ := hcut
            go_wp2_with fail
            go_roundw
            case rel => go_light; exact ⟨i + 1, by omega, by go_num, hb, hm, hB⟩
            case measure => go_light; simp [intOf]; omega
        · obtain rfl : i = 5 := by omega
          have zz : ∀ w, (Op.equalIn 10000 31 (.agg (iA (zeros 174))) (.agg (iA (zeros 174)))).run Try.prog w = .ok (decide (zeros 174 = zeros 174)) w := fun w => Try.eqRow (zeros_length _) (zeros_length _) (wf_zeros _) (wf_zeros _) w
          simp only [decide_true] at zz
          have R1 := row_any HFL.out hb (-1)
          rw [show rowV F (-1) = zeros 174 from rfl] at R1
          go_wp2_with fail
          (with_reducible refine R1.mono ?_)
          rintro e w5 ⟨rfl, hx⟩
          have R2 := row_any HFL.out (hb.below hx hb.lt) 5
          rw [show rowV F 5 = zeros 174 from rfl] at R2
          have hB5 := hB.trans (hx.mono hB.size)
          go_wp2_with fail
          (with_reducible refine R2.mono ?_)
          rintro e w6 ⟨rfl, hx⟩
          go_wp2_with fail
          go_ret
          exact ⟨rfl, hB5.trans (hx.mono hB5.size)⟩
end Go.Proofs.Ytlegcjniakocoaa.bookMerges
