/- The walk of BallotRuns. -/
import Derived.Test.YtfcoeopemgcjlaaBltG
namespace Go.Proofs.Ytfcoeopemgcjlaa.ballotRuns
open Go.RowKit

attribute [local go_sem ↓] loadBltF_fold storeBltF_fold allocBltF_fold buildBltF_fold loadAccF_fold storeAccF_fold allocAccF_fold buildAccF_fold loadChgF_fold storeChgF_fold allocChgF_fold buildChgF_fold loadD_fold storeD_fold allocD_fold
attribute [local go_sem] loadBltF_has storeBltF_has allocBltF_run buildBltF_none buildBltF_0 buildBltF_0_1 loadAccF_has storeAccF_has allocAccF_run buildAccF_none loadChgF_has storeChgF_has allocChgF_run buildChgF_three buildChgF_none loadD_has storeD_has allocD_run
/-- What the loop knows. -/
def Rel (w : World) (ep : Int) (p q : Nat) (wr : World) : Prop :=
  ∃ a : Acc, a.e = ep ∧ Had a ∧ wfA a ∧ IBlk wr p 29 (accL a) ∧ IBlk wr q 29 (accL a) ∧ Below w.heap.size w wr
set_option maxRecDepth 100000 in
set_option maxHeartbeats 6400000 in
theorem walk (w : World) (E : Int) (E1 : -9223372036854775808 ≤ E) (E2 : E ≤ 9223372036854775807) (A : Option Addr) (n c : Nat) (F : Nat → List Value) (hS : Sts w w.heap.size kindsD A n F) (_ : n ≤ c) (_ : c ≤ maxLen) :
    Calls Try.prog 3 #[.int .i64 E, .slice A n c] w fun e w' => e = .returned (.bool true) ∧ Below w.heap.size w w' := by
  have wE : (Lit.int .i64 E).wf = true := WalkArith.wf_i64 ⟨E1, E2⟩
  clear E1 E2
  go_enter Try.func3, Try.ntmps3
  go_wp2_with fail
  (with_reducible refine (fit12_any w).mono ?_)
  rintro x w1 ⟨rfl, B1⟩
  by_cases h200 : 200 < n
  · have d200 : (200 : Int) < (n : Int) := by omega
    go_wp2_with fail
    go_ret
    exact ⟨rfl, B1⟩
  have d200 : ¬ (200 : Int) < (n : Int) := by omega
  obtain ⟨zz, hzz⟩ : ∃ zz, zz = accL ⟨E, 0, 0, 0, 0, 0, 0, 0⟩ := ⟨_, rfl⟩
  have hbd : ∀ w, (buildAccF #[(0, .int .i64 E)]).run Try.prog w = .ok (.agg (iA zz)) w := fun w => by rw [hzz]; exact buildAccF_0 E w
  have hl : zz.length = 8 := by rw [hzz]; rfl
  have hi8 : Is 8 zz := hl
  have hz := hide hzz
  clear hzz
  obtain ⟨rm, hX, hO, B2⟩ := lay (t := 29) B1 hl B1.size
  go_upto_region 6 with fail
  generalize hp : w1.heap.size = p at *
  generalize (w1.alloc (.cells (iA (zeros 8)) 29)).setCells p 0 (iV zz) = w2 at *
  have hp0 : w.heap.size ≤ p := by rw [← hp]; exact B1.size
  obtain ⟨rm2, hY, hO2, B3⟩ := lay (t := 29) B2 hl B2.size
  have hX3 := hX.only hO2 (fun h => h)
  have hpq := hX.lt
  have hq0 := B2.size
  obtain ⟨r1, h1⟩ := hX.whole hl
  clear rm hO B1 hp hbd
  go_upto_region 7 with fail
  generalize w2.heap.size = q at *
  generalize (w2.alloc (.cells (iA (zeros 8)) 29)).setCells q 0 (iV zz) = w3 at *
  have HR0 : Rel w E p q w3 := ⟨⟨E, 0, 0, 0, 0, 0, 0, 0⟩, rfl, rfl, (by intro z hz; simp [accL] at hz; rcases hz with rfl | rfl; exact wE; rfl), by rw [← hz.out]; exact hX3, by rw [← hz.out]; exact hY, B3⟩
  clear rm2 hX hO2 B2 hY B3 hX3 hz hl hi8 r1 h1
  go_wp2_with fail
  clear d200
  go_loopw [22] (fun s22 wr => ∃ i : Nat, i ≤ n ∧ s22 = .int .i64 i ∧ Rel w E p q wr) (fun s22 _ => n - (intOf s22).toNat)
  case atStart => exact ⟨0, Nat.zero_le _, rfl, HR0⟩
  case round =>
    clear HR0
    obtain ⟨i, hi, rfl, a, hae, hhad, hwf, hA, hM, hB⟩ := hrel
    by_cases hlt : i < n
    · have dl : (i : Int) < (n : Int) := by omega
      obtain ⟨b', off, rfl, hbb, hrow, hhas⟩ := (hS.keep hB).got hlt
      have hlen := hS.len i hlt
      have hev := (hS.keep hB).each i hlt
      generalize F i = cs at *
      match cs, hlen with
      | [v0, v1, v2, v3, v4, v5, v6], _ =>
      obtain ⟨tk, rfl⟩ := hev 0 .b v0 rfl rfl
      obtain ⟨ep, rfl, we⟩ := hev 1 .i v1 rfl rfl
      obtain ⟨r, rfl, wr1⟩ := hev 2 .i v2 rfl rfl
      obtain ⟨v, rfl, wv⟩ := hev 3 .i v3 rfl rfl
      obtain ⟨k, rfl, wk⟩ := hev 4 .i v4 rfl rfl
      obtain ⟨x, rfl, wx⟩ := hev 5 .i v5 rfl rfl
      obtain ⟨j, rfl, wj⟩ := hev 6 .i v6 rfl rfl
      have hcl : IsV 7 (callL tk ep r v k x j) := callL_is tk ep r v k x j
      have hrow : rowAt wr b' (off + i * 7) 7 = (callL tk ep r v k x j).toArray := hrow
      have hhas : HasRow wr b' (off + i * 7) 7 := hhas
      have hc := VBlk.new wr 31 zeroD
      have hrm := hc.room 0 7 (by decide)
      have hf := hc.fill (us := callL tk ep r v k x j) rfl
      have hB0 : Below wr.heap.size wr (wr.alloc (.cells zeroD.toArray 31)) := (Below.refl _ _).alloc (Nat.le_refl _) _
      have hBf : Below wr.heap.size wr ((wr.alloc (.cells zeroD.toArray 31)).setCells wr.heap.size 0 (callL tk ep r v k x j)) := below_only hB0 (only_cells _ _ _ _) (fun i (e : i = wr.heap.size) => by omega) hB0.size
      have hA4 := hA.below hBf hA.lt
      have hM4 := hM.below hBf hM.lt
      have hpl := hA.lt
      have hql := hM.lt
      have hB4 := hB.trans (hBf.mono hB.size)
      obtain ⟨cl, hcl'⟩ : ∃ cl, cl = callL tk ep r v k x j := ⟨_, rfl⟩
      rw [← hcl'] at hcl hrow hf hBf hA4 hM4 hB4
      have HC := hide hcl'
      clear hev hc hB0 hBf hA hM hB hcl'
      go_upto_region 10 with fail
      generalize hg : wr.heap.size = g at *
      generalize (wr.alloc (.cells zeroD.toArray 31)).setCells g 0 cl = w4 at *
      rw [HC.out] at hf
      have hR : Rn w p q g (accL a) (accL a) (callL tk ep r v k x j) w4 := ⟨hA4, hM4, hf, hB4, hp0, hq0, by omega, by omega, by omega⟩
      clear HC hrow hhas hrm hcl hg hA4 hM4 hf hB4 hpl hql
      have al := accL_length a
      have ai : Is 8 (accL a) := al
      obtain ⟨c0, c1, c2, c3, ⟨q1, h1⟩, ⟨q2, h2⟩⟩ := hR.call
      obtain ⟨-, e1, e2, ⟨q3, h3⟩, -, -, -⟩ := acc_got hR.m
      obtain ⟨-, -, -, ⟨q4, h4⟩, -, -, -⟩ := acc_got hR.a
      go_cut [9] (fun s9 wx => s9 = .bool (lessB r v a.r a.w) ∧ w4 = wx)
      case first =>
        generalize a.r = ar at *
        generalize a.w = aw at *
        by_cases g1 : r < ar
        · have d1 : decide (r < ar) = true := decide_eq_true g1
          have HE := hide (show lessB r v ar aw = true by rw [lessB, d1]; rfl)
          clear g1
          go_wp2_with fail
          go_meet
          exact ⟨by rw [HE.out], rfl⟩
        have d1 : decide (r < ar) = false := decide_eq_false g1
        by_cases g2 : r = ar
        · have d2 : (r == ar) = true := by simpa using g2
          by_cases g3 : v < aw
          · have d3 : decide (v < aw) = true := decide_eq_true g3
            have HE := hide (show lessB r v ar aw = true by rw [lessB, d1, d2, d3]; rfl)
            clear g1 g2 g3
            go_wp2_with fail
            go_meet
            exact ⟨by rw [HE.out], rfl⟩
          · have d3 : decide (v < aw) = false := decide_eq_false g3
            have HE := hide (show lessB r v ar aw = false by rw [lessB, d1, d2, d3]; rfl)
            clear g1 g2 g3
            go_wp2_with fail
            go_meet
            exact ⟨by rw [HE.out], rfl⟩
        · have d2 : (r == ar) = false := by simpa using g2
          have HE := hide (show lessB r v ar aw = false by rw [lessB, d1, d2]; rfl)
          clear g1 g2
          go_wp2_with fail
          go_meet
          exact ⟨by rw [HE.out], rfl⟩
      case rest =>
        obtain ⟨rfl, rfl⟩ := hcut
        go_upto_region 11 with fail
        go_cut [10] (fun s10 wx => s10 = .bool (hearsB a ep r v) ∧ w4 = wx)
        case first =>
          have HH := hide (show hearsB a ep r v = ((ep == E) && decide (1 ≤ r) && !lessB r v a.r a.w) by rw [hearsB, hae])
          clear hae
          generalize lessB r v a.r a.w = lb at *
          by_cases g1 : ep = E
          · have d1 : (ep == E) = true := by simpa using g1
            by_cases g2 : 1 ≤ r
            · have d2 : decide (1 ≤ r) = true := decide_eq_true g2
              rw [d1, d2] at HH
              clear g1 g2
              go_wp2_with fail
              go_meet
              exact ⟨by rw [HH.out]; rfl, rfl⟩
            · have d2 : decide (1 ≤ r) = false := decide_eq_false g2
              rw [d1, d2] at HH
              clear g1 g2
              go_wp2_with fail
              go_meet
              exact ⟨by rw [HH.out]; rfl, rfl⟩
          · have d1 : (ep == E) = false := by simpa using g1
            rw [d1] at HH
            clear g1
            go_wp2_with fail
            go_meet
            exact ⟨by rw [HH.out]; rfl, rfl⟩
        case rest =>
          obtain ⟨rfl, rfl⟩ := hcut
          cases tk with
          | true =>
            cases hh : hearsB a ep r v with
            | false =>
              have HK := fun w => put_any a ep r v k x j w
              rw [hh] at HK
              obtain ⟨b, hb⟩ : ∃ b, b = putA a ep r v k x j := ⟨_, rfl⟩
              rw [← hb] at HK
              have be : b.e = E := by rw [hb, put_e, hae]
              have bh : Had b := by rw [hb]; exact put_had hhad _ _ _ _ _ _
              have bw : wfA b := by rw [hb]; exact put_wf hwf wr1 wv wk wx wj
              have bl := accL_length b
              have bi : Is 8 (accL b) := bl
              have HB := hide (show accL a = accL b by rw [hb, putA, hh]; rfl)
              clear hb hae hh
              go_wp2_with fail
              (with_reducible refine (HK w4).mono ?_)
              rintro e w5 ⟨rfl, hb5⟩
              replace hR := hR.next hb5
              have rm := hR.a.room 0 8 (by rw [al]; decide)
              have hR6 := hR.fillA (bs := accL b) (by rw [al, bl])
              clear HK hb5 c0 c1 c2 c3 q1 h1 q2 h2 e1 e2 q3 h3 q4 h4
              go_upto_region 16 with fail
              generalize w5.setCells p 0 (iV (accL b)) = w6 at *
              replace hR := hR6
              clear hR6 rm
              rw [HB.out] at hR
              obtain ⟨-, -, -, ⟨q1, h1⟩, ⟨q2, h2⟩, ⟨q3, h3⟩, -⟩ := acc_got hR.a
              obtain ⟨-, -, -, ⟨q4, h4⟩, -, -, -⟩ := acc_got hR.m
              have HQ := fun w => Try.eqAcc (xs := accL b) (ys := accL b) bl bl bw bw w
              rw [show decide (accL b = accL b) = true from decide_eq_true rfl] at HQ
              have HL := fun w => less_any b.r b.w b.hr b.hw w
              rw [show lessB b.r b.w b.hr b.hw = false from bh] at HL
              go_wp2_with fail
              (with_reducible refine (HL _).mono ?_)
              rintro e w9 ⟨rfl, hb9⟩
              replace hR := hR.next hb9
              have HREL : Rel w E p q w9 := ⟨b, be, bh, bw, hR.a, hR.m, hR.under⟩
              clear hR hb9 q1 h1 q2 h2 q3 h3 q4 h4
              go_wp2_with fail
              go_roundw
              case rel => exact ⟨i + 1, by omega, by go_num, HREL⟩
              case measure => simp [intOf]; omega
            | true =>
              have HK := fun w => put_any a ep r v k x j w
              rw [hh] at HK
              obtain ⟨b, hb⟩ : ∃ b, b = putA a ep r v k x j := ⟨_, rfl⟩
              rw [← hb] at HK
              have be : b.e = E := by rw [hb, put_e, hae]
              have bh : Had b := by rw [hb]; exact put_had hhad _ _ _ _ _ _
              have bw : wfA b := by rw [hb]; exact put_wf hwf wr1 wv wk wx wj
              have bl := accL_length b
              have bi : Is 8 (accL b) := bl
              have HB := hide (show [a.e, r, v, r, v, k, x, j] = accL b by rw [hb, putA, hh]; rfl)
              clear hb hae hh
              go_wp2_with fail
              (with_reducible refine (HK w4).mono ?_)
              rintro e w5 ⟨rfl, hb5⟩
              replace hR := hR.next hb5
              have rm := hR.a.room 0 8 (by rw [al]; decide)
              have hR6 := hR.fillA (bs := accL b) (by rw [al, bl])
              clear HK hb5 c0 c1 c2 c3 q1 h1 q2 h2 e1 e2 q3 h3 q4 h4
              go_upto_region 16 with fail
              generalize w5.setCells p 0 (iV (accL b)) = w6 at *
              replace hR := hR6
              clear hR6 rm
              obtain ⟨c0, -, -, -, ⟨q1, h1⟩, -⟩ := hR.call
              have rm := hR.m.room 1 2 (by rw [al]; decide)
              have hR7 := hR.setM (o := 1) (xs := [r, v]) (by rw [al]; show 1 + 2 ≤ 8; decide)
              have is2 : Is 2 [r, v] := rfl
              have hR7 : Rn w p q g (accL b) [a.e, r, v, a.hr, a.hw, a.k, a.x, a.j] (callL true ep r v k x j) (w6.setCells q 1 (iV [r, v])) := hR7
              go_upto_region 18 with fail
              generalize w6.setCells q 1 (iV [r, v]) = w7 at *
              replace hR := hR7
              clear hR7 rm c0 q1 h1
              obtain ⟨c0, -, -, -, ⟨q1, h1⟩, ⟨q2, h2⟩⟩ := hR.call
              have is3 : Is 3 [k, x, j] := rfl
              clear q1 h1 q2 h2
              obtain ⟨-, -, -, -, ⟨q1, h1⟩, ⟨q2, h2⟩⟩ := hR.drew.call
              have rm1 := hR.drew.m.room 3 2 (by show 3 + 2 ≤ 8; decide)
              have hS1 := hR.drew.setM (o := 3) (xs := [r, v]) (by show 3 + 2 ≤ 8; decide)
              obtain ⟨-, -, -, -, -, ⟨q3, h3⟩⟩ := hS1.call
              have rm2 := hS1.m.room 5 3 (by show 5 + 3 ≤ 8; decide)
              have hS2 := hS1.setM (o := 5) (xs := [k, x, j]) (by show 5 + 3 ≤ 8; decide)
              have hS2 : Rn w p q g (accL b) [a.e, r, v, r, v, k, x, j] (callL true ep r v k x j) ((w7.drew.setCells q 3 (iV [r, v])).setCells q 5 (iV [k, x, j])) := hS2
              rw [HB.out] at hS2
              go_upto_region 19 with fail
              clear hS1
              go_region
              all_goals
                change Exit.then _ _ _ _ ((w7.drew.setCells q 3 (iV [r, v])).setCells q 5 (iV [k, x, j]))
                generalize (w7.drew.setCells q 3 (iV [r, v])).setCells q 5 (iV [k, x, j]) = w8 at *
                replace hR := hS2
                clear hS2 rm1 rm2 c0 q1 h1 q2 h2 q3 h3
                obtain ⟨-, -, -, ⟨q1, h1⟩, ⟨q2, h2⟩, ⟨q3, h3⟩, -⟩ := acc_got hR.a
                obtain ⟨-, -, -, ⟨q4, h4⟩, -, -, -⟩ := acc_got hR.m
                have HQ := fun w => Try.eqAcc (xs := accL b) (ys := accL b) bl bl bw bw w
                rw [show decide (accL b = accL b) = true from decide_eq_true rfl] at HQ
                have HL := fun w => less_any b.r b.w b.hr b.hw w
                rw [show lessB b.r b.w b.hr b.hw = false from bh] at HL
                go_wp2_with fail
                (with_reducible refine (HL _).mono ?_)
                rintro e w9 ⟨rfl, hb9⟩
                replace hR := hR.next hb9
                have HREL : Rel w E p q w9 := ⟨b, be, bh, bw, hR.a, hR.m, hR.under⟩
                clear hR hb9 q1 h1 q2 h2 q3 h3 q4 h4
                go_wp2_with fail
                go_roundw
                case rel => exact ⟨i + 1, by omega, by go_num, HREL⟩
                case measure => simp [intOf]; omega
          | false =>
            cases hh : hearsB a ep r v with
            | false =>
              have HK := fun w => ask_any a ep r v w
              rw [hh] at HK
              obtain ⟨b, hb⟩ : ∃ b, b = askA a ep r v := ⟨_, rfl⟩
              rw [← hb] at HK
              have be : b.e = E := by rw [hb, ask_e, hae]
              have bh : Had b := by rw [hb]; exact ask_had hhad _ _ _
              have bw : wfA b := by rw [hb]; exact ask_wf hwf wr1 wv
              have bl := accL_length b
              have bi : Is 8 (accL b) := bl
              have HB := hide (show accL a = accL b by rw [hb, askA, hh]; rfl)
              clear hb hae hh
              go_wp2_with fail
              (with_reducible refine (HK w4).mono ?_)
              rintro e w5 ⟨rfl, hb5⟩
              replace hR := hR.next hb5
              have rm := hR.a.room 0 8 (by rw [al]; decide)
              have hR6 := hR.fillA (bs := accL b) (by rw [al, bl])
              clear HK hb5 c0 c1 c2 c3 q1 h1 q2 h2 e1 e2 q3 h3 q4 h4
              go_upto_region 16 with fail
              generalize w5.setCells p 0 (iV (accL b)) = w6 at *
              replace hR := hR6
              clear hR6 rm
              rw [HB.out] at hR
              obtain ⟨-, -, -, ⟨q1, h1⟩, ⟨q2, h2⟩, ⟨q3, h3⟩, -⟩ := acc_got hR.a
              obtain ⟨-, -, -, ⟨q4, h4⟩, -, -, -⟩ := acc_got hR.m
              have HQ := fun w => Try.eqAcc (xs := accL b) (ys := accL b) bl bl bw bw w
              rw [show decide (accL b = accL b) = true from decide_eq_true rfl] at HQ
              have HL := fun w => less_any b.r b.w b.hr b.hw w
              rw [show lessB b.r b.w b.hr b.hw = false from bh] at HL
              go_wp2_with fail
              (with_reducible refine (HL _).mono ?_)
              rintro e w9 ⟨rfl, hb9⟩
              replace hR := hR.next hb9
              have HREL : Rel w E p q w9 := ⟨b, be, bh, bw, hR.a, hR.m, hR.under⟩
              clear hR hb9 q1 h1 q2 h2 q3 h3 q4 h4
              go_wp2_with fail
              go_roundw
              case rel => exact ⟨i + 1, by omega, by go_num, HREL⟩
              case measure => simp [intOf]; omega
            | true =>
              have HK := fun w => ask_any a ep r v w
              rw [hh] at HK
              obtain ⟨b, hb⟩ : ∃ b, b = askA a ep r v := ⟨_, rfl⟩
              rw [← hb] at HK
              have be : b.e = E := by rw [hb, ask_e, hae]
              have bh : Had b := by rw [hb]; exact ask_had hhad _ _ _
              have bw : wfA b := by rw [hb]; exact ask_wf hwf wr1 wv
              have bl := accL_length b
              have bi : Is 8 (accL b) := bl
              have HB := hide (show [a.e, r, v, a.hr, a.hw, a.k, a.x, a.j] = accL b by rw [hb, askA, hh]; rfl)
              clear hb hae hh
              go_wp2_with fail
              (with_reducible refine (HK w4).mono ?_)
              rintro e w5 ⟨rfl, hb5⟩
              replace hR := hR.next hb5
              have rm := hR.a.room 0 8 (by rw [al]; decide)
              have hR6 := hR.fillA (bs := accL b) (by rw [al, bl])
              clear HK hb5 c0 c1 c2 c3 q1 h1 q2 h2 e1 e2 q3 h3 q4 h4
              go_upto_region 16 with fail
              generalize w5.setCells p 0 (iV (accL b)) = w6 at *
              replace hR := hR6
              clear hR6 rm
              obtain ⟨c0, -, -, -, ⟨q1, h1⟩, -⟩ := hR.call
              have rm := hR.m.room 1 2 (by rw [al]; decide)
              have hR7 := hR.setM (o := 1) (xs := [r, v]) (by rw [al]; show 1 + 2 ≤ 8; decide)
              have is2 : Is 2 [r, v] := rfl
              have hR7 : Rn w p q g (accL b) [a.e, r, v, a.hr, a.hw, a.k, a.x, a.j] (callL false ep r v k x j) (w6.setCells q 1 (iV [r, v])) := hR7
              go_upto_region 18 with fail
              generalize w6.setCells q 1 (iV [r, v]) = w7 at *
              replace hR := hR7
              clear hR7 rm c0 q1 h1
              obtain ⟨c0, -, -, -, ⟨q1, h1⟩, ⟨q2, h2⟩⟩ := hR.call
              rw [HB.out] at hR
              obtain ⟨-, -, -, ⟨q1, h1⟩, ⟨q2, h2⟩, ⟨q3, h3⟩, -⟩ := acc_got hR.a
              obtain ⟨-, -, -, ⟨q4, h4⟩, -, -, -⟩ := acc_got hR.m
              have HQ := fun w => Try.eqAcc (xs := accL b) (ys := accL b) bl bl bw bw w
              rw [show decide (accL b = accL b) = true from decide_eq_true rfl] at HQ
              have HL := fun w => less_any b.r b.w b.hr b.hw w
              rw [show lessB b.r b.w b.hr b.hw = false from bh] at HL
              go_wp2_with fail
              (with_reducible refine (HL _).mono ?_)
              rintro e w9 ⟨rfl, hb9⟩
              replace hR := hR.next hb9
              have HREL : Rel w E p q w9 := ⟨b, be, bh, bw, hR.a, hR.m, hR.under⟩
              clear hR hb9 q1 h1 q2 h2 q3 h3 q4 h4
              go_wp2_with fail
              go_roundw
              case rel => exact ⟨i + 1, by omega, by go_num, HREL⟩
              case measure => simp [intOf]; omega
    · obtain rfl : n = i := by omega
      go_wp2_with fail
      go_ret
      exact ⟨rfl, hB⟩
end Go.Proofs.Ytfcoeopemgcjlaa.ballotRuns
