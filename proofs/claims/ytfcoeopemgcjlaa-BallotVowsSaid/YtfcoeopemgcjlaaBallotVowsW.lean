/- The walk of BallotVows. -/
import Derived.Test.YtfcoeopemgcjlaaBltG
namespace Go.Proofs.Ytfcoeopemgcjlaa.ballotVows
open Go.RowKit

attribute [local go_sem ↓] loadBltF_fold storeBltF_fold allocBltF_fold buildBltF_fold loadAccF_fold storeAccF_fold allocAccF_fold buildAccF_fold loadChgF_fold storeChgF_fold allocChgF_fold buildChgF_fold loadD_fold storeD_fold allocD_fold
attribute [local go_sem] loadBltF_has storeBltF_has allocBltF_run buildBltF_none buildBltF_0 buildBltF_0_1 loadAccF_has storeAccF_has allocAccF_run buildAccF_none loadChgF_has storeChgF_has allocChgF_run buildChgF_three buildChgF_none loadD_has storeD_has allocD_run
theorem ask_vow (a : Acc) (e r v : Int) : lessB (askA a e r v).r (askA a e r v).w a.r a.w = false := by
  unfold askA
  split
  · rename_i hh
    simp only [hearsB, Bool.and_eq_true, Bool.not_eq_true'] at hh
    exact hh.2
  · rw [lessB_false]; omega
theorem put_vow (a : Acc) (e r v k x j : Int) : lessB (putA a e r v k x j).r (putA a e r v k x j).w a.r a.w = false := by
  unfold putA
  split
  · rename_i hh
    simp only [hearsB, Bool.and_eq_true, Bool.not_eq_true'] at hh
    exact hh.2
  · rw [lessB_false]; omega
theorem put_took {a : Acc} (h : Had a) (e r v k x j : Int) : lessB (putA a e r v k x j).hr (putA a e r v k x j).hw a.hr a.hw = false := by
  unfold putA
  split
  · rename_i hh
    simp only [hearsB, Bool.and_eq_true, Bool.not_eq_true'] at hh
    have h1 := lessB_false.1 hh.2
    have h2 := lessB_false.1 h
    show lessB r v a.hr a.hw = false
    rw [lessB_false]
    omega
  · rw [lessB_false]; omega
theorem ask_took (a : Acc) (e r v : Int) : (askA a e r v).hr = a.hr ∧ (askA a e r v).hw = a.hw ∧ (askA a e r v).k = a.k ∧ (askA a e r v).x = a.x ∧ (askA a e r v).j = a.j := by
  unfold askA
  split <;> exact ⟨rfl, rfl, rfl, rfl, rfl⟩
theorem wf_had {a : Acc} (h : wfA a) : wf64 [a.hr, a.hw] := fun z hz => h z (by simp at hz; simp [accL]; rcases hz with h | h | h <;> simp [h])
theorem wf_chg {a : Acc} (h : wfA a) : wf64 [a.k, a.x, a.j] := fun z hz => h z (by simp at hz; simp [accL]; rcases hz with h | h | h <;> simp [h])
/-- What the loop knows. -/
def Rel (w : World) (p : Nat) (wr : World) : Prop :=
  ∃ a : Acc, a.e = 1 ∧ Had a ∧ wfA a ∧ IBlk wr p 29 (accL a) ∧ Below w.heap.size w wr
set_option maxRecDepth 100000 in
set_option maxHeartbeats 6400000 in
theorem walk (w : World) (A : Option Addr) (n c : Nat) (F : Nat → List Value) (hS : Sts w w.heap.size kindsD A n F) (_ : n ≤ c) (_ : c ≤ maxLen) :
    Calls Try.prog 5 #[.slice A n c] w fun e w' => e = .returned (.bool true) ∧ Below w.heap.size w w' := by
  go_enter Try.func5, Try.ntmps5
  go_wp2_with fail
  (with_reducible refine (fit12_any w).mono ?_)
  rintro x w1 ⟨rfl, B1⟩
  by_cases h200 : 200 < n
  · have d200 : (200 : Int) < (n : Int) := by omega
    go_wp2_with fail
    go_ret
    exact ⟨rfl, B1⟩
  have d200 : ¬ (200 : Int) < (n : Int) := by omega
  obtain ⟨zz, hzz⟩ : ∃ zz, zz = accL ⟨1, 0, 0, 0, 0, 0, 0, 0⟩ := ⟨_, rfl⟩
  have hbd : ∀ w, (buildAccF #[(0, .int .i64 1)]).run Try.prog w = .ok (.agg (iA zz)) w := fun w => by rw [hzz]; exact buildAccF_0 1 w
  have hl : zz.length = 8 := by rw [hzz]; rfl
  have hi8 : Is 8 zz := hl
  have hz := hide hzz
  clear hzz
  obtain ⟨rm, hX, hO, B2⟩ := lay (t := 29) B1 hl B1.size
  go_upto_region 6 with fail
  generalize hp : w1.heap.size = p at *
  generalize (w1.alloc (.cells (iA (zeros 8)) 29)).setCells p 0 (iV zz) = w2 at *
  have HR0 : Rel w p w2 := ⟨⟨1, 0, 0, 0, 0, 0, 0, 0⟩, rfl, rfl, (by intro z hz; simp [accL] at hz; rcases hz with rfl | rfl <;> rfl), by rw [← hz.out]; exact hX, B2⟩
  have hp0 : w.heap.size ≤ p := by rw [← hp]; exact B1.size
  clear rm hX hO B2 B1 hz hl hi8 hbd hp
  go_wp2_with fail
  clear d200
  go_loopw [15] (fun s15 wr => ∃ i : Nat, i ≤ n ∧ s15 = .int .i64 i ∧ Rel w p wr) (fun s15 _ => n - (intOf s15).toNat)
  case atStart => exact ⟨0, Nat.zero_le _, rfl, HR0⟩
  case round =>
    clear HR0
    obtain ⟨i, hi, rfl, a, ha1, hhad, hwf, hA, hB⟩ := hrel
    by_cases hlt : i < n
    · have dl : (i : Int) < (n : Int) := by omega
      obtain ⟨b', off, rfl, hbb, hrow, hhas⟩ := (hS.keep hB).got hlt
      have hlen := hS.len i hlt
      have hev := (hS.keep hB).each i hlt
      generalize F i = cs at *
      match cs, hlen with
      | [v0, v1, v2, v3, v4, v5, v6], _ =>
      obtain ⟨tk, rfl⟩ := hev 0 .b v0 rfl rfl
      obtain ⟨ep, rfl, we⟩ := hev 1 .i v1 rfl rfl
      obtain ⟨r, rfl, wr1⟩ := hev 2 .i v2 rfl rfl
      obtain ⟨v, rfl, wv⟩ := hev 3 .i v3 rfl rfl
      obtain ⟨k, rfl, wk⟩ := hev 4 .i v4 rfl rfl
      obtain ⟨x, rfl, wx⟩ := hev 5 .i v5 rfl rfl
      obtain ⟨j, rfl, wj⟩ := hev 6 .i v6 rfl rfl
      have hcl : IsV 7 (callL tk ep r v k x j) := callL_is tk ep r v k x j
      have hrow : rowAt wr b' (off + i * 7) 7 = (callL tk ep r v k x j).toArray := hrow
      have hhas : HasRow wr b' (off + i * 7) 7 := hhas
      have hc := VBlk.new wr 31 zeroD
      have hrm := hc.room 0 7 (by decide)
      have hf := hc.fill (us := callL tk ep r v k x j) rfl
      have hB0 : Below wr.heap.size wr (wr.alloc (.cells zeroD.toArray 31)) := (Below.refl _ _).alloc (Nat.le_refl _) _
      have hBf : Below wr.heap.size wr ((wr.alloc (.cells zeroD.toArray 31)).setCells wr.heap.size 0 (callL tk ep r v k x j)) := below_only hB0 (only_cells _ _ _ _) (fun i (e : i = wr.heap.size) => by omega) hB0.size
      have hA4 := hA.below hBf hA.lt
      have hpl := hA.lt
      have hB4 := hB.trans (hBf.mono hB.size)
      have hgs := hB.size
      obtain ⟨cl, hcl'⟩ : ∃ cl, cl = callL tk ep r v k x j := ⟨_, rfl⟩
      rw [← hcl'] at hcl hrow hf hBf hA4 hB4
      have HC := hide hcl'
      clear hev hc hB0 hBf hA hB hcl'
      go_upto_region 9 with fail
      generalize hg : wr.heap.size = g at *
      generalize (wr.alloc (.cells zeroD.toArray 31)).setCells g 0 cl = w4 at *
      rw [HC.out] at hf
      clear HC hrow hhas hrm hcl hg
      -- the copy of a
      have al := accL_length a
      have ai : Is 8 (accL a) := al
      obtain ⟨rm, hM, hO, B5⟩ := lay (t := 29) hB4 al hB4.size
      have hA5 := hA4.only hO (fun h => h)
      have hf5 := hf.only hO (fun h => h)
      have hgl := hf.lt
      obtain ⟨r1, h1⟩ := hA4.whole al
      go_upto_region 10 with fail
      generalize hq : w4.heap.size = q at *
      generalize (w4.alloc (.cells (iA (zeros 8)) 29)).setCells q 0 (iV (accL a)) = w5 at *
      have hR : Rn w p q g (accL a) (accL a) (callL tk ep r v k x j) w5 := ⟨hA5, hM, hf5, B5, hp0, by omega, by omega, by omega, by omega⟩
      clear rm hO hA4 hf hM hB4 B5 hA5 hf5 r1 h1 hgl hgs hpl hq
      obtain ⟨c0, -, -, -, ⟨q1, h1⟩, ⟨q2, h2⟩⟩ := hR.call
      obtain ⟨-, -, -, ⟨q3, h3⟩, -, -, -⟩ := acc_got hR.a
      cases tk with
      | true =>
        have HK := fun w => put_any a 1 r v k x j w
        obtain ⟨hh, hhh⟩ : ∃ hh, hh = hearsB a 1 r v := ⟨_, rfl⟩
        obtain ⟨b, hb⟩ : ∃ b, b = putA a 1 r v k x j := ⟨_, rfl⟩
        rw [← hb, ← hhh] at HK
        have be : b.e = 1 := by rw [hb, put_e, ha1]
        have bh : Had b := by rw [hb]; exact put_had hhad _ _ _ _ _ _
        have bw : wfA b := by rw [hb]; exact put_wf hwf wr1 wv wk wx wj
        have b1 : lessB b.r b.w a.r a.w = false := by rw [hb]; exact put_vow _ _ _ _ _ _ _
        have b2 : lessB b.hr b.hw a.hr a.hw = false := by rw [hb]; exact put_took hhad _ _ _ _ _ _
        have bl := accL_length b
        have bi : Is 8 (accL b) := bl
        clear hb hhh
        go_wp2_with fail
        (with_reducible refine (HK w5).mono ?_)
        rintro e w6 ⟨rfl, hb6⟩
        replace hR := hR.next hb6
        have rm := hR.m.room 0 8 (by rw [al]; decide)
        have hR7 := hR.fillM (bs := accL b) (by rw [al, bl])
        clear HK hb6 c0 q1 h1 q2 h2 q3 h3
        go_upto_region 13 with fail
        generalize w6.setCells q 0 (iV (accL b)) = w7 at *
        clear hR rm
        have hR := hR7
        clear hR7
        have HL1 := fun w => less_any b.r b.w a.r a.w w
        rw [b1] at HL1
        have HL2 := fun w => less_any b.hr b.hw a.hr a.hw w
        rw [b2] at HL2
        have hq1 := fun w => Try.eqBlt (xs := [b.hr, b.hw]) (ys := [a.hr, a.hw]) rfl rfl (wf_had bw) (wf_had hwf) w
        have hq2 := fun w => Try.eqChg (xs := [b.k, b.x, b.j]) (ys := [a.k, a.x, a.j]) rfl rfl (wf_chg bw) (wf_chg hwf) w
        obtain ⟨c0, -, -, -, -, -⟩ := hR.call
        obtain ⟨-, -, -, ⟨q1, h1⟩, ⟨q2, h2⟩, ⟨q3, h3⟩, ⟨q4, h4⟩⟩ := acc_got hR.a
        obtain ⟨e0, -, -, ⟨q5, h5⟩, ⟨q6, h6⟩, ⟨q7, h7⟩, ⟨q8, h8⟩⟩ := acc_got hR.m
        rw [be] at e0
        go_wp2_with fail
        (with_reducible refine (HL1 w7).mono ?_)
        rintro e w8 ⟨rfl, hb8⟩
        replace hR := hR.next hb8
        clear c0 q1 h1 q2 h2 q3 h3 q4 h4 e0 q5 h5 q6 h6 q7 h7 q8 h8 hb8 HL1
        obtain ⟨c0, -, -, -, -, -⟩ := hR.call
        obtain ⟨-, -, -, ⟨q1, h1⟩, ⟨q2, h2⟩, ⟨q3, h3⟩, ⟨q4, h4⟩⟩ := acc_got hR.a
        obtain ⟨e0, -, -, ⟨q5, h5⟩, ⟨q6, h6⟩, ⟨q7, h7⟩, ⟨q8, h8⟩⟩ := acc_got hR.m
        rw [be] at e0
        go_wp2_with fail
        (with_reducible refine (HL2 w8).mono ?_)
        rintro e w9 ⟨rfl, hb9⟩
        replace hR := hR.next hb9
        clear c0 q1 h1 q2 h2 q3 h3 q4 h4 e0 q5 h5 q6 h6 q7 h7 q8 h8 hb9 HL2
        obtain ⟨c0, -, -, -, -, -⟩ := hR.call
        obtain ⟨-, -, -, ⟨q1, h1⟩, ⟨q2, h2⟩, ⟨q3, h3⟩, ⟨q4, h4⟩⟩ := acc_got hR.a
        obtain ⟨e0, -, -, ⟨q5, h5⟩, ⟨q6, h6⟩, ⟨q7, h7⟩, ⟨q8, h8⟩⟩ := acc_got hR.m
        rw [be] at e0
        clear q4 h4 q8 h8 hq2
        obtain ⟨q4, h4⟩ := (acc_got hR.a).2.2.2.2.2.2
        obtain ⟨q8, h8⟩ := (acc_got hR.m).2.2.2.2.2.2
        have hq2 := fun w => Try.eqChg (xs := [b.k, b.x, b.j]) (ys := [a.k, a.x, a.j]) rfl rfl (wf_chg bw) (wf_chg hwf) w
        generalize decide ([b.hr, b.hw] = [a.hr, a.hw]) = D at hq1
        generalize decide ([b.k, b.x, b.j] = [a.k, a.x, a.j]) = E at hq2
        cases D with
        | false =>
          have rm := hR.a.room 0 8 (by rw [al]; decide)
          have hR9 := hR.fillA (bs := accL b) (by rw [al, bl])
          have HREL : Rel w p (w9.setCells p 0 (iV (accL b))) := ⟨b, be, bh, bw, hR9.a, hR9.under⟩
          clear hR hR9
          go_wp2_with fail
          go_roundw
          case rel => exact ⟨i + 1, by omega, by go_num, HREL⟩
          case measure => simp [intOf]; omega
        | true =>
          cases E with
          | false =>
            have rm := hR.a.room 0 8 (by rw [al]; decide)
            have hR9 := hR.fillA (bs := accL b) (by rw [al, bl])
            have HREL : Rel w p (w9.setCells p 0 (iV (accL b))) := ⟨b, be, bh, bw, hR9.a, hR9.under⟩
            clear hR hR9
            go_wp2_with fail
            go_roundw
            case rel => exact ⟨i + 1, by omega, by go_num, HREL⟩
            case measure => simp [intOf]; omega
          | true =>
            have rm := hR.a.room 0 8 (by rw [al]; decide)
            have hR9 := hR.fillA (bs := accL b) (by rw [al, bl])
            have HREL : Rel w p (w9.setCells p 0 (iV (accL b))) := ⟨b, be, bh, bw, hR9.a, hR9.under⟩
            clear hR hR9
            go_wp2_with fail
            go_roundw
            case rel => exact ⟨i + 1, by omega, by go_num, HREL⟩
            case measure => simp [intOf]; omega
      | false =>
        have HK := fun w => ask_any a 1 r v w
        obtain ⟨hh, hhh⟩ : ∃ hh, hh = hearsB a 1 r v := ⟨_, rfl⟩
        obtain ⟨b, hb⟩ : ∃ b, b = askA a 1 r v := ⟨_, rfl⟩
        rw [← hb, ← hhh] at HK
        have be : b.e = 1 := by rw [hb, ask_e, ha1]
        have bh : Had b := by rw [hb]; exact ask_had hhad _ _ _
        have bw : wfA b := by rw [hb]; exact ask_wf hwf wr1 wv
        have b1 : lessB b.r b.w a.r a.w = false := by rw [hb]; exact ask_vow _ _ _ _
        obtain ⟨b3, b4, b5, b6, b7⟩ : b.hr = a.hr ∧ b.hw = a.hw ∧ b.k = a.k ∧ b.x = a.x ∧ b.j = a.j := by rw [hb]; exact ask_took a 1 r v
        have b2 : lessB b.hr b.hw a.hr a.hw = false := by rw [b3, b4, lessB_false]; omega
        have HD1 := hide (show decide ([b.hr, b.hw] = [a.hr, a.hw]) = true by rw [b3, b4]; simp)
        have HD2 := hide (show decide ([b.k, b.x, b.j] = [a.k, a.x, a.j]) = true by rw [b5, b6, b7]; simp)
        clear b3 b4 b5 b6 b7
        have bl := accL_length b
        have bi : Is 8 (accL b) := bl
        clear hb hhh
        go_wp2_with fail
        (with_reducible refine (HK w5).mono ?_)
        rintro e w6 ⟨rfl, hb6⟩
        replace hR := hR.next hb6
        have rm := hR.m.room 0 8 (by rw [al]; decide)
        have hR7 := hR.fillM (bs := accL b) (by rw [al, bl])
        clear HK hb6 c0 q1 h1 q2 h2 q3 h3
        go_upto_region 13 with fail
        generalize w6.setCells q 0 (iV (accL b)) = w7 at *
        clear hR rm
        have hR := hR7
        clear hR7
        have HL1 := fun w => less_any b.r b.w a.r a.w w
        rw [b1] at HL1
        have HL2 := fun w => less_any b.hr b.hw a.hr a.hw w
        rw [b2] at HL2
        have hq1 := fun w => Try.eqBlt (xs := [b.hr, b.hw]) (ys := [a.hr, a.hw]) rfl rfl (wf_had bw) (wf_had hwf) w
        have hq2 := fun w => Try.eqChg (xs := [b.k, b.x, b.j]) (ys := [a.k, a.x, a.j]) rfl rfl (wf_chg bw) (wf_chg hwf) w
        obtain ⟨c0, -, -, -, -, -⟩ := hR.call
        obtain ⟨-, -, -, ⟨q1, h1⟩, ⟨q2, h2⟩, ⟨q3, h3⟩, ⟨q4, h4⟩⟩ := acc_got hR.a
        obtain ⟨e0, -, -, ⟨q5, h5⟩, ⟨q6, h6⟩, ⟨q7, h7⟩, ⟨q8, h8⟩⟩ := acc_got hR.m
        rw [be] at e0
        go_wp2_with fail
        (with_reducible refine (HL1 w7).mono ?_)
        rintro e w8 ⟨rfl, hb8⟩
        replace hR := hR.next hb8
        clear c0 q1 h1 q2 h2 q3 h3 q4 h4 e0 q5 h5 q6 h6 q7 h7 q8 h8 hb8 HL1
        obtain ⟨c0, -, -, -, -, -⟩ := hR.call
        obtain ⟨-, -, -, ⟨q1, h1⟩, ⟨q2, h2⟩, ⟨q3, h3⟩, ⟨q4, h4⟩⟩ := acc_got hR.a
        obtain ⟨e0, -, -, ⟨q5, h5⟩, ⟨q6, h6⟩, ⟨q7, h7⟩, ⟨q8, h8⟩⟩ := acc_got hR.m
        rw [be] at e0
        go_wp2_with fail
        (with_reducible refine (HL2 w8).mono ?_)
        rintro e w9 ⟨rfl, hb9⟩
        replace hR := hR.next hb9
        clear c0 q1 h1 q2 h2 q3 h3 q4 h4 e0 q5 h5 q6 h6 q7 h7 q8 h8 hb9 HL2
        obtain ⟨c0, -, -, -, -, -⟩ := hR.call
        obtain ⟨-, -, -, ⟨q1, h1⟩, ⟨q2, h2⟩, ⟨q3, h3⟩, ⟨q4, h4⟩⟩ := acc_got hR.a
        obtain ⟨e0, -, -, ⟨q5, h5⟩, ⟨q6, h6⟩, ⟨q7, h7⟩, ⟨q8, h8⟩⟩ := acc_got hR.m
        rw [be] at e0
        rw [HD1.out] at hq1
        rw [HD2.out] at hq2
        have rm := hR.a.room 0 8 (by rw [al]; decide)
        have hR9 := hR.fillA (bs := accL b) (by rw [al, bl])
        have HREL : Rel w p (w9.setCells p 0 (iV (accL b))) := ⟨b, be, bh, bw, hR9.a, hR9.under⟩
        clear hR hR9
        go_wp2_with fail
        go_roundw
        case rel => exact ⟨i + 1, by omega, by go_num, HREL⟩
        case measure => simp [intOf]; omega
    · obtain rfl : n = i := by omega
      go_wp2_with fail
      go_ret
      exact ⟨rfl, hB⟩
end Go.Proofs.Ytfcoeopemgcjlaa.ballotVows
