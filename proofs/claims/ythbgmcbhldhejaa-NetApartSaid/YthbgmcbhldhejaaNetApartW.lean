/- The walk of NetApart. -/
import Derived.Test.YthbgmcbhldhejaaNetF
import Derived.Test.YthbgmcbhldhejaaMapB
import Derived.Test.YthbgmcbhldhejaaBitsI
namespace Go.Proofs.Ythbgmcbhldhejaa.netApart
open Go.RowKit Go.Conc

attribute [local go_sem ↓] putB_fold lookB_fold
theorem mod5 (x : Int) : ∃ Q q : Nat, bits .and .i64 x 255 = (Q : Int) ∧ (Q : Int) % 5 = (q : Int) ∧ q < 5 := by
  refine ⟨(x % 256).toNat, (x % 256).toNat % 5, ?_, by omega, by omega⟩
  rw [show bits .and .i64 x 255 = x % 256 from i64_and_mask x 8 (by omega)]; omega
set_option maxRecDepth 100000 in
set_option maxHeartbeats 8000000 in
theorem walk_same (w : World) (x y : Int) (X Y a : Nat) (hx : bits .and .i64 x 255 = (X : Int)) (hX : (X : Int) % 5 = (a : Int)) (hy : bits .and .i64 y 255 = (Y : Int)) (hY : (Y : Int) % 5 = (a : Int))
    (A : Option Addr) (n c : Nat) (F : Nat → Sl) (hS : Sls w w.heap.size A n F) (hnc : n ≤ c) (hcm : c ≤ maxLen) :
    Calls Try.prog 4 #[.int .i64 x, .int .i64 y, .slice A n c] w fun e w' => e = .returned (.bool true) ∧ Below w.heap.size w w' := by
  have hn63 : n ≤ 9223372036854775807 := Nat.le_trans hnc hcm
  go_enter Try.func4, Try.ntmps4
  go_wp2_with fail
  (with_reducible refine (fit_runs w).mono ?_)
  rintro z w1 ⟨rfl, B1⟩
  by_cases h20 : 20 < n
  · have d20 : (20 : Int) < (n : Int) := by omega
    go_wp2_with fail
    go_ret
    exact ⟨rfl, B1⟩
  · have d20 : ¬ (20 : Int) < (n : Int) := by omega
    go_wp2_with fail
    (with_reducible refine (newN_runs w1 allQ).mono ?_)
    rintro z w2 ⟨b, P, C, rfl, hb, h2, B2⟩
    have B2 := B1.trans (B2.mono B1.size)
    have h2 := h2.lower B1.size
    have hb : w.heap.size ≤ b := Nat.le_trans B1.size hb
    clear B1
    go_wp2_with fail
    rw [hX, hY]
    clear hX hY hx hy
    go_loopw [8, 28] (fun s8 s28 wr => ∃ i : Nat, i ≤ n ∧ s8 = .int .i64 0 ∧ s28 = .int .i64 i ∧ NetAt wr allQ w.heap.size b P C 25 noneF ∧ Below w.heap.size w wr) (fun _ s28 _ => n - (intOf s28).toNat)
    case atStart => exact ⟨0, Nat.zero_le _, rfl, rfl, h2, B2⟩
    case round =>
      obtain ⟨i, hi, rfl, rfl, hn, hB⟩ := hrel
      by_cases hlt : i < n
      · have dl : (i : Int) < (n : Int) := by omega
        obtain ⟨b', off, rfl, hbb, hcc⟩ := (hS.keep hB).at_ (by omega)
        have k1 := hcc i hlt
        have hin := (hS.each i hlt).keep hB
        clear hcc
        generalize F i = s at *
        by_cases h100 : 100 < s.n
        · have d100 : (100 : Int) < (s.n : Int) := by omega
          go_wp2_with fail
          go_ret
          exact ⟨rfl, hB⟩
        · have d100 : ¬ (100 : Int) < (s.n : Int) := by omega
          have HS := send_none hn (a : Int) (a : Int) (by rintro ⟨_, _, h⟩; exact h rfl) s
          go_wp2_with fail
          (with_reducible refine HS.mono ?_)
          rintro z w3 ⟨rfl, rfl⟩
          clear HS
          go_wp2_with fail
          go_roundw
          case rel => go_light; exact ⟨i + 1, by omega, rfl, by go_num, hn, hB⟩
          case measure => go_light; simp [intOf]; omega
      · obtain rfl : i = n := by omega
        have hN := lenN_any hn
        rw [show sumL noneF 25 = 0 from sumL_none 25] at hN
        have da : ((a : Int) == (a : Int)) = true := by simp
        clear h2 B2
        go_wp2_with fail
        (with_reducible refine hN.mono ?_)
        rintro z w3 ⟨rfl, hb3⟩
        have B3 := hB.trans (hb3.mono hB.size)
        clear hN hb3
        go_wp2_with fail
        go_ret
        exact ⟨rfl, B3⟩
set_option maxRecDepth 100000 in
set_option maxHeartbeats 8000000 in
theorem walk_apart (w : World) (x y : Int) (X Y a d : Nat) (hx : bits .and .i64 x 255 = (X : Int)) (hX : (X : Int) % 5 = (a : Int)) (hy : bits .and .i64 y 255 = (Y : Int)) (hY : (Y : Int) % 5 = (d : Int)) (ha : a < 5) (hd : d < 5) (hne : a ≠ d)
    (A : Option Addr) (n c : Nat) (F : Nat → Sl) (hS : Sls w w.heap.size A n F) (hnc : n ≤ c) (hcm : c ≤ maxLen) :
    Calls Try.prog 4 #[.int .i64 x, .int .i64 y, .slice A n c] w fun e w' => e = .returned (.bool true) ∧ Below w.heap.size w w' := by
  have hn63 : n ≤ 9223372036854775807 := Nat.le_trans hnc hcm
  obtain ⟨o1, o2⟩ := off_ne ha hd hne
  go_enter Try.func4, Try.ntmps4
  go_wp2_with fail
  (with_reducible refine (fit_runs w).mono ?_)
  rintro z w1 ⟨rfl, B1⟩
  by_cases h20 : 20 < n
  · have d20 : (20 : Int) < (n : Int) := by omega
    go_wp2_with fail
    go_ret
    exact ⟨rfl, B1⟩
  · have d20 : ¬ (20 : Int) < (n : Int) := by omega
    go_wp2_with fail
    (with_reducible refine (newN_runs w1 allQ).mono ?_)
    rintro z w2 ⟨b, P, C, rfl, hb, h2, B2⟩
    have B2 := B1.trans (B2.mono B1.size)
    have h2 := h2.lower B1.size
    have hb : w.heap.size ≤ b := Nat.le_trans B1.size hb
    clear B1
    go_wp2_with fail
    rw [hX, hY]
    clear hX hY hx hy
    go_loopw [8, 28] (fun s8 s28 wr => ∃ (i : Nat) (Gs : List Sl), i ≤ n ∧ s28 = .int .i64 i ∧ s8 = .int .i64 (Gs.length : Int) ∧ Gs.length = min i 8 ∧ NetAt wr allQ w.heap.size b P C 25 (upd noneF (a * 5 + d) Gs) ∧ Below w.heap.size w wr) (fun _ s28 _ => n - (intOf s28).toNat)
    case atStart => exact ⟨0, [], Nat.zero_le _, rfl, rfl, rfl, by rw [show upd noneF (a * 5 + d) [] = noneF by funext l; unfold upd noneF; split <;> rfl]; exact h2, B2⟩
    case round =>
      obtain ⟨i, Gs, hi, rfl, rfl, hl, hn, hB⟩ := hrel
      by_cases hlt : i < n
      · have dl : (i : Int) < (n : Int) := by omega
        obtain ⟨b', off, rfl, hbb, hcc⟩ := (hS.keep hB).at_ (by omega)
        have k1 := hcc i hlt
        have hin := (hS.each i hlt).keep hB
        clear hcc
        generalize F i = s at *
        by_cases h100 : 100 < s.n
        · have d100 : (100 : Int) < (s.n : Int) := by omega
          go_wp2_with fail
          go_ret
          exact ⟨rfl, hB⟩
        · have d100 : ¬ (100 : Int) < (s.n : Int) := by omega
          have HS := hide (send_some hn ha hd hne s hin hB.size (by omega) (fun _ _ => trivial))
          obtain ⟨K, hK⟩ : ∃ K, Gs.length = K := ⟨_, rfl⟩
          rw [hK] at hl
          rw [hK]
          have HK := hide hK
          clear hK hin
          have hK63 : K ≤ 100 := by omega
          have HM := hide hl
          clear hl
          go_wp2_with fail
          (with_reducible refine HS.out.mono ?_)
          rintro z w3 hx
          unfold SendIs at hx
          rw [upd_at, HK.out] at hx
          clear HS
          by_cases h8 : K < 8
          · rw [if_pos h8] at hx
            obtain ⟨rfl, ⟨t, _, h3⟩, k3⟩ := hx
            rw [upd_upd] at h3
            have B3 := below_net hn hB o1 o2 k3
            have HL : Hid ((Gs ++ [t]).length = K + 1) := hide (by rw [List.length_append, HK.out]; rfl)
            go_wp2_with fail
            go_roundw
            case rel => go_light; exact ⟨i + 1, Gs ++ [t], by omega, by go_num, by rw [HL.out]; go_num, by rw [HL.out]; have := HM.out; omega, h3, B3⟩
            case measure => go_light; simp [intOf]; omega
          · rw [if_neg h8] at hx
            obtain ⟨rfl, h3, k3⟩ := hx
            have B3 := below_only hB k3 (fun _ e => e.elim) hB.size
            go_wp2_with fail
            go_roundw
            case rel => go_light; exact ⟨i + 1, Gs, by omega, by go_num, by rw [HK.out], by rw [HK.out]; have := HM.out; omega, h3, B3⟩
            case measure => go_light; simp [intOf]; omega
      · obtain rfl : i = n := by omega
        have da : ((a : Int) == (d : Int)) = false := by simp; omega
        obtain ⟨K, hK⟩ : ∃ K, Gs.length = K := ⟨_, rfl⟩
        rw [hK] at hl
        rw [hK]
        have HK := hide hK
        have HM := hide hl
        have hK8 : K ≤ 8 := by omega
        clear hK hl h2 B2
        have hkw : (Lit.int .i64 (K : Int)).wf = true := WalkArith.wf_i64 (by omega)
        generalize hFs : upd noneF (a * 5 + d) Gs = Fs at hn
        have hlen : ∀ l, (Fs l).length = if l = a * 5 + d then K else 0 := fun l => by
          rw [← hFs]
          unfold upd
          split
          · exact HK.out
          · rfl
        have HL := hide hlen
        have HS : Hid (sumL Fs 25 = K) := hide (by
          have h := sumL_upd noneF (a * 5 + d) Gs o2 (k := 25) o1
          have h0 : sumL noneF 25 = 0 := sumL_none 25
          have h1 : (noneF (a * 5 + d)).length = 0 := rfl
          have h2 := HK.out
          rw [hFs] at h
          omega)
        clear hlen hFs
        rename World => wb
        go_wp2_with fail
        go_loopw [53] (fun s53 wr => ∃ i : Nat, i ≤ 5 ∧ s53 = .int .i64 i ∧ NetAt wr allQ w.heap.size b P C 25 Fs ∧ Below w.heap.size w wr) (fun s53 _ => 5 - (intOf s53).toNat)
        case atStart => exact ⟨0, by omega, rfl, hn, hB⟩
        case round =>
          obtain ⟨p, hp, rfl, hn, hB⟩ := hrel
          by_cases hp5 : p < 5
          · have dp : (p : Int) < 5 := by omega
            rename World => wc
            go_wp2_with fail
            go_loopw [56] (fun s56 wr => ∃ q : Nat, q ≤ 5 ∧ s56 = .int .i64 q ∧ NetAt wr allQ w.heap.size b P C 25 Fs ∧ Below w.heap.size w wr) (fun s56 _ => 5 - (intOf s56).toNat)
            case atStart => exact ⟨0, by omega, rfl, hn, hB⟩
            case round =>
              obtain ⟨q, hq, rfl, hn, hB⟩ := hrel
              by_cases hq5 : q < 5
              · have dq : (q : Int) < 5 := by omega
                have hW := way_any hn (p : Int) (q : Int)
                by_cases e : p = q
                · rw [wayA_none (by rintro ⟨_, _, h⟩; omega)] at hW
                  have de : ((p : Int) != (q : Int)) = false := by simp; omega
                  clear e
                  go_wp2_with fail
                  (with_reducible refine hW.mono ?_)
                  rintro z w3 ⟨rfl, rfl⟩
                  clear hW
                  go_wp2_with fail
                  go_roundw
                  case rel => go_light; exact ⟨q + 1, by omega, by go_num, hn, hB⟩
                  case measure => go_light; simp [intOf]; omega
                · rw [wayA_some hp5 hq5 e] at hW
                  have de : ((p : Int) != (q : Int)) = true := by simp; omega
                  obtain ⟨q1, q2⟩ := off_ne hp5 hq5 e
                  have hX := Len_runs _ _ _ _ 8 _ (hn.box _ q1 q2)
                  rw [HL.out] at hX
                  have hmm := @run_makeMap Try.prog
                  obtain ⟨m1, m2, u1, u2, l1, l2, hbm⟩ := two_made wr (K : Int) hkw
                  have hn3 := hn.below hbm
                  have hB3 := hB.trans (hbm.mono hB.size)
                  clear hn hB hbm
                  by_cases e1 : p = a
                  · by_cases e2 : q = d
                    · rw [if_pos (by omega)] at hX
                      have d1 : ((p : Int) == (a : Int)) = true := by simp; omega
                      have d2 : ((q : Int) == (d : Int)) = true := by simp; omega
                      clear e1 e2 q1 q2 e
                      go_wp2_with fail
                      (with_reducible refine hW.mono ?_)
                      rintro z w3 ⟨rfl, rfl⟩
                      clear hW
                      go_wp2_with fail
                      (with_reducible refine hX.mono ?_)
                      rintro z w3 ⟨rfl, rfl⟩
                      clear hX
                      go_wp2_with fail
                      go_roundw
                      case rel => go_light; exact ⟨q + 1, by omega, by go_num, hn3, hB3⟩
                      case measure => go_light; simp [intOf]; omega
                    · rw [if_neg (by omega)] at hX
                      have d1 : ((p : Int) == (a : Int)) = true := by simp; omega
                      have d2 : ((q : Int) == (d : Int)) = false := by simp; omega
                      clear e1 e2 q1 q2 e
                      go_wp2_with fail
                      (with_reducible refine hW.mono ?_)
                      rintro z w3 ⟨rfl, rfl⟩
                      clear hW
                      go_wp2_with fail
                      (with_reducible refine hX.mono ?_)
                      rintro z w3 ⟨rfl, rfl⟩
                      clear hX
                      go_wp2_with fail
                      go_roundw
                      case rel => go_light; exact ⟨q + 1, by omega, by go_num, hn3, hB3⟩
                      case measure => go_light; simp [intOf]; omega
                  · rw [if_neg (by omega)] at hX
                    have d1 : ((p : Int) == (a : Int)) = false := by simp; omega
                    clear e1 q1 q2 e
                    go_wp2_with fail
                    (with_reducible refine hW.mono ?_)
                    rintro z w3 ⟨rfl, rfl⟩
                    clear hW
                    go_wp2_with fail
                    (with_reducible refine hX.mono ?_)
                    rintro z w3 ⟨rfl, rfl⟩
                    clear hX
                    go_wp2_with fail
                    go_roundw
                    case rel => go_light; exact ⟨q + 1, by omega, by go_num, hn3, hB3⟩
                    case measure => go_light; simp [intOf]; omega
              · obtain rfl : q = 5 := by omega
                go_wp2_with fail
                go_roundw
                case rel => go_light; exact ⟨p + 1, by omega, by go_num, hn, hB⟩
                case measure => go_light; simp [intOf]; omega
          · obtain rfl : p = 5 := by omega
            have hN := lenN_any hn
            have hs : sumL Fs 25 = K := HS.out
            rw [hs] at hN
            have hcm : (if (8 : Int) < (i : Int) then (8 : Int) else (i : Int)) = (K : Int) := by have := HM.out; split <;> omega
            clear hs
            go_wp2_with fail
            (with_reducible refine hN.mono ?_)
            rintro z w3 ⟨rfl, hb3⟩
            have B3 := hB.trans (hb3.mono hB.size)
            clear hN hb3
            go_wp2_with fail
            go_ret
            exact ⟨rfl, B3⟩
set_option maxRecDepth 100000 in
theorem walk (w : World) (x : Int) (_ : -9223372036854775808 ≤ x) (_ : x ≤ 9223372036854775807) (y : Int) (_ : -9223372036854775808 ≤ y) (_ : y ≤ 9223372036854775807)
    (A : Option Addr) (n c : Nat) (F : Nat → Sl) (hS : Sls w w.heap.size A n F) (hnc : n ≤ c) (hcm : c ≤ maxLen) :
    Calls Try.prog 4 #[.int .i64 x, .int .i64 y, .slice A n c] w fun e w' => e = .returned (.bool true) ∧ Below w.heap.size w w' := by
  obtain ⟨X, a, hx, hX, ha⟩ := mod5 x
  obtain ⟨Y, d, hy, hY, hd⟩ := mod5 y
  by_cases h : a = d
  · subst h
    exact walk_same w x y X Y a hx hX hy hY A n c F hS hnc hcm
  · exact walk_apart w x y X Y a d hx hX hy hY ha hd h A n c F hS hnc hcm
end Go.Proofs.Ythbgmcbhldhejaa.netApart
