/- The walk of WalAny. -/
import Derived.Test.YtccdifplpbnclaaDoorWalH
import Derived.Test.YtccdifplpbnclaaDoorBitsI
namespace Go.Proofs.YtccdifplpbnclaaDoor.walAny
open Go.RowKit Go.Maps

theorem wrt_idle {f : Sects} {ws : List (Int × List Int)} {lf x : Int} {zs : List Int} (h0 : 0 ≤ x) (h1 : x < 2048) (hz : zs.length ≤ 64) : wrtS x zs ⟨f, ws, false, lf, false⟩ = (0, ⟨f, ws ++ [(x, padB zs)], false, lf, false⟩) := by
  unfold wrtS takS
  rw [if_neg (by omega)]
  simp
theorem sync_fin {f : Sects} (hf : FinF f) : ∀ {ws : List (Int × List Int)}, (∀ p ∈ ws, 0 ≤ p.1 ∧ p.1 < 2048) → FinF (syncF f ws) := by
  intro ws
  induction ws generalizing f with
  | nil => intro _; exact hf
  | cons p ws ih =>
    intro h
    have hp := h p (by simp)
    refine ih (f := updF f p.1 p.2) (fun y hy => ?_) (fun q hq => h q (by simp [hq]))
    unfold updF
    rw [if_neg (by omega)]
    exact hf y hy
theorem SlIn.cut {w : World} {B : Nat} {s : Sl} (h : SlIn w B s) {m : Nat} (hm : m ≤ s.n) : SlIn w B ⟨s.A, m, s.c, s.zs.take m⟩ := by
  have hl := h.len
  refine ⟨⟨by rw [u8V_length, List.length_take]; show min m s.zs.length = m * 1; omega, fun h0 => ?_⟩, Nat.le_trans hm h.n_le, h.c_le, fun z hz => h.wf z (List.mem_of_mem_take hz)⟩
  have h0 : 0 < m := h0
  obtain ⟨ad, e, hb, hc⟩ := h.reads.2 (by omega)
  refine ⟨ad, e, hb, fun j u hu => hc j u ?_⟩
  rw [u8V_take, List.getElem?_take] at hu
  split at hu
  · exact hu
  · cases hu
set_option maxRecDepth 100000 in
set_option maxHeartbeats 8000000 in
theorem walk (w : World) (hT : Laid w) (A : Option Addr) (n c : Nat) (zs : List Int) (hr : Reads w w.heap.size 1 A n (zs.map (Value.int .i64))) (hnc : n ≤ c) (hcm : c ≤ maxLen) (_ : c * 8 ≤ 140737488351232) (_ : ∀ z ∈ zs, (Lit.int .i64 z).wf = true)
    (A' : Option Addr) (n' c' : Nat) (F : Nat → Sl) (hS : Sls w w.heap.size A' n' F) (hnc' : n' ≤ c') (hcm' : c' ≤ maxLen) :
    Calls Tryd.prog 6 #[.slice A n c, .slice A' n' c'] w fun e w' => e = .returned (.bool true) ∧ Below w.heap.size w w' := by
  have hn63 : n ≤ 9223372036854775807 := Nat.le_trans hnc hcm
  have hn63' : n' ≤ 9223372036854775807 := Nat.le_trans hnc' hcm'
  go_enter Tryd.func6, Tryd.ntmps6
  go_wp2_with fail
  (with_reducible refine (fit_runs w hT).mono ?_)
  rintro x w1 ⟨rfl, B1⟩
  by_cases h40 : 40 < n
  · have d40 : (40 : Int) < (n : Int) := by omega
    go_wp2_with fail
    go_ret
    exact ⟨rfl, B1⟩
  · have d40 : ¬ (40 : Int) < (n : Int) := by omega
    by_cases hnn : n' < n
    · have dnn : (n' : Int) < (n : Int) := by omega
      go_wp2_with fail
      go_ret
      exact ⟨rfl, B1⟩
    · have dnn : ¬ (n' : Int) < (n : Int) := by omega
      go_wp2_with fail
      (with_reducible refine (few_runs w1 A' n' c' w.heap.size F (hS.keep B1) hn63').mono ?_)
      rintro x w1' ⟨hx, rfl⟩
      rcases hx with rfl | ⟨rfl, _⟩
      · go_wp2_with fail
        go_ret
        exact ⟨rfl, B1⟩
      · go_wp2_with fail
        (with_reducible refine (atL_new (w0 := w) (L := fun _ => False) B1 (fun _ e => e.elim)).mono ?_)
        rintro x w2 ⟨d, rfl, D2, _⟩
        clear B1
        go_wp2_with fail
        go_loopw [6, 7, 8, 35] (fun _ _ _ s35 wr => ∃ (j : Nat) (ws : List (Int × List Int)), j ≤ n ∧ s35 = .int .i64 j ∧ AtL w (fun _ => False) wr d j ⟨fun _ => zs64, ws, false, 0, false⟩ ∧ ∀ p ∈ ws, 0 ≤ p.1 ∧ p.1 < 2048) (fun _ _ _ s35 _ => n - (intOf s35).toNat)
        case atStart => exact ⟨0, [], Nat.zero_le _, rfl, D2, by simp⟩
        case round =>
          obtain ⟨j, ws, hj, rfl, G, hws⟩ := hrel
          have hB := G.below
          by_cases hlt : j < n
          · have dl : (j : Int) < (n : Int) := by omega
            obtain ⟨b, off, rfl, _, hc⟩ := (hr.below hB).ints (by omega)
            have k1 := hc j hlt
            clear hc
            generalize zs.getD j 0 = z at k1
            obtain ⟨b', off', rfl, hb', hc'⟩ := (hS.keep hB).at_ (by omega)
            have k2 := hc' j (by omega)
            clear hc'
            have hin := (hS.each j (by omega)).keep hB
            have hle := hin.n_le
            have hce := hin.c_le
            have hce : (F j).c ≤ 9223372036854775807 := hce
            obtain ⟨q, hq, hq1⟩ : ∃ q : Nat, bits .and .i64 z 15 = (q : Int) ∧ q < 16 := ⟨(z % 16).toNat, by rw [show bits .and .i64 z 15 = z % 16 from i64_and_mask z 4 (by omega)]; omega, by omega⟩
            have hm1 : (if (64 : Int) < ((F j).n : Int) then 64 else ((F j).n : Int)) = ((min (F j).n 64 : Nat) : Int) := by split <;> omega
            have hm2 : (if ((F j).n : Int) < 64 then ((F j).n : Int) else 64) = ((min (F j).n 64 : Nat) : Int) := by split <;> omega
            have hml : min (F j).n 64 ≤ (F j).n := Nat.min_le_left _ _
            have hm64 : min (F j).n 64 ≤ 64 := Nat.min_le_right _ _
            generalize min (F j).n 64 = m at *
            have hcut := SlIn.cut hin hml
            have hzl : ((F j).zs.take m).length ≤ 64 := by rw [List.length_take]; omega
            have hW := G.write (by omega) (q : Int) (by omega) (by omega) hcut
            rw [wrt_idle (by omega) (by omega) hzl] at hW
            go_wp2_with fail
            (with_reducible refine hW.mono ?_)
            rintro x w3 ⟨rfl, G3, _⟩
            have hws3 : ∀ p ∈ ws ++ [((q : Int), padB ((F j).zs.take m))], 0 ≤ p.1 ∧ p.1 < 2048 := by
              intro p hp
              rcases List.mem_append.1 hp with hp | hp
              · exact hws p hp
              · obtain rfl := List.mem_singleton.1 hp
                show 0 ≤ (q : Int) ∧ (q : Int) < 2048
                omega
            clear hW hcut hin hm1 hm2 G
            go_wp2_with fail
            go_roundw
            case rel => go_light; exact ⟨j + 1, _, by omega, by go_num, G3, hws3⟩
            case measure => go_light; simp [intOf]; omega
          · obtain rfl : j = n := by omega
            have hSy := G.sync (by omega)
            have es : synS ⟨fun _ => zs64, ws, false, 0, false⟩ = (0, idleS (syncF (fun _ => zs64) ws) 0) := by simp [synS, idleS]
            rw [es] at hSy
            have hF := sync_fin (f := fun _ => zs64) (fun _ _ => rfl) hws
            go_wp2_with fail
            (with_reducible refine hSy.mono ?_)
            rintro x w3 ⟨rfl, G3, _⟩
            clear hSy es hws G
            go_wp2_with fail
            (with_reducible refine (G3.opens (by omega) hF hT).mono ?_)
            rintro x w4 ⟨l, v, Fs, f', L, rfl, G4, _, _, Rc, hO, hLF, _⟩
            have G5 : LogSt w L w4 d (j + 2048) l (zsOf Fs) false := ⟨f', 0, by rw [zsOf_len]; exact G4, hLF, hO.fits hF⟩
            clear G4 hO hLF G3 hF
            go_wp2_with fail
            (with_reducible refine (G5.disk.opens (by omega) hT).mono ?_)
            rintro x w5 ⟨l5, v5, Fs5, L5, rfl, eF5, G6, _, _, Rc5, kp⟩
            have Rc6 := kp.recs Rc (fun b hb => hb.2)
            obtain ⟨A4, c4, rfl, hl4, hc4, hR4⟩ := Rc6.read
            obtain ⟨A5, c5, rfl, hl5, hc5, hR5⟩ := Rc5.read
            have hl4' : Fs.length ≤ 9223372036854775807 := Nat.le_trans hl4 hc4
            have hl5' : Fs5.length ≤ 9223372036854775807 := Nat.le_trans hl5 hc5
            have hs := same_runs w5 A4 A5 Fs Fs5 Fs.length Fs5.length c4 c5 rfl rfl hR4 hR5 hl4' hl5'
            rw [show decide (zsOf Fs = zsOf Fs5) = true from decide_eq_true eF5.symm] at hs
            clear Rc6 Rc5 Rc kp
            go_wp2_with fail
            (with_reducible refine hs.mono ?_)
            rintro x w6 ⟨rfl, hB6⟩
            have G7 := G6.grow hB6
            go_wp2_with fail
            go_ret
            exact ⟨rfl, G7.below⟩
end Go.Proofs.YtccdifplpbnclaaDoor.walAny
