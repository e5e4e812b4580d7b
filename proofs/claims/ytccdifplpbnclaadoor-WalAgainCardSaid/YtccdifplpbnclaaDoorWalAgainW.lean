/- The walk of WalAgain. -/
import Derived.Test.YtccdifplpbnclaaDoorWalK
namespace Go.Proofs.YtccdifplpbnclaaDoor.walAgain
open Go.RowKit Go.Maps

attribute [local go_sem ↓] appLF_fold
attribute [local go_sem] appLF_has
set_option maxRecDepth 100000 in
set_option maxHeartbeats 16000000 in
theorem walk (w : World) (hT : Laid w) (A : Option Addr) (n c : Nat) (F : Nat → Sl2) (hS : Sl3s w w.heap.size A n F) (hnc : n ≤ c) (hcm : c ≤ maxLen)
    (A1 : Option Addr) (n1 c1 : Nat) (zs1 : List Int) (hr1 : Reads w w.heap.size 1 A1 n1 (zs1.map (Value.int .i64))) (hnc1 : n1 ≤ c1) (hcm1 : c1 ≤ maxLen) (_ : c1 * 8 ≤ 140737488351232) (_ : ∀ z ∈ zs1, (Lit.int .i64 z).wf = true)
    (A2 : Option Addr) (n2 c2 : Nat) (zs2 : List Int) (hr2 : Reads w w.heap.size 1 A2 n2 (zs2.map (Value.int .i64))) (hnc2 : n2 ≤ c2) (hcm2 : c2 ≤ maxLen) (_ : c2 * 8 ≤ 140737488351232) (hwf2 : ∀ z ∈ zs2, (Lit.int .i64 z).wf = true) :
    Calls Tryd.prog 4 #[.slice A n c, .slice A1 n1 c1, .slice A2 n2 c2] w fun e w' => e = .returned (.bool true) ∧ Below w.heap.size w w' := by
  have hn63 : n ≤ 9223372036854775807 := Nat.le_trans hnc hcm
  have hn163 : n1 ≤ 9223372036854775807 := Nat.le_trans hnc1 hcm1
  have hn263 : n2 ≤ 9223372036854775807 := Nat.le_trans hnc2 hcm2
  go_enter Tryd.func4, Tryd.ntmps4
  go_wp2_with fail
  (with_reducible refine (fit_runs w hT).mono ?_)
  rintro x w1 ⟨rfl, B1⟩
  by_cases h8 : 8 < n
  · have d8 : (8 : Int) < (n : Int) := by omega
    go_wp2_with fail
    go_ret
    exact ⟨rfl, B1⟩
  have d8 : ¬ (8 : Int) < (n : Int) := by omega
  by_cases hn1 : n1 < n
  · have d1 : (n1 : Int) < (n : Int) := by omega
    go_wp2_with fail
    go_ret
    exact ⟨rfl, B1⟩
  have d1 : ¬ (n1 : Int) < (n : Int) := by omega
  by_cases hn2 : n2 < n
  · have d2 : (n2 : Int) < (n : Int) := by omega
    go_wp2_with fail
    go_ret
    exact ⟨rfl, B1⟩
  have d2 : ¬ (n2 : Int) < (n : Int) := by omega
  go_wp2_with fail
  (with_reducible refine (disk_new (w0 := w) (L := fun _ => False) B1 (fun b e => e.elim)).mono ?_)
  rintro x w2 ⟨d, rfl, D2, _⟩
  have hH2 := HadSt.nil w w2 (fun _ => False)
  clear B1
  go_wp2_with fail
  go_loopw [8, 43] (fun s8 s43 wr => ∃ (i : Nat) (L : Nat → Prop) (R : List (List Int)), i ≤ n ∧ s43 = .int .i64 i ∧ DiskSt w L wr d (i * 4224 + used R) R ∧ HadSt w wr L s8 R) (fun _ s43 _ => n - (intOf s43).toNat)
  case atStart => exact ⟨0, fun _ => False, [], Nat.zero_le _, rfl, D2, hH2⟩
  case round =>
    obtain ⟨i, L, R, hi, rfl, D, hH⟩ := hrel
    have hfit := D.fits
    have hge := used_ge R
    have hB := D.below
    by_cases hlt : i < n
    · have dl : (i : Int) < (n : Int) := by omega
      obtain ⟨b, off, rfl, hb, hc⟩ := (hS.keep hB).at_ (by omega)
      have k1 := hc i hlt
      have hin2 := hS.each i hlt
      clear hc
      generalize F i = s2 at k1 hin2
      obtain ⟨A', n', c', F'⟩ := s2
      obtain ⟨hSl, hnc', hcm'⟩ := hin2
      dsimp only at k1 hSl hnc' hcm'
      have hn63' : n' ≤ 9223372036854775807 := Nat.le_trans hnc' hcm'
      have hfew := few_runs wr A' n' c' w.heap.size F' (hSl.keep hB) hn63'
      go_wp2_with fail
      (with_reducible refine hfew.mono ?_)
      rintro x wr' ⟨hx, rfl⟩
      clear hfew
      rcases hx with rfl | ⟨rfl, hn⟩
      · go_wp2_with fail
        go_ret
        exact ⟨rfl, hB⟩
      · go_wp2_with fail
        (with_reducible refine (D.opens (by omega) hT).mono ?_)
        rintro x w3 ⟨l, v, Fs, L3, rfl, eF, G3, i3, _, Rc3, kp3⟩
        have hH3 := (hH.kept kp3).more i3
        have hB3 := G3.below
        clear D hH kp3 i3 hB
        obtain ⟨Hs, hHs, RH⟩ := hH3.recs hB3
        have hlH : Hs.length = R.length := by rw [← hHs, zsOf_len]
        have hlF : Fs.length = R.length := by rw [← eF, zsOf_len]
        obtain ⟨A8, c8, e8, hl8, hc8, hRH⟩ := RH.read
        rw [hlH] at e8
        subst e8
        obtain ⟨A6, c6, e6, hl6, hc6, hR6⟩ := Rc3.read
        rw [hlF] at e6
        subst e6
        have hs := same_runs w3 A6 A8 Fs Hs R.length R.length c6 c8 hlF hlH hR6 hRH (by omega) (by omega)
        rw [show decide (zsOf Fs = zsOf Hs) = true from decide_eq_true (by rw [eF, hHs])] at hs
        clear RH Rc3 hRH hR6
        go_wp2_with fail
        (with_reducible refine hs.mono ?_)
        rintro x w4 ⟨rfl, hB4⟩
        have G4 := G3.grow hB4
        have hH4 := hH3.below hB4
        clear hs G3 hH3 hB4 hB3 hHs hlH eF hlF
        obtain ⟨ab, ao, rfl, _, hac⟩ := (hr1.below G4.below).ints (by omega)
        have ka := hac i (by omega)
        clear hac
        generalize zs1.getD i 0 = z at ka
        obtain ⟨q, hq, hq1⟩ : ∃ q : Nat, bits .and .i64 z 63 = (q : Int) ∧ q < 64 := ⟨(z % 64).toNat, by rw [show bits .and .i64 z 63 = z % 64 from i64_and_mask z 6 (by omega)]; omega, by omega⟩
        have hAr := G4.arms (q : Int) (by omega) (by omega)
        have hi1 : (i : Int) < (n1 : Int) := by omega
        go_wp2_with fail
        (with_reducible refine hAr.mono ?_)
        rintro x w5 ⟨⟨vx, rfl⟩, G5, kp5⟩
        have hH5 := hH4.kept kp5
        clear hAr G4 hH4 kp5 hq ka k1
        have e0 : i * 4224 + used R + 2048 = i * 4224 + 2048 + used R := by omega
        rw [e0] at G5
        clear e0
        go_wp2_with fail
        go_loopw [8, 14, 15, 74] (fun s8 s14 s15 s74 wr => ∃ (j : Nat) (L : Nat → Prop) (R : List (List Int)), j ≤ n' ∧ s74 = .int .i64 j ∧ s14 = .slice none 0 0 ∧ s15 = .bool false ∧ LogSt w L wr d (i * 4224 + 2048 + used R) l R true ∧ HadSt w wr L s8 R) (fun _ _ _ s74 _ => n' - (intOf s74).toNat)
        case atStart => exact ⟨0, L3, R, Nat.zero_le _, rfl, rfl, rfl, G5, hH5⟩
        case round =>
          clear G5 hH5 hfit hge
          obtain ⟨j, L, R, hj, rfl, rfl, rfl, G, hH⟩ := hrel
          have hfit := G.fits
          have hge := used_ge R
          have hB := G.below
          by_cases hjn : j < n'
          · have dj : (j : Int) < (n' : Int) := by omega
            obtain ⟨b', off', rfl, _, hc⟩ := (hSl.keep hB).at_ (by omega)
            have k1 := hc j hjn
            have hin0 := hSl.each j hjn
            have hin := hin0.up hB
            have hcl := Nat.le_trans hin.n_le hin.c_le
            have hcl : (F' j).n ≤ 9223372036854775807 := hcl
            clear hc
            by_cases h3 : 3000 < (F' j).n
            · have d3 : (3000 : Int) < ((F' j).n : Int) := by omega
              go_wp2_with fail
              go_ret
              exact ⟨rfl, hB⟩
            · have d3 : ¬ (3000 : Int) < ((F' j).n : Int) := by omega
              have hp := G.puts (by omega) hT hin
              go_wp2_with fail
              (with_reducible refine hp.mono ?_)
              rintro x wa ⟨kp, hc⟩
              have hH := hH.kept kp
              rcases hc with ⟨_, h, _⟩ | ⟨rfl, _, _, G4⟩ | ⟨rfl, _, _, hC⟩ | ⟨rfl, h3n, _, G4⟩
              · omega
              · have hC := G4.cr.more (K' := i * 4224 + 2048 + used R + 64) (by omega)
                clear hp G G4 hin kp
                have hBW := hC.below
                have hCd := hC.drew
                have hHd := hH.below (Below.refl _ _).drew
                obtain ⟨mb, mo, rfl, _, hmc⟩ := (hr2.below hCd.below).ints (by omega)
                have km := hmc i (by omega)
                clear hmc
                have hmb : -9223372036854775808 ≤ zs2.getD i 0 ∧ zs2.getD i 0 ≤ 9223372036854775807 := by
                  have hl : i < zs2.length := by have := hr2.1; rw [List.length_map] at this; omega
                  have := bounds_i64 (hwf2 zs2[i] (List.getElem_mem _))
                  rw [List.getD_eq_getElem?_getD, List.getElem?_eq_getElem hl]
                  exact this
                generalize zs2.getD i 0 = m at km hmb
                obtain ⟨hm0, hm1⟩ := hmb
                obtain ⟨t, ht, ht1⟩ : ∃ t : Nat, bits .and .i64 (m / 256) 7 = (t : Int) ∧ t < 8 := ⟨(m / 256 % 8).toNat, by rw [show bits .and .i64 (m / 256) 7 = m / 256 % 8 from i64_and_mask (m / 256) 3 (by omega)]; omega, by omega⟩
                obtain ⟨u, hu, hu1⟩ : ∃ u : Nat, bits .and .i64 (m / 2048) 63 = (u : Int) ∧ u < 64 := ⟨(m / 2048 % 64).toNat, by rw [show bits .and .i64 (m / 2048) 63 = m / 2048 % 64 from i64_and_mask (m / 2048) 6 (by omega)]; omega, by omega⟩
                have hw : IntKind.i64.wrap ((t : Int) - 1) = (t : Int) - 1 := IntWalk.i64_in _ (by omega)
                have hi2 : (i : Int) < (n2 : Int) := by omega
                have hCr := hCd.crash (by omega) m ((t : Int) - 1) u hm0 hm1 (by omega) (by omega) (by omega) (by omega)
                clear hC hH hCd
                go_upto_region 27 with fail
                refine wp_region_still_tail 18 (by kernel_rfl) (by kernel_rfl) ?_
                simp only [List.take_succ_cons, List.take_zero, List.drop_succ_cons, List.drop_zero]
                change wpStill _ _ wa.drew _ _ _
                repeat still_step
                refine wpStill_nil ?_
                change wpList _ _ _ _ _ wa.drew
                generalize wa.drew = w4 at hCr hHd km
                go_wp2_with fail
                (with_reducible refine hCr.mono ?_)
                rintro x w5 ⟨⟨vx, rfl⟩, D5, kp5⟩
                have hH5 := hHd.kept kp5
                clear hCr hHd km ht hu hw
                go_wp2_with fail
                (with_reducible refine (D5.opens (by omega) hT).mono ?_)
                rintro x w6 ⟨l6, v6, Fs6, L6, rfl, eF6, G6, i6, _, Rc6, kp6⟩
                have hH6 := (hH5.kept kp6).more i6
                have hB6 := G6.below
                have D6 := G6.disk
                clear G6 D5 hH5 kp5 kp6 i6
                obtain ⟨Hs, hHs, RH⟩ := hH6.recs hB6
                have hlH : Hs.length = R.length := by rw [← hHs, zsOf_len]
                have hlF : Fs6.length = R.length := by rw [← eF6, zsOf_len]
                obtain ⟨A8, c8, e8, hl8, hc8, hRH⟩ := RH.read
                rw [hlH] at e8
                subst e8
                obtain ⟨A6, c6, e6, hl6, hc6, hR6⟩ := Rc6.read
                rw [hlF] at e6
                subst e6
                obtain ⟨ha1, hq1⟩ := app_nil RH hlH (by omega)
                generalize hpp1 : appLP w6 (.slice none 0 0) (.slice A8 R.length c8) = p1 at hq1
                obtain ⟨v11, w11⟩ := p1
                obtain ⟨R11, hB11⟩ := hq1 _ rfl
                dsimp only at R11 hB11
                have hs6 := hB6.size
                have hs11 := hB11.size
                have B11 := hB6.trans (hB11.mono hs6)
                have hsep := sep_new (hin0.keep B11) (fun g hg => Nat.le_trans hs6 (own_base R11.own g hg))
                have hlH' : Hs.length ≤ 90000 := by omega
                obtain ⟨ha2, hq2⟩ := app_snoc R11 (hin0.up B11).ok hsep hlH' hs11 trivial
                generalize hpp2 : appLP (w11.alloc (.cells #[.slice (F' j).A (F' j).n (F' j).c] 33)) v11 (.slice (some ⟨w11.heap.size, 0, none⟩) 1 1) = p2 at hq2
                obtain ⟨v13, w13⟩ := p2
                obtain ⟨R13, g13, _⟩ := hq2 _ rfl
                dsimp only at R13 g13
                have hob := own_base R11.own
                have B13 : Below w6.heap.size w6 w13 := (hB11.alloc (by omega) (.cells #[.slice (F' j).A (F' j).n (F' j).c] 33)).grown g13 (by simp; omega) hob
                obtain ⟨A13, c13, e13, hl13, hc13, hR13⟩ := R13.read
                have hl14 : (Hs ++ [F' j]).length = R.length + 1 := by simp [hlH]
                rw [hl14] at e13
                subst e13
                have hs := same_runs w13 A6 A13 Fs6 (Hs ++ [F' j]) R.length (R.length + 1) c6 c13 hlF hl14 (hR6.below B13) hR13 (by omega) (by omega)
                rw [show decide (zsOf Fs6 = zsOf (Hs ++ [F' j])) = false from by
                  simp only [decide_eq_false_iff_not]
                  intro e
                  have := congrArg List.length e
                  rw [zsOf_len, zsOf_len, hl14] at this
                  omega] at hs
                have hRH13 := hRH.below B13
                have hR613 := hR6.below B13
                have D13 := D6.grow B13
                have hH13 := hH6.below B13
                clear R11 R13 hq1 hq2 g13 hob hsep hR13 B11 hB11 RH Rc6 D6 hH6 hRH hR6
                go_wp2_with fail
                (with_reducible refine hs.mono ?_)
                rintro x w14 ⟨rfl, hB14⟩
                have hs2 := same_runs w14 A6 A8 Fs6 Hs R.length R.length c6 c8 hlF hlH (hR613.below hB14) (hRH13.below hB14) (by omega) (by omega)
                rw [show decide (zsOf Fs6 = zsOf Hs) = true from decide_eq_true (by rw [eF6, hHs])] at hs2
                have D14 := D13.grow hB14
                have hH14 := hH13.below hB14
                clear hs D13 hH13 hR613 hRH13
                go_wp2_with fail
                (with_reducible refine hs2.mono ?_)
                rintro x w15 ⟨rfl, hB15⟩
                have D15 := (D14.grow hB15).more (K' := (i + 1) * 4224 + used R) (by omega)
                have hH15 := hH14.below hB15
                clear hs2 D14 hH14
                go_wp2_with fail
                go_roundw
                case rel => go_light; exact ⟨i + 1, L6, R, by omega, by go_num, D15, hH15⟩
                case measure => go_light; simp [intOf]; omega
              · clear hp G hin kp
                have hBW := hC.below
                have hCd := hC.drew
                have hHd := hH.below (Below.refl _ _).drew
                obtain ⟨mb, mo, rfl, _, hmc⟩ := (hr2.below hCd.below).ints (by omega)
                have km := hmc i (by omega)
                clear hmc
                have hmb : -9223372036854775808 ≤ zs2.getD i 0 ∧ zs2.getD i 0 ≤ 9223372036854775807 := by
                  have hl : i < zs2.length := by have := hr2.1; rw [List.length_map] at this; omega
                  have := bounds_i64 (hwf2 zs2[i] (List.getElem_mem _))
                  rw [List.getD_eq_getElem?_getD, List.getElem?_eq_getElem hl]
                  exact this
                generalize zs2.getD i 0 = m at km hmb
                obtain ⟨hm0, hm1⟩ := hmb
                obtain ⟨t, ht, ht1⟩ : ∃ t : Nat, bits .and .i64 (m / 256) 7 = (t : Int) ∧ t < 8 := ⟨(m / 256 % 8).toNat, by rw [show bits .and .i64 (m / 256) 7 = m / 256 % 8 from i64_and_mask (m / 256) 3 (by omega)]; omega, by omega⟩
                obtain ⟨u, hu, hu1⟩ : ∃ u : Nat, bits .and .i64 (m / 2048) 63 = (u : Int) ∧ u < 64 := ⟨(m / 2048 % 64).toNat, by rw [show bits .and .i64 (m / 2048) 63 = m / 2048 % 64 from i64_and_mask (m / 2048) 6 (by omega)]; omega, by omega⟩
                have hw : IntKind.i64.wrap ((t : Int) - 1) = (t : Int) - 1 := IntWalk.i64_in _ (by omega)
                have hi2 : (i : Int) < (n2 : Int) := by omega
                have hCr := hCd.crash (by omega) m ((t : Int) - 1) u hm0 hm1 (by omega) (by omega) (by omega) (by omega)
                clear hC hH hCd
                go_upto_region 27 with fail
                refine wp_region_still_tail 18 (by kernel_rfl) (by kernel_rfl) ?_
                simp only [List.take_succ_cons, List.take_zero, List.drop_succ_cons, List.drop_zero]
                change wpStill _ _ wa.drew _ _ _
                repeat still_step
                refine wpStill_nil ?_
                change wpList _ _ _ _ _ wa.drew
                generalize wa.drew = w4 at hCr hHd km
                go_wp2_with fail
                (with_reducible refine hCr.mono ?_)
                rintro x w5 ⟨⟨vx, rfl⟩, D5, kp5⟩
                have hH5 := hHd.kept kp5
                clear hCr hHd km ht hu hw
                go_wp2_with fail
                (with_reducible refine (D5.opens (by omega) hT).mono ?_)
                rintro x w6 ⟨l6, v6, Fs6, L6, rfl, eF6, G6, i6, _, Rc6, kp6⟩
                have hH6 := (hH5.kept kp6).more i6
                have hB6 := G6.below
                have D6 := G6.disk
                clear G6 D5 hH5 kp5 kp6 i6
                obtain ⟨Hs, hHs, RH⟩ := hH6.recs hB6
                have hlH : Hs.length = R.length := by rw [← hHs, zsOf_len]
                have hlF : Fs6.length = R.length := by rw [← eF6, zsOf_len]
                obtain ⟨A8, c8, e8, hl8, hc8, hRH⟩ := RH.read
                rw [hlH] at e8
                subst e8
                obtain ⟨A6, c6, e6, hl6, hc6, hR6⟩ := Rc6.read
                rw [hlF] at e6
                subst e6
                obtain ⟨ha1, hq1⟩ := app_nil RH hlH (by omega)
                generalize hpp1 : appLP w6 (.slice none 0 0) (.slice A8 R.length c8) = p1 at hq1
                obtain ⟨v11, w11⟩ := p1
                obtain ⟨R11, hB11⟩ := hq1 _ rfl
                dsimp only at R11 hB11
                have hs6 := hB6.size
                have hs11 := hB11.size
                have B11 := hB6.trans (hB11.mono hs6)
                have hsep := sep_new (hin0.keep B11) (fun g hg => Nat.le_trans hs6 (own_base R11.own g hg))
                have hlH' : Hs.length ≤ 90000 := by omega
                obtain ⟨ha2, hq2⟩ := app_snoc R11 (hin0.up B11).ok hsep hlH' hs11 trivial
                generalize hpp2 : appLP (w11.alloc (.cells #[.slice (F' j).A (F' j).n (F' j).c] 33)) v11 (.slice (some ⟨w11.heap.size, 0, none⟩) 1 1) = p2 at hq2
                obtain ⟨v13, w13⟩ := p2
                obtain ⟨R13, g13, _⟩ := hq2 _ rfl
                dsimp only at R13 g13
                have hob := own_base R11.own
                have B13 : Below w6.heap.size w6 w13 := (hB11.alloc (by omega) (.cells #[.slice (F' j).A (F' j).n (F' j).c] 33)).grown g13 (by simp; omega) hob
                obtain ⟨A13, c13, e13, hl13, hc13, hR13⟩ := R13.read
                have hl14 : (Hs ++ [F' j]).length = R.length + 1 := by simp [hlH]
                rw [hl14] at e13
                subst e13
                have hs := same_runs w13 A6 A13 Fs6 (Hs ++ [F' j]) R.length (R.length + 1) c6 c13 hlF hl14 (hR6.below B13) hR13 (by omega) (by omega)
                rw [show decide (zsOf Fs6 = zsOf (Hs ++ [F' j])) = false from by
                  simp only [decide_eq_false_iff_not]
                  intro e
                  have := congrArg List.length e
                  rw [zsOf_len, zsOf_len, hl14] at this
                  omega] at hs
                have hRH13 := hRH.below B13
                have hR613 := hR6.below B13
                have D13 := D6.grow B13
                have hH13 := hH6.below B13
                clear R11 R13 hq1 hq2 g13 hob hsep hR13 B11 hB11 RH Rc6 D6 hH6 hRH hR6
                go_wp2_with fail
                (with_reducible refine hs.mono ?_)
                rintro x w14 ⟨rfl, hB14⟩
                have hs2 := same_runs w14 A6 A8 Fs6 Hs R.length R.length c6 c8 hlF hlH (hR613.below hB14) (hRH13.below hB14) (by omega) (by omega)
                rw [show decide (zsOf Fs6 = zsOf Hs) = true from decide_eq_true (by rw [eF6, hHs])] at hs2
                have D14 := D13.grow hB14
                have hH14 := hH13.below hB14
                clear hs D13 hH13 hR613 hRH13
                go_wp2_with fail
                (with_reducible refine hs2.mono ?_)
                rintro x w15 ⟨rfl, hB15⟩
                have D15 := (D14.grow hB15).more (K' := (i + 1) * 4224 + used R) (by omega)
                have hH15 := hH14.below hB15
                clear hs2 D14 hH14
                go_wp2_with fail
                go_roundw
                case rel => go_light; exact ⟨i + 1, L6, R, by omega, by go_num, D15, hH15⟩
                case measure => go_light; simp [intOf]; omega
              · have hz : (F' j).zs.length = (F' j).n := hin.len
                have hBa := G4.below
                obtain ⟨ha, hq⟩ := hH.snoc hBa hin0 (by omega)
                generalize hpp : appLP (wa.alloc (.cells #[.slice (F' j).A (F' j).n (F' j).c] 33)) _ (.slice (some ⟨wa.heap.size, 0, none⟩) 1 1) = p at hq
                obtain ⟨v3, w3⟩ := p
                obtain ⟨K1, K2, K3, K4⟩ := hq _ rfl
                dsimp only at K1 K2 K3 K4
                have G5 := (G4.grow ((Below.refl wa.heap.size wa).alloc (Nat.le_refl _) (.cells #[.slice (F' j).A (F' j).n (F' j).c] 33))).own K2 K3 (fun b hb => by have := K4 b hb; simpa using this)
                have G6 : LogSt w (fun b => L b ∨ v3.ownBlock = some b) w3 d (i * 4224 + 2048 + used (R ++ [(F' j).zs])) l (R ++ [(F' j).zs]) true := by
                  rw [used_one, hz, ← Nat.add_assoc]; exact G5
                clear hp G4 G5 G hin kp hH hq K2 K3 K4 hBa
                go_wp2_with fail
                go_roundw
                case rel => go_light; exact ⟨j + 1, _, _, by omega, by go_num, rfl, rfl, G6, K1⟩
                case measure => go_light; simp [intOf]; omega
          · have dj : ¬ (j : Int) < (n' : Int) := by omega
            have hC := G.cr.more (K' := i * 4224 + 2048 + used R + 64) (by omega)
            clear G
            have hBW := hC.below
            have hCd := hC.drew
            have hHd := hH.below (Below.refl _ _).drew
            obtain ⟨mb, mo, rfl, _, hmc⟩ := (hr2.below hCd.below).ints (by omega)
            have km := hmc i (by omega)
            clear hmc
            have hmb : -9223372036854775808 ≤ zs2.getD i 0 ∧ zs2.getD i 0 ≤ 9223372036854775807 := by
              have hl : i < zs2.length := by have := hr2.1; rw [List.length_map] at this; omega
              have := bounds_i64 (hwf2 zs2[i] (List.getElem_mem _))
              rw [List.getD_eq_getElem?_getD, List.getElem?_eq_getElem hl]
              exact this
            generalize zs2.getD i 0 = m at km hmb
            obtain ⟨hm0, hm1⟩ := hmb
            obtain ⟨t, ht, ht1⟩ : ∃ t : Nat, bits .and .i64 (m / 256) 7 = (t : Int) ∧ t < 8 := ⟨(m / 256 % 8).toNat, by rw [show bits .and .i64 (m / 256) 7 = m / 256 % 8 from i64_and_mask (m / 256) 3 (by omega)]; omega, by omega⟩
            obtain ⟨u, hu, hu1⟩ : ∃ u : Nat, bits .and .i64 (m / 2048) 63 = (u : Int) ∧ u < 64 := ⟨(m / 2048 % 64).toNat, by rw [show bits .and .i64 (m / 2048) 63 = m / 2048 % 64 from i64_and_mask (m / 2048) 6 (by omega)]; omega, by omega⟩
            have hw : IntKind.i64.wrap ((t : Int) - 1) = (t : Int) - 1 := IntWalk.i64_in _ (by omega)
            have hi2 : (i : Int) < (n2 : Int) := by omega
            have hCr := hCd.crash (by omega) m ((t : Int) - 1) u hm0 hm1 (by omega) (by omega) (by omega) (by omega)
            clear hC hH hCd
            go_upto_region 27 with fail
            refine wp_region_still_tail 18 (by kernel_rfl) (by kernel_rfl) ?_
            simp only [List.take_succ_cons, List.take_zero, List.drop_succ_cons, List.drop_zero]
            change wpStill _ _ wr.drew _ _ _
            repeat still_step
            refine wpStill_nil ?_
            change wpList _ _ _ _ _ wr.drew
            generalize wr.drew = w4 at hCr hHd km
            go_wp2_with fail
            (with_reducible refine hCr.mono ?_)
            rintro x w5 ⟨⟨vx, rfl⟩, D5, kp5⟩
            have hH5 := hHd.kept kp5
            clear hCr hHd km ht hu hw
            go_wp2_with fail
            (with_reducible refine (D5.opens (by omega) hT).mono ?_)
            rintro x w6 ⟨l6, v6, Fs6, L6, rfl, eF6, G6, i6, _, Rc6, kp6⟩
            have hH6 := (hH5.kept kp6).more i6
            have hB6 := G6.below
            have D6 := G6.disk
            clear G6 D5 hH5 kp5 kp6 i6
            obtain ⟨Hs, hHs, RH⟩ := hH6.recs hB6
            have hlH : Hs.length = R.length := by rw [← hHs, zsOf_len]
            have hlF : Fs6.length = R.length := by rw [← eF6, zsOf_len]
            obtain ⟨A8, c8, e8, hl8, hc8, hRH⟩ := RH.read
            rw [hlH] at e8
            subst e8
            obtain ⟨A6, c6, e6, hl6, hc6, hR6⟩ := Rc6.read
            rw [hlF] at e6
            subst e6
            have hs2 := same_runs w6 A6 A8 Fs6 Hs R.length R.length c6 c8 hlF hlH hR6 hRH (by omega) (by omega)
            rw [show decide (zsOf Fs6 = zsOf Hs) = true from decide_eq_true (by rw [eF6, hHs])] at hs2
            clear RH Rc6 hRH hR6
            go_wp2_with fail
            (with_reducible refine hs2.mono ?_)
            rintro x w15 ⟨rfl, hB15⟩
            have D15 := (D6.grow hB15).more (K' := (i + 1) * 4224 + used R) (by omega)
            have hH15 := hH6.below hB15
            clear hs2 D6 hH6
            go_wp2_with fail
            go_roundw
            case rel => go_light; exact ⟨i + 1, L6, R, by omega, by go_num, D15, hH15⟩
            case measure => go_light; simp [intOf]; omega
    · have dl : ¬ (i : Int) < (n : Int) := by omega
      go_wp2_with fail
      go_ret
      exact ⟨rfl, hB⟩
end Go.Proofs.YtccdifplpbnclaaDoor.walAgain
