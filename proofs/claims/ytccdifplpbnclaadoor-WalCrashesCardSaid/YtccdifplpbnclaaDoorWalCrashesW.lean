/- The walk of WalCrashes. -/
import Derived.Test.YtccdifplpbnclaaDoorWalJ
import Derived.Test.YtccdifplpbnclaaDoorOpenA3
namespace Go.Proofs.YtccdifplpbnclaaDoor.walCrashes
open Go.RowKit Go.Maps

attribute [local go_sem ↓] appLF_fold
attribute [local go_sem] appLF_has
def moreC : Array Value := #[.int .u8 109, .int .u8 111, .int .u8 114, .int .u8 101]
set_option maxRecDepth 100000 in
set_option maxHeartbeats 16000000 in
theorem walk (w : World) (hT : Laid w) (A : Option Addr) (n c : Nat) (F : Nat → Sl) (hS : Sls w w.heap.size A n F) (hnc : n ≤ c) (hcm : c ≤ maxLen) (a : Int) (_ : -9223372036854775808 ≤ a) (_ : a ≤ 9223372036854775807) (crash : List Int) (hcl : crash.length = 3) (hcw : wf64 crash) :
    Calls Tryd.prog 3 #[.slice A n c, .int .i64 a, .agg (iA crash)] w fun e w' => e = .returned (.bool true) ∧ Below w.heap.size w w' := by
  obtain ⟨h0, h1, h2, rfl⟩ : ∃ h0 h1 h2, crash = [h0, h1, h2] := by
    match crash, hcl with
    | [a, b, c], _ => exact ⟨_, _, _, rfl⟩
  have b0 := bounds_i64 (hcw h0 (by simp))
  have b1 := bounds_i64 (hcw h1 (by simp))
  have b2 := bounds_i64 (hcw h2 (by simp))
  have hn63 : n ≤ 9223372036854775807 := Nat.le_trans hnc hcm
  have hcm63 : c ≤ 9223372036854775807 := hcm
  have hI0 : IBlk (w.alloc (.cells (iA [h0, h1, h2]) 23)) w.heap.size 23 [h0, h1, h2] := IBlk.new _ _ _
  have B0 : Below w.heap.size w (w.alloc (.cells (iA [h0, h1, h2]) 23)) := (Below.refl _ _).alloc (Nat.le_refl _) _
  have T0 := hT.alloc (.cells (iA [h0, h1, h2]) 23)
  go_enter Tryd.func3, Tryd.ntmps3
  go_wp2_with fail
  generalize w.alloc (.cells (iA [h0, h1, h2]) 23) = w0 at hI0 B0 T0
  (with_reducible refine (fit_runs w0 T0).mono ?_)
  rintro x w1 ⟨rfl, hx⟩
  have hI1 := hI0.below hx hI0.lt
  have B1 := B0.trans (hx.mono B0.size)
  have hfew := few_runs w1 A n c w.heap.size F (hS.keep B1) hn63
  clear hI0 B0 T0 hx
  go_wp2_with fail
  (with_reducible refine hfew.mono ?_)
  rintro x w1' ⟨hx, rfl⟩
  rcases hx with rfl | ⟨rfl, hn⟩
  · go_wp2_with fail
    go_ret
    exact ⟨rfl, B1⟩
  · go_wp2_with fail
    (with_reducible refine (disk_new (w0 := w) (L := fun b => b = w.heap.size) B1 (fun b e => by rw [e]; exact hI1.lt)).mono ?_)
    rintro x w2 ⟨d, rfl, D2, hx⟩
    have hI2 := hI1.below hx hI1.lt
    go_wp2_with fail
    (with_reducible refine (D2.opens (by omega) hT).mono ?_)
    rintro x w3 ⟨l, v, Fs, L, rfl, eF, G3, i1, _, _, kp3⟩
    have hI3 := hI2.only kp3 (fun e => e rfl)
    have hLp : L w.heap.size := i1 _ rfl
    obtain ⟨q, hq, hq1⟩ : ∃ q : Nat, bits .and .i64 a 255 = (q : Int) ∧ q < 256 := ⟨(a % 256).toNat, by rw [show bits .and .i64 a 255 = a % 256 from i64_and_mask a 8 (by omega)]; omega, by omega⟩
    have hAr := G3.arms (q : Int) (by omega) (by omega)
    clear D2 eF B1 hfew hI1 hI2 hx kp3 i1
    go_wp2_with fail
    (with_reducible refine hAr.mono ?_)
    rintro x w4 ⟨⟨vx, rfl⟩, G4, kp4⟩
    have hI4 := hI3.only kp4 (fun e => e hLp)
    clear hAr G3 hI3 kp4 hq
    generalize hph : w.heap.size = ph at hI4 hLp
    go_wp2_with fail
    go_loopw [11, 13, 39] (fun s11 _ s39 wr => ∃ j : Nat, j ≤ n ∧ s39 = .int .i64 j ∧ s11 = .int .i64 j ∧ LogSt w L wr d (2048 + used (zsL F j)) l (zsL F j) true ∧ IBlk wr ph 23 [h0, h1, h2]) (fun _ _ s39 _ => n - (intOf s39).toNat)
    case atStart => exact ⟨0, Nat.zero_le _, rfl, rfl, G4, hI4⟩
    case round =>
      obtain ⟨j, hj, rfl, rfl, G, hI⟩ := hrel
      have hfit := G.fits
      have hB := G.below
      by_cases hlt : j < n
      · have dl : (j : Int) < (n : Int) := by omega
        obtain ⟨b, off, rfl, hb, hc⟩ := (hS.keep hB).at_ (by omega)
        have k1 := hc j hlt
        have hin := (hS.each j hlt).up hB
        have hcl := Nat.le_trans hin.n_le hin.c_le
        have hcl : (F j).n ≤ 9223372036854775807 := hcl
        clear hc
        by_cases h3 : 3000 < (F j).n
        · have d3 : (3000 : Int) < ((F j).n : Int) := by omega
          go_wp2_with fail
          go_ret
          exact ⟨rfl, hB⟩
        · have d3 : ¬ (3000 : Int) < ((F j).n : Int) := by omega
          have hp := G.puts (by omega) hT hin
          go_wp2_with fail
          (with_reducible refine hp.mono ?_)
          rintro x wa ⟨kp, hc⟩
          have hI := hI.only kp (fun e => e hLp)
          rcases hc with ⟨_, h, _⟩ | ⟨rfl, _, _, G4⟩ | ⟨rfl, _, _, hC⟩ | ⟨rfl, h3n, _, G4⟩
          · omega
          · have hC := G4.cr
            clear hp G G4 hin kp
            have kC := hC.below
            have hi0 := hI.cellAt 0 h0 rfl
            have hi1 := hI.cellAt 1 h1 rfl
            have hi2 := hI.cellAt 2 h2 rfl
            have hCr := hC.crash (by omega) h0 h1 h2 b0.1 b0.2 b1.1 b1.2 b2.1 b2.2
            go_wp2_with fail
            (with_reducible refine hCr.mono ?_)
            rintro x w5 ⟨⟨vx, rfl⟩, D5, _⟩
            clear hCr hi0 hi1 hi2 hI hC kC
            go_wp2_with fail
            (with_reducible refine (D5.opens (by omega) hT).mono ?_)
            rintro x w6 ⟨l6, v6, Fs, L6, rfl, eF, G6, _, _, Rc6, _⟩
            have hB6 := G6.below
            have hfl : Fs.length = j := by rw [← zsOf_len, eF, zsL_len]
            obtain ⟨A6, c6, ev, hl6, hc6, hR6⟩ := Rc6.read
            rw [hfl] at ev hl6
            subst ev
            have hjc : j ≤ c := by omega
            have hA := hS.up hB6 hj
            have hs := same_runs w6 A6 _ Fs ((List.range j).map F) j j c6 c hfl (by simp) hR6 hA (by omega) (by omega)
            rw [show decide (zsOf Fs = zsOf ((List.range j).map F)) = true from decide_eq_true eF] at hs
            have hlen := G6.len
            rw [zsL_len] at hlen
            have hm1 : (if (n : Int) < (j : Int) + 1 then (n : Int) else (j : Int) + 1) = ((min (j + 1) n : Nat) : Int) := by split <;> omega
            have hm2 : (if (j : Int) + 1 < (n : Int) then (j : Int) + 1 else (n : Int)) = ((min (j + 1) n : Nat) : Int) := by split <;> omega
            have dm : ¬ ((min (j + 1) n : Nat) : Int) < (j : Int) := by omega
            clear D5 hR6 hA
            go_wp2_with fail
            (with_reducible refine hlen.mono ?_)
            rintro x w6' ⟨rfl, rfl⟩
            go_wp2_with fail
            (with_reducible refine hs.mono ?_)
            rintro x w7 ⟨rfl, hB7⟩
            have G7 := G6.grow hB7
            have Rc7 := Rc6.below hB7
            have hcv := Lib.run_convert_bytes_const (P := Tryd.prog) w7 33 5 moreC 4 4 Tryd.underlying33 Tryd.underlying5
            unfold moreC at hcv
            have B8 : Below w7.heap.size w7 (w7.alloc (.cells #[.int .u8 109, .int .u8 111, .int .u8 114, .int .u8 101] 5 (4, 5))) := (Below.refl _ _).alloc (Nat.le_refl _) _
            have hS8 : SlIn (w7.alloc (.cells #[.int .u8 109, .int .u8 111, .int .u8 114, .int .u8 101] 5 (4, 5))) (w7.alloc (.cells #[.int .u8 109, .int .u8 111, .int .u8 114, .int .u8 101] 5 (4, 5))).heap.size ⟨some ⟨w7.heap.size, 0, none⟩, 4, 4, moreZ⟩ := const_slIn (w := w7) 5 (4, 5) (zs := moreZ) (c := 4) (by decide) (by decide) (by decide)
            have hfit6 := G6.fits
            have hp := (G7.grow B8).puts (by omega) hT hS8
            have Rc8 := Rc7.below B8
            clear hs hlen hm1 hm2 dm G6 G7 Rc6 Rc7 hB7
            go_wp2_with fail
            (with_reducible refine hp.mono ?_)
            rintro x w9 ⟨kp9, hc⟩
            clear hp hcv hS8
            rcases hc with ⟨_, h, _⟩ | ⟨rfl, _, _, G9⟩ | ⟨_, _, h, _⟩ | ⟨rfl, _, _, G9⟩
            · exact absurd h (by decide)
            · go_wp2_with fail
              go_ret
              exact ⟨rfl, G9.below⟩
            · cases h
            · have Rc9 := kp9.recs Rc8 (fun b hb => hb.2)
              have hK9 : (2048 + used (zsL F j)) + 2048 + pcs 4 + 2048 < 50000 := by have : pcs 4 = 1 := rfl; omega
              clear Rc8 B8 kp9
              go_wp2_with fail
              (with_reducible refine (G9.disk.opens hK9 hT).mono ?_)
              rintro x w10 ⟨l10, v10, Fs10, L10, rfl, eF10, G10, _, _, Rc10, kp10⟩
              have Rc11 := kp10.recs Rc9 (fun b hb => hb.2)
              have hB10 := G10.below
              obtain ⟨ha1, hq1⟩ := app_nil Rc11 hfl (by omega)
              generalize hpp1 : appLP w10 (.slice none 0 0) (.slice A6 j c6) = p1 at hq1
              obtain ⟨v11, w11⟩ := p1
              obtain ⟨R11, hB11⟩ := hq1 _ rfl
              dsimp only at R11 hB11
              have R10' := Rc10.below hB11
              have hw11 := hB11.size
              have hcv := Lib.run_convert_bytes_const (P := Tryd.prog) w11 33 5 moreC 4 4 Tryd.underlying33 Tryd.underlying5
              unfold moreC at hcv
              have B12 : Below w11.heap.size w11 (w11.alloc (.cells #[.int .u8 109, .int .u8 111, .int .u8 114, .int .u8 101] 5 (4, 5))) := (Below.refl _ _).alloc (Nat.le_refl _) _
              have hS12 : SlIn (w11.alloc (.cells #[.int .u8 109, .int .u8 111, .int .u8 114, .int .u8 101] 5 (4, 5))) (w11.alloc (.cells #[.int .u8 109, .int .u8 111, .int .u8 114, .int .u8 101] 5 (4, 5))).heap.size ⟨some ⟨w11.heap.size, 0, none⟩, 4, 4, moreZ⟩ := const_slIn (w := w11) 5 (4, 5) (zs := moreZ) (c := 4) (by decide) (by decide) (by decide)
              have s12 : (w11.alloc (.cells #[.int .u8 109, .int .u8 111, .int .u8 114, .int .u8 101] 5 (4, 5))).heap.size = w11.heap.size + 1 := by simp
              have R12 := R11.below B12
              have R12' := R10'.below B12
              have hsep : 0 < (Sl.mk (some ⟨w11.heap.size, 0, none⟩) 4 4 moreZ).n → ∀ ad, (Sl.mk (some ⟨w11.heap.size, 0, none⟩) 4 4 moreZ).A = some ad → v11.ownBlock ≠ some ad.block := fun _ ad ha e => by
                have ha : some (Addr.mk w11.heap.size 0 none) = some ad := ha
                injection ha with ha
                subst ha
                have := own_lt R11.own _ e
                exact absurd this (Nat.lt_irrefl _)
              have hfl' : Fs.length ≤ 90000 := by omega
              obtain ⟨ha2, hq2⟩ := app_snoc R12 hS12.ok hsep hfl' (by omega) trivial
              rw [s12] at ha2 hq2
              dsimp only at ha2 hq2
              generalize hpp2 : appLP ((w11.alloc (.cells #[.int .u8 109, .int .u8 111, .int .u8 114, .int .u8 101] 5 (4, 5))).alloc (.cells #[.slice (some ⟨w11.heap.size, 0, none⟩) 4 4] 33)) v11 (.slice (some ⟨w11.heap.size + 1, 0, none⟩) 1 1) = p2 at hq2
              obtain ⟨v13, w13⟩ := p2
              obtain ⟨R13, g13, _⟩ := hq2 _ rfl
              dsimp only at R13 g13
              have hob := own_base R11.own
              have B13 : Below w10.heap.size w10 w13 := ((hB11.trans (B12.mono hw11)).alloc (by omega) (.cells #[.slice (some ⟨w11.heap.size, 0, none⟩) 4 4] 33)).grown g13 (by simp; omega) hob
              have R13' := Rc10.below B13
              obtain ⟨A13, c13, e13, hl13, hc13, hR13⟩ := R13.read
              have hl14 : (Fs ++ [Sl.mk (some ⟨w11.heap.size, 0, none⟩) 4 4 moreZ]).length = j + 1 := by simp [hfl]
              rw [hl14] at e13
              subst e13
              obtain ⟨A14, c14, e14, hl15, hc15, hR14⟩ := R13'.read
              have hl16 : Fs10.length = j + 1 := by rw [← zsOf_len, eF10]; simp [zsL_len]
              rw [hl16] at e14
              subst e14
              have hs := same_runs w13 A14 A13 Fs10 (Fs ++ [Sl.mk (some ⟨w11.heap.size, 0, none⟩) 4 4 moreZ]) (j + 1) (j + 1) c14 c13 hl16 hl14 hR14 hR13 (by omega) (by omega)
              rw [show decide (zsOf Fs10 = zsOf (Fs ++ [Sl.mk (some ⟨w11.heap.size, 0, none⟩) 4 4 moreZ])) = true from decide_eq_true (by rw [zsOf_snoc, eF, eF10])] at hs
              have B14 := hB10.trans (B13.mono hB10.size)
              clear R11 R12 R12' R10' hS12 B12 hsep hq1 hq2 g13 hob R13 R13' Rc11 Rc10 Rc9 hR13 hR14 G9
              go_wp2_with fail
              (with_reducible refine hs.mono ?_)
              rintro x w14 ⟨rfl, hB14⟩
              go_wp2_with fail
              go_ret
              exact ⟨rfl, B14.trans (hB14.mono B14.size)⟩
          · clear hp G hin kp
            have kC := hC.below
            have hi0 := hI.cellAt 0 h0 rfl
            have hi1 := hI.cellAt 1 h1 rfl
            have hi2 := hI.cellAt 2 h2 rfl
            have hCr := hC.crash (by omega) h0 h1 h2 b0.1 b0.2 b1.1 b1.2 b2.1 b2.2
            go_wp2_with fail
            (with_reducible refine hCr.mono ?_)
            rintro x w5 ⟨⟨vx, rfl⟩, D5, _⟩
            clear hCr hi0 hi1 hi2 hI hC kC
            go_wp2_with fail
            (with_reducible refine (D5.opens (by omega) hT).mono ?_)
            rintro x w6 ⟨l6, v6, Fs, L6, rfl, eF, G6, _, _, Rc6, _⟩
            have hB6 := G6.below
            have hfl : Fs.length = j := by rw [← zsOf_len, eF, zsL_len]
            obtain ⟨A6, c6, ev, hl6, hc6, hR6⟩ := Rc6.read
            rw [hfl] at ev hl6
            subst ev
            have hjc : j ≤ c := by omega
            have hA := hS.up hB6 hj
            have hs := same_runs w6 A6 _ Fs ((List.range j).map F) j j c6 c hfl (by simp) hR6 hA (by omega) (by omega)
            rw [show decide (zsOf Fs = zsOf ((List.range j).map F)) = true from decide_eq_true eF] at hs
            have hlen := G6.len
            rw [zsL_len] at hlen
            have hm1 : (if (n : Int) < (j : Int) + 1 then (n : Int) else (j : Int) + 1) = ((min (j + 1) n : Nat) : Int) := by split <;> omega
            have hm2 : (if (j : Int) + 1 < (n : Int) then (j : Int) + 1 else (n : Int)) = ((min (j + 1) n : Nat) : Int) := by split <;> omega
            have dm : ¬ ((min (j + 1) n : Nat) : Int) < (j : Int) := by omega
            clear D5 hR6 hA
            go_wp2_with fail
            (with_reducible refine hlen.mono ?_)
            rintro x w6' ⟨rfl, rfl⟩
            go_wp2_with fail
            (with_reducible refine hs.mono ?_)
            rintro x w7 ⟨rfl, hB7⟩
            have G7 := G6.grow hB7
            have Rc7 := Rc6.below hB7
            have hcv := Lib.run_convert_bytes_const (P := Tryd.prog) w7 33 5 moreC 4 4 Tryd.underlying33 Tryd.underlying5
            unfold moreC at hcv
            have B8 : Below w7.heap.size w7 (w7.alloc (.cells #[.int .u8 109, .int .u8 111, .int .u8 114, .int .u8 101] 5 (4, 5))) := (Below.refl _ _).alloc (Nat.le_refl _) _
            have hS8 : SlIn (w7.alloc (.cells #[.int .u8 109, .int .u8 111, .int .u8 114, .int .u8 101] 5 (4, 5))) (w7.alloc (.cells #[.int .u8 109, .int .u8 111, .int .u8 114, .int .u8 101] 5 (4, 5))).heap.size ⟨some ⟨w7.heap.size, 0, none⟩, 4, 4, moreZ⟩ := const_slIn (w := w7) 5 (4, 5) (zs := moreZ) (c := 4) (by decide) (by decide) (by decide)
            have hfit6 := G6.fits
            have hp := (G7.grow B8).puts (by omega) hT hS8
            have Rc8 := Rc7.below B8
            clear hs hlen hm1 hm2 dm G6 G7 Rc6 Rc7 hB7
            go_wp2_with fail
            (with_reducible refine hp.mono ?_)
            rintro x w9 ⟨kp9, hc⟩
            clear hp hcv hS8
            rcases hc with ⟨_, h, _⟩ | ⟨rfl, _, _, G9⟩ | ⟨_, _, h, _⟩ | ⟨rfl, _, _, G9⟩
            · exact absurd h (by decide)
            · go_wp2_with fail
              go_ret
              exact ⟨rfl, G9.below⟩
            · cases h
            · have Rc9 := kp9.recs Rc8 (fun b hb => hb.2)
              have hK9 : (2048 + used (zsL F j) + 64) + 2048 + pcs 4 + 2048 < 50000 := by have : pcs 4 = 1 := rfl; omega
              clear Rc8 B8 kp9
              go_wp2_with fail
              (with_reducible refine (G9.disk.opens hK9 hT).mono ?_)
              rintro x w10 ⟨l10, v10, Fs10, L10, rfl, eF10, G10, _, _, Rc10, kp10⟩
              have Rc11 := kp10.recs Rc9 (fun b hb => hb.2)
              have hB10 := G10.below
              obtain ⟨ha1, hq1⟩ := app_nil Rc11 hfl (by omega)
              generalize hpp1 : appLP w10 (.slice none 0 0) (.slice A6 j c6) = p1 at hq1
              obtain ⟨v11, w11⟩ := p1
              obtain ⟨R11, hB11⟩ := hq1 _ rfl
              dsimp only at R11 hB11
              have R10' := Rc10.below hB11
              have hw11 := hB11.size
              have hcv := Lib.run_convert_bytes_const (P := Tryd.prog) w11 33 5 moreC 4 4 Tryd.underlying33 Tryd.underlying5
              unfold moreC at hcv
              have B12 : Below w11.heap.size w11 (w11.alloc (.cells #[.int .u8 109, .int .u8 111, .int .u8 114, .int .u8 101] 5 (4, 5))) := (Below.refl _ _).alloc (Nat.le_refl _) _
              have hS12 : SlIn (w11.alloc (.cells #[.int .u8 109, .int .u8 111, .int .u8 114, .int .u8 101] 5 (4, 5))) (w11.alloc (.cells #[.int .u8 109, .int .u8 111, .int .u8 114, .int .u8 101] 5 (4, 5))).heap.size ⟨some ⟨w11.heap.size, 0, none⟩, 4, 4, moreZ⟩ := const_slIn (w := w11) 5 (4, 5) (zs := moreZ) (c := 4) (by decide) (by decide) (by decide)
              have s12 : (w11.alloc (.cells #[.int .u8 109, .int .u8 111, .int .u8 114, .int .u8 101] 5 (4, 5))).heap.size = w11.heap.size + 1 := by simp
              have R12 := R11.below B12
              have R12' := R10'.below B12
              have hsep : 0 < (Sl.mk (some ⟨w11.heap.size, 0, none⟩) 4 4 moreZ).n → ∀ ad, (Sl.mk (some ⟨w11.heap.size, 0, none⟩) 4 4 moreZ).A = some ad → v11.ownBlock ≠ some ad.block := fun _ ad ha e => by
                have ha : some (Addr.mk w11.heap.size 0 none) = some ad := ha
                injection ha with ha
                subst ha
                have := own_lt R11.own _ e
                exact absurd this (Nat.lt_irrefl _)
              have hfl' : Fs.length ≤ 90000 := by omega
              obtain ⟨ha2, hq2⟩ := app_snoc R12 hS12.ok hsep hfl' (by omega) trivial
              rw [s12] at ha2 hq2
              dsimp only at ha2 hq2
              generalize hpp2 : appLP ((w11.alloc (.cells #[.int .u8 109, .int .u8 111, .int .u8 114, .int .u8 101] 5 (4, 5))).alloc (.cells #[.slice (some ⟨w11.heap.size, 0, none⟩) 4 4] 33)) v11 (.slice (some ⟨w11.heap.size + 1, 0, none⟩) 1 1) = p2 at hq2
              obtain ⟨v13, w13⟩ := p2
              obtain ⟨R13, g13, _⟩ := hq2 _ rfl
              dsimp only at R13 g13
              have hob := own_base R11.own
              have B13 : Below w10.heap.size w10 w13 := ((hB11.trans (B12.mono hw11)).alloc (by omega) (.cells #[.slice (some ⟨w11.heap.size, 0, none⟩) 4 4] 33)).grown g13 (by simp; omega) hob
              have R13' := Rc10.below B13
              obtain ⟨A13, c13, e13, hl13, hc13, hR13⟩ := R13.read
              have hl14 : (Fs ++ [Sl.mk (some ⟨w11.heap.size, 0, none⟩) 4 4 moreZ]).length = j + 1 := by simp [hfl]
              rw [hl14] at e13
              subst e13
              obtain ⟨A14, c14, e14, hl15, hc15, hR14⟩ := R13'.read
              have hl16 : Fs10.length = j + 1 := by rw [← zsOf_len, eF10]; simp [zsL_len]
              rw [hl16] at e14
              subst e14
              have hs := same_runs w13 A14 A13 Fs10 (Fs ++ [Sl.mk (some ⟨w11.heap.size, 0, none⟩) 4 4 moreZ]) (j + 1) (j + 1) c14 c13 hl16 hl14 hR14 hR13 (by omega) (by omega)
              rw [show decide (zsOf Fs10 = zsOf (Fs ++ [Sl.mk (some ⟨w11.heap.size, 0, none⟩) 4 4 moreZ])) = true from decide_eq_true (by rw [zsOf_snoc, eF, eF10])] at hs
              have B14 := hB10.trans (B13.mono hB10.size)
              clear R11 R12 R12' R10' hS12 B12 hsep hq1 hq2 g13 hob R13 R13' Rc11 Rc10 Rc9 hR13 hR14 G9
              go_wp2_with fail
              (with_reducible refine hs.mono ?_)
              rintro x w14 ⟨rfl, hB14⟩
              go_wp2_with fail
              go_ret
              exact ⟨rfl, B14.trans (hB14.mono B14.size)⟩
          · have hz : (F j).zs.length = (F j).n := hin.len
            have G5 : LogSt w L wa d (2048 + used (zsL F (j + 1))) l (zsL F (j + 1)) true := by
              rw [zsL_succ, used_one, hz, ← Nat.add_assoc]; exact G4
            clear hp G4 G hin kp
            go_wp2_with fail
            go_roundw
            case rel => go_light; exact ⟨j + 1, by omega, by go_num, by go_num, G5, hI⟩
            case measure => go_light; simp [intOf]; omega
      · obtain rfl : n = j := by omega
        have hC := G.cr
        clear G
        have kC := hC.below
        have hi0 := hI.cellAt 0 h0 rfl
        have hi1 := hI.cellAt 1 h1 rfl
        have hi2 := hI.cellAt 2 h2 rfl
        have hCr := hC.crash (by omega) h0 h1 h2 b0.1 b0.2 b1.1 b1.2 b2.1 b2.2
        go_wp2_with fail
        (with_reducible refine hCr.mono ?_)
        rintro x w5 ⟨⟨vx, rfl⟩, D5, _⟩
        clear hCr hi0 hi1 hi2 hI hC kC
        go_wp2_with fail
        (with_reducible refine (D5.opens (by omega) hT).mono ?_)
        rintro x w6 ⟨l6, v6, Fs, L6, rfl, eF, G6, _, _, Rc6, _⟩
        have hB6 := G6.below
        have hfl : Fs.length = n := by rw [← zsOf_len, eF, zsL_len]
        obtain ⟨A6, c6, ev, hl6, hc6, hR6⟩ := Rc6.read
        rw [hfl] at ev hl6
        subst ev
        have hjc : n ≤ c := by omega
        have hA := hS.up hB6 (Nat.le_refl n)
        have hs := same_runs w6 A6 _ Fs ((List.range n).map F) n n c6 c hfl (by simp) hR6 hA (by omega) (by omega)
        rw [show decide (zsOf Fs = zsOf ((List.range n).map F)) = true from decide_eq_true eF] at hs
        have hlen := G6.len
        rw [zsL_len] at hlen
        have hm1 : (if (n : Int) < (n : Int) + 1 then (n : Int) else (n : Int) + 1) = ((min (n + 1) n : Nat) : Int) := by split <;> omega
        have hm2 : (if (n : Int) + 1 < (n : Int) then (n : Int) + 1 else (n : Int)) = ((min (n + 1) n : Nat) : Int) := by split <;> omega
        have dm : ¬ ((min (n + 1) n : Nat) : Int) < (n : Int) := by omega
        clear D5 hR6 hA
        go_wp2_with fail
        (with_reducible refine hlen.mono ?_)
        rintro x w6' ⟨rfl, rfl⟩
        go_wp2_with fail
        (with_reducible refine hs.mono ?_)
        rintro x w7 ⟨rfl, hB7⟩
        have G7 := G6.grow hB7
        have Rc7 := Rc6.below hB7
        have hcv := Lib.run_convert_bytes_const (P := Tryd.prog) w7 33 5 moreC 4 4 Tryd.underlying33 Tryd.underlying5
        unfold moreC at hcv
        have B8 : Below w7.heap.size w7 (w7.alloc (.cells #[.int .u8 109, .int .u8 111, .int .u8 114, .int .u8 101] 5 (4, 5))) := (Below.refl _ _).alloc (Nat.le_refl _) _
        have hS8 : SlIn (w7.alloc (.cells #[.int .u8 109, .int .u8 111, .int .u8 114, .int .u8 101] 5 (4, 5))) (w7.alloc (.cells #[.int .u8 109, .int .u8 111, .int .u8 114, .int .u8 101] 5 (4, 5))).heap.size ⟨some ⟨w7.heap.size, 0, none⟩, 4, 4, moreZ⟩ := const_slIn (w := w7) 5 (4, 5) (zs := moreZ) (c := 4) (by decide) (by decide) (by decide)
        have hfit6 := G6.fits
        have hp := (G7.grow B8).puts (by omega) hT hS8
        have Rc8 := Rc7.below B8
        clear hs hlen hm1 hm2 dm G6 G7 Rc6 Rc7 hB7
        go_wp2_with fail
        (with_reducible refine hp.mono ?_)
        rintro x w9 ⟨kp9, hc⟩
        clear hp hcv hS8
        rcases hc with ⟨_, h, _⟩ | ⟨rfl, _, _, G9⟩ | ⟨_, _, h, _⟩ | ⟨rfl, _, _, G9⟩
        · exact absurd h (by decide)
        · go_wp2_with fail
          go_ret
          exact ⟨rfl, G9.below⟩
        · cases h
        · have Rc9 := kp9.recs Rc8 (fun b hb => hb.2)
          have hK9 : (2048 + used (zsL F n)) + 2048 + pcs 4 + 2048 < 50000 := by have : pcs 4 = 1 := rfl; omega
          clear Rc8 B8 kp9
          go_wp2_with fail
          (with_reducible refine (G9.disk.opens hK9 hT).mono ?_)
          rintro x w10 ⟨l10, v10, Fs10, L10, rfl, eF10, G10, _, _, Rc10, kp10⟩
          have Rc11 := kp10.recs Rc9 (fun b hb => hb.2)
          have hB10 := G10.below
          obtain ⟨ha1, hq1⟩ := app_nil Rc11 hfl (by omega)
          generalize hpp1 : appLP w10 (.slice none 0 0) (.slice A6 n c6) = p1 at hq1
          obtain ⟨v11, w11⟩ := p1
          obtain ⟨R11, hB11⟩ := hq1 _ rfl
          dsimp only at R11 hB11
          have R10' := Rc10.below hB11
          have hw11 := hB11.size
          have hcv := Lib.run_convert_bytes_const (P := Tryd.prog) w11 33 5 moreC 4 4 Tryd.underlying33 Tryd.underlying5
          unfold moreC at hcv
          have B12 : Below w11.heap.size w11 (w11.alloc (.cells #[.int .u8 109, .int .u8 111, .int .u8 114, .int .u8 101] 5 (4, 5))) := (Below.refl _ _).alloc (Nat.le_refl _) _
          have hS12 : SlIn (w11.alloc (.cells #[.int .u8 109, .int .u8 111, .int .u8 114, .int .u8 101] 5 (4, 5))) (w11.alloc (.cells #[.int .u8 109, .int .u8 111, .int .u8 114, .int .u8 101] 5 (4, 5))).heap.size ⟨some ⟨w11.heap.size, 0, none⟩, 4, 4, moreZ⟩ := const_slIn (w := w11) 5 (4, 5) (zs := moreZ) (c := 4) (by decide) (by decide) (by decide)
          have s12 : (w11.alloc (.cells #[.int .u8 109, .int .u8 111, .int .u8 114, .int .u8 101] 5 (4, 5))).heap.size = w11.heap.size + 1 := by simp
          have R12 := R11.below B12
          have R12' := R10'.below B12
          have hsep : 0 < (Sl.mk (some ⟨w11.heap.size, 0, none⟩) 4 4 moreZ).n → ∀ ad, (Sl.mk (some ⟨w11.heap.size, 0, none⟩) 4 4 moreZ).A = some ad → v11.ownBlock ≠ some ad.block := fun _ ad ha e => by
            have ha : some (Addr.mk w11.heap.size 0 none) = some ad := ha
            injection ha with ha
            subst ha
            have := own_lt R11.own _ e
            exact absurd this (Nat.lt_irrefl _)
          have hfl' : Fs.length ≤ 90000 := by omega
          obtain ⟨ha2, hq2⟩ := app_snoc R12 hS12.ok hsep hfl' (by omega) trivial
          rw [s12] at ha2 hq2
          dsimp only at ha2 hq2
          generalize hpp2 : appLP ((w11.alloc (.cells #[.int .u8 109, .int .u8 111, .int .u8 114, .int .u8 101] 5 (4, 5))).alloc (.cells #[.slice (some ⟨w11.heap.size, 0, none⟩) 4 4] 33)) v11 (.slice (some ⟨w11.heap.size + 1, 0, none⟩) 1 1) = p2 at hq2
          obtain ⟨v13, w13⟩ := p2
          obtain ⟨R13, g13, _⟩ := hq2 _ rfl
          dsimp only at R13 g13
          have hob := own_base R11.own
          have B13 : Below w10.heap.size w10 w13 := ((hB11.trans (B12.mono hw11)).alloc (by omega) (.cells #[.slice (some ⟨w11.heap.size, 0, none⟩) 4 4] 33)).grown g13 (by simp; omega) hob
          have R13' := Rc10.below B13
          obtain ⟨A13, c13, e13, hl13, hc13, hR13⟩ := R13.read
          have hl14 : (Fs ++ [Sl.mk (some ⟨w11.heap.size, 0, none⟩) 4 4 moreZ]).length = n + 1 := by simp [hfl]
          rw [hl14] at e13
          subst e13
          obtain ⟨A14, c14, e14, hl15, hc15, hR14⟩ := R13'.read
          have hl16 : Fs10.length = n + 1 := by rw [← zsOf_len, eF10]; simp [zsL_len]
          rw [hl16] at e14
          subst e14
          have hs := same_runs w13 A14 A13 Fs10 (Fs ++ [Sl.mk (some ⟨w11.heap.size, 0, none⟩) 4 4 moreZ]) (n + 1) (n + 1) c14 c13 hl16 hl14 hR14 hR13 (by omega) (by omega)
          rw [show decide (zsOf Fs10 = zsOf (Fs ++ [Sl.mk (some ⟨w11.heap.size, 0, none⟩) 4 4 moreZ])) = true from decide_eq_true (by rw [zsOf_snoc, eF, eF10])] at hs
          have B14 := hB10.trans (B13.mono hB10.size)
          clear R11 R12 R12' R10' hS12 B12 hsep hq1 hq2 g13 hob R13 R13' Rc11 Rc10 Rc9 hR13 hR14 G9
          go_wp2_with fail
          (with_reducible refine hs.mono ?_)
          rintro x w14 ⟨rfl, hB14⟩
          go_wp2_with fail
          go_ret
          exact ⟨rfl, B14.trans (hB14.mono B14.size)⟩
end Go.Proofs.YtccdifplpbnclaaDoor.walCrashes
