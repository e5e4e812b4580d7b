/- The walk of WalCuts. -/
import Derived.Test.YtccdifplpbnclaaDoorWalI
namespace Go.Proofs.YtccdifplpbnclaaDoor.walCuts
open Go.RowKit Go.Maps

attribute [local go_sem ↓] appIF_fold
attribute [local go_sem] appIF_has
set_option maxRecDepth 100000 in
set_option maxHeartbeats 8000000 in
theorem walk (w : World) (hT : Laid w) (A : Option Addr) (n c : Nat) (F : Nat → Sl) (hS : Sls w w.heap.size A n F) (hnc : n ≤ c) (hcm : c ≤ maxLen) (a : Int) (_ : -9223372036854775808 ≤ a) (_ : a ≤ 9223372036854775807)
    (A' : Option Addr) (n' c' : Nat) (zs : List Int) (hr : Reads w w.heap.size 1 A' n' (zs.map (Value.int .u8))) (hnc' : n' ≤ c') (hcm' : c' ≤ maxLen) (_ : c' * 1 ≤ 140737488351232) (hwf : ∀ z ∈ zs, (Lit.int .u8 z).wf = true) :
    Calls Tryd.prog 8 #[.slice A n c, .int .i64 a, .slice A' n' c'] w fun e w' => e = .returned (.bool true) ∧ Below w.heap.size w w' := by
  have hn63 : n ≤ 9223372036854775807 := Nat.le_trans hnc hcm
  have hn63' : n' ≤ 9223372036854775807 := Nat.le_trans hnc' hcm'
  go_enter Tryd.func8, Tryd.ntmps8
  go_wp2_with fail
  (with_reducible refine (fit_runs w hT).mono ?_)
  rintro x w1 ⟨rfl, B1⟩
  have hfew := few_runs w1 A n c w.heap.size F (hS.keep B1) hn63
  go_wp2_with fail
  (with_reducible refine hfew.mono ?_)
  rintro x w1' ⟨hx, rfl⟩
  rcases hx with rfl | ⟨rfl, hn⟩
  · go_wp2_with fail
    go_ret
    exact ⟨rfl, B1⟩
  · by_cases h0 : n = 0
    · have d0 : ((n : Int) == 0) = true := by simp [h0]
      go_wp2_with fail
      go_ret
      exact ⟨rfl, B1⟩
    · have d0 : ((n : Int) == 0) = false := by simp; omega
      by_cases h40 : 40 < n'
      · have d40 : (40 : Int) < (n' : Int) := by omega
        go_wp2_with fail
        go_ret
        exact ⟨rfl, B1⟩
      · have d40 : ¬ (40 : Int) < (n' : Int) := by omega
        go_wp2_with fail
        (with_reducible refine (disk_new (w0 := w) (L := fun _ => False) B1 (fun _ e => e.elim)).mono ?_)
        rintro x w2 ⟨d, rfl, D2, _⟩
        go_wp2_with fail
        (with_reducible refine (D2.opens (by omega) hT).mono ?_)
        rintro x w3 ⟨l, v, Fs, L0, rfl, eF, G3, _, _, Rc, _⟩
        clear D2 Rc eF B1 hfew
        go_wp2_with fail
        go_loopw [11, 12, 14, 43] (fun s11 s12 _ s43 wr => ∃ (j : Nat) (L : Nat → Prop), j ≤ n ∧ s43 = .int .i64 j ∧ s12 = .int .i64 (used (zsL F j) : Int) ∧ LogSt w L wr d (2048 + used (zsL F j)) l (zsL F j) false ∧ wr.ownsRow w.heap.size 3 1 s11 j (endsV F j) ∧ ∀ g, s11.ownBlock = some g → L g) (fun _ _ _ s43 _ => n - (intOf s43).toNat)
        case atStart => exact ⟨0, L0, Nat.zero_le _, rfl, rfl, G3, World.ownsRow_nil _ _ _ _, fun g hg => by simp [Value.ownBlock] at hg⟩
        case round =>
          obtain ⟨j, L, hj, rfl, rfl, G, hO, hOL⟩ := hrel
          have hfit := G.fits
          have hB := G.below
          by_cases hlt : j < n
          · have dl : (j : Int) < (n : Int) := by omega
            obtain ⟨b, off, rfl, hb, hc⟩ := (hS.keep hB).at_ (by omega)
            have k1 := hc j hlt
            have hin := (hS.each j hlt).up hB
            have hcl := Nat.le_trans hin.n_le hin.c_le
            have hcl : (F j).n ≤ 9223372036854775807 := hcl
            clear hc
            by_cases h3 : 3000 < (F j).n
            · have d3 : (3000 : Int) < ((F j).n : Int) := by omega
              go_wp2_with fail
              go_ret
              exact ⟨rfl, hB⟩
            · have d3 : ¬ (3000 : Int) < ((F j).n : Int) := by omega
              have hp := G.puts (by omega) hT hin
              go_wp2_with fail
              (with_reducible refine hp.mono ?_)
              rintro x w4 ⟨kp, hc⟩
              rcases hc with ⟨_, h, _⟩ | ⟨rfl, _, _, G4⟩ | ⟨_, _, h, _⟩ | ⟨rfl, h3n, hu, G4⟩
              · omega
              · go_wp2_with fail
                go_ret
                exact ⟨rfl, G4.below⟩
              · cases h
              · have hz : (F j).zs.length = (F j).n := hin.len
                have G5 : LogSt w L w4 d (2048 + used (zsL F (j + 1))) l (zsL F (j + 1)) false := by
                  rw [zsL_succ, used_one, hz, ← Nat.add_assoc]; exact G4
                have eu : (used (zsL F j) : Int) + (pcs (F j).n : Int) = (used (zsL F (j + 1)) : Int) := by rw [zsL_succ, used_one, hz]; simp
                have hO4 := own_only hO kp (fun g hg e => e (hOL g hg))
                have hob := own_base hO4
                have hs4 := G5.below.size
                clear hp G4 G hin hO kp
                have hfit5 := G5.fits
                generalize hu1 : used (zsL F (j + 1)) = u1 at *
                obtain ⟨A5, c5, rfl, hc5, hcm5⟩ := own_form hO4
                have B5 := (Below.refl w4.heap.size w4).alloc (Nat.le_refl _) (.cells #[.int .i64 (u1 : Int)] 3)
                have G6 := G5.grow B5
                have hO6 := hO4.alloc (.cells #[.int .i64 (u1 : Int)] 3)
                have hrd := reads_one w4 (.int .i64 (u1 : Int)) 3
                obtain ⟨ha, hp3⟩ := appI_any (c := 1) hO6 hrd (by intro u hu; simp at hu; subst hu; rfl) (by omega) (by simp; omega)
                generalize hpp : appIP (w4.alloc (.cells #[.int .i64 (u1 : Int)] 3)) (.slice A5 j c5) (.slice (some ⟨w4.heap.size, 0, none⟩) 1 1) = p at hp3
                obtain ⟨p1, p2, p3⟩ := hp3 p rfl
                have G7 := G6.step (L' := fun b => L b ∨ p.1.ownBlock = some b) (only_grown p2) (fun b hb => ⟨hOL b hb, hob b hb⟩) (fun b hb => by
                  have hsz := p2.size
                  rcases hb with hb | hb
                  · exact ⟨.inl hb, Nat.lt_of_lt_of_le (G6.inn b hb) hsz⟩
                  · refine ⟨?_, own_lt p1 b hb⟩
                    rcases p3 with p3 | p3
                    · exact .inl (hOL b (by rw [← p3]; exact hb))
                    · rw [p3] at hb; injection hb with hb; exact .inr (by omega))
                have K1 : p.2.ownsRow w.heap.size 3 1 p.1 (j + 1) (endsV F (j + 1)) := by rw [endsV_succ, hu1]; exact p1
                clear p1 p2 p3 hp3 G6 G5 hO6 hO4 hrd B5 hob
                go_wp2_with fail
                (with_reducible refine (Pieces_runs w4 (F j).n hcl).mono ?_)
                rintro x w4' ⟨rfl, rfl⟩
                go_wp2_with fail
                go_roundw
                case rel => go_light; exact ⟨j + 1, fun b => L b ∨ p.1.ownBlock = some b, by omega, by go_num, by rw [hu1], by rw [hu1]; exact G7, K1, fun g hg => .inr hg⟩
                case measure => go_light; simp [intOf]; omega
          · obtain rfl : j = n := by omega
            obtain ⟨f, lf, hG, hLF, _⟩ := G
            have hge := used_ge (zsL F j)
            rw [zsL_len] at hge
            obtain ⟨q, hq, hq1⟩ : ∃ q : Nat, bits .and .i64 a 65535 = (q : Int) ∧ q < 65536 := ⟨(a % 65536).toNat, by rw [show bits .and .i64 a 65535 = a % 65536 from i64_and_mask a 16 (by omega)]; omega, by omega⟩
            have hy1 : (q : Int) % (used (zsL F j) : Int) = ((q % used (zsL F j) : Nat) : Int) := by push_cast; rfl
            have hy2 : (q : Int).tmod (used (zsL F j) : Int) = ((q % used (zsL F j) : Nat) : Int) := by rw [Int.tmod_eq_emod_of_nonneg (by omega)]; exact hy1
            have hyl : q % used (zsL F j) < used (zsL F j) := Nat.mod_lt _ (by omega)
            generalize q % used (zsL F j) = y at *
            have hz0 : zs.length = n' := by have := hr.1; rw [List.length_map] at this; omega
            have hin : SlIn wr w.heap.size ⟨A', n', c', zs⟩ := ⟨hr.below hB, hnc', hcm', hwf⟩
            have hW := hG.atL.write (by omega) (y : Int) (by omega) (by omega) hin
            rw [wrt_idle (by omega) (by omega) (by show zs.length ≤ 64; omega)] at hW
            go_wp2_with fail
            (with_reducible refine hW.mono ?_)
            rintro x w4 ⟨rfl, G4, kp4⟩
            have hSy := G4.sync (by omega)
            rw [show synS ⟨f, [] ++ [((y : Int), padB zs)], false, lf, false⟩ = (0, idleS (updF f (y : Int) (padB zs)) lf) from by simp [synS, idleS, syncF]] at hSy
            go_wp2_with fail
            (with_reducible refine hSy.mono ?_)
            rintro x w5 ⟨rfl, G5, kp5⟩
            have hO5 := own_only (own_only hO kp4 (fun g hg e => e (hOL g hg))) kp5 (fun g hg e => e (hOL g hg))
            have hB5 := G5.below
            clear hW hSy G4 hO kp4 kp5 hG hin
            obtain ⟨A5, c5, rfl, hc5, hcm5⟩ := own_form hO5
            have hcm6 : c5 ≤ 9223372036854775807 := hcm5
            obtain ⟨eb, eo, rfl, _, hec⟩ := (Reads.of_own hO5).plain (by omega)
            have hFin : FinF (updF f (y : Int) (padB zs)) := fun x hx => by
              unfold updF
              rw [if_neg (by omega)]
              exact hLF.2 x (by omega)
            go_wp2_with fail
            go_loop [15] (fun s15 => ∃ i : Nat, i < j ∧ s15 = .int .i64 i ∧ ∀ k, k < i → used (zsL F (k + 1)) ≤ y) (fun s15 => j - (intOf s15).toNat)
            case atStart => exact ⟨0, by omega, rfl, fun k hk => by omega⟩
            case round =>
              obtain ⟨i, hi, rfl, hbef⟩ := hrel
              have k1 := hec i _ (endsV_at F hi)
              have hmono : used (zsL F (i + 1)) ≤ used (zsL F j) := by
                rw [← zsL_take F (show i + 1 ≤ j by omega)]
                have := used_append ((zsL F j).take (i + 1)) ((zsL F j).drop (i + 1))
                rw [List.take_append_drop] at this
                omega
              by_cases hle : used (zsL F (i + 1)) ≤ y
              · have dle : (used (zsL F (i + 1)) : Int) ≤ (y : Int) := by omega
                have hne : i + 1 ≠ j := by rintro rfl; omega
                go_wp2_with fail
                go_round
                case rel => exact ⟨i + 1, by omega, by go_num, fun k hk => by
                  by_cases e : k = i
                  · subst e; exact hle
                  · exact hbef k (by omega)⟩
                case measure => simp [intOf]; omega
              · have dle : ¬ (used (zsL F (i + 1)) : Int) ≤ (y : Int) := by omega
                have hst : used (zsL F i) ≤ y := by
                  rcases Nat.eq_zero_or_pos i with h | h
                  · subst h; exact Nat.zero_le _
                  · have := hbef (i - 1) (by omega)
                    rwa [show i - 1 + 1 = i by omega] at this
                have hlen : i < (zsL F j).length := by rw [zsL_len]; exact hi
                have hus : used (zsL F (i + 1)) = used (zsL F i) + pcs (F i).zs.length := by rw [zsL_succ, used_one]
                have hCut := hLF.cut (i := i) (m := y - used (zsL F i)) hlen (by rw [zsL_at F hi]; omega) (pad_last (zs := zs) (by omega))
                rw [zsL_take F (by omega), show used (zsL F i) + (y - used (zsL F i)) = y by omega] at hCut
                have G6 : DiskSt w L w5 d (2048 + used (zsL F j) + 1) (zsL F i) := ⟨_, lf, G5, hFin, hCut⟩
                clear hCut hus hbef hmono hec G5
                have hij : i ≤ j := by omega
                have hic : i ≤ c := by omega
                have hcm7 : c ≤ 9223372036854775807 := hcm
                go_wp2_with fail
                (with_reducible refine (G6.opens (by omega) hT).mono ?_)
                rintro x w6 ⟨l6, v6, Fs6, L6, rfl, eF6, G7, _, _, Rc6, _⟩
                have hB7 := G7.below
                obtain ⟨A6, c6, rfl, hl6, hc6, hR6⟩ := Rc6.read
                have hl6' : Fs6.length ≤ 9223372036854775807 := Nat.le_trans hl6 hc6
                have hA := hS.up hB7 hij
                have hs := same_runs w6 A6 A Fs6 ((List.range i).map F) Fs6.length i c6 c rfl (by simp) hR6 hA hl6' (by omega)
                rw [show decide (zsOf Fs6 = zsOf ((List.range i).map F)) = true from decide_eq_true eF6] at hs
                clear Rc6 G6
                go_wp2_with fail
                (with_reducible refine hs.mono ?_)
                rintro x w7 ⟨rfl, hB8⟩
                have G8 := G7.grow hB8
                go_wp2_with fail
                go_ret
                exact ⟨rfl, G8.below⟩
end Go.Proofs.YtccdifplpbnclaaDoor.walCuts
