/- The walk of WalPuts. -/
import Derived.Test.YtccdifplpbnclaaDoorWalH
namespace Go.Proofs.YtccdifplpbnclaaDoor.walPuts
open Go.RowKit Go.Maps

set_option maxRecDepth 100000 in
set_option maxHeartbeats 8000000 in
theorem walk (w : World) (hT : Laid w) (A : Option Addr) (n c : Nat) (F : Nat → Sl) (hS : Sls w w.heap.size A n F) (hnc : n ≤ c) (hcm : c ≤ maxLen) :
    Calls Tryd.prog 7 #[.slice A n c] w fun e w' => e = .returned (.bool true) ∧ Below w.heap.size w w' := by
  have hn63 : n ≤ 9223372036854775807 := Nat.le_trans hnc hcm
  go_enter Tryd.func7, Tryd.ntmps7
  go_wp2_with fail
  (with_reducible refine (fit_runs w hT).mono ?_)
  rintro x w1 ⟨rfl, B1⟩
  go_wp2_with fail
  (with_reducible refine (few_runs w1 A n c w.heap.size F (hS.keep B1) hn63).mono ?_)
  rintro x w1' ⟨hx, rfl⟩
  rcases hx with rfl | ⟨rfl, hn⟩
  · go_wp2_with fail
    go_ret
    exact ⟨rfl, B1⟩
  · go_wp2_with fail
    (with_reducible refine (disk_new (w0 := w) (L := fun _ => False) B1 (fun _ e => e.elim)).mono ?_)
    rintro x w2 ⟨d, rfl, D2, _⟩
    go_wp2_with fail
    (with_reducible refine (D2.opens (by omega) hT).mono ?_)
    rintro x w3 ⟨l, v, Fs, L, rfl, eF, G3, _, _, Rc, _⟩
    clear D2 Rc eF B1
    go_wp2_with fail
    go_loopw [8, 26] (fun _ s26 wr => ∃ j : Nat, j ≤ n ∧ s26 = .int .i64 j ∧ LogSt w L wr d (2048 + used (zsL F j)) l (zsL F j) false) (fun _ s26 _ => n - (intOf s26).toNat)
    case atStart => exact ⟨0, Nat.zero_le _, rfl, by simpa [zsL, zsOf, used] using G3⟩
    case round =>
      obtain ⟨j, hj, rfl, G⟩ := hrel
      have hfit := G.fits
      have hB := G.below
      by_cases hlt : j < n
      · have dl : (j : Int) < (n : Int) := by omega
        obtain ⟨b, off, rfl, hb, hc⟩ := (hS.keep hB).at_ (by omega)
        have k1 := hc j hlt
        have hin := (hS.each j hlt).up hB
        have hcl := Nat.le_trans hin.n_le hin.c_le
        have hcl : (F j).n ≤ 9223372036854775807 := hcl
        clear hc
        by_cases h3 : 3000 < (F j).n
        · have d3 : (3000 : Int) < ((F j).n : Int) := by omega
          go_wp2_with fail
          go_ret
          exact ⟨rfl, hB⟩
        · have d3 : ¬ (3000 : Int) < ((F j).n : Int) := by omega
          have hp := G.puts (by omega) hT hin
          go_wp2_with fail
          (with_reducible refine hp.mono ?_)
          rintro x w4 ⟨_, hc⟩
          rcases hc with ⟨_, h, _⟩ | ⟨rfl, _, _, G4⟩ | ⟨_, _, h, _⟩ | ⟨rfl, h3n, _, G4⟩
          · omega
          · go_wp2_with fail
            go_ret
            exact ⟨rfl, G4.below⟩
          · cases h
          · have hz : (F j).zs.length = (F j).n := hin.len
            have G5 : LogSt w L w4 d (2048 + used (zsL F (j + 1))) l (zsL F (j + 1)) false := by
              rw [zsL_succ, used_one, hz, ← Nat.add_assoc]; exact G4
            clear hp G4 G hin
            go_wp2_with fail
            go_roundw
            case rel => go_light; exact ⟨j + 1, by omega, by go_num, G5⟩
            case measure => go_light; simp [intOf]; omega
      · obtain rfl : j = n := by omega
        go_wp2_with fail
        (with_reducible refine (G.diskL.opens (by omega) hT).mono ?_)
        rintro x w4 ⟨l4, v4, Fs4, L4, rfl, eF4, G4, _, _, Rc4, kp⟩
        have hlog := kp.log G.log (.inr rfl)
        have hB4 := G4.below
        obtain ⟨A4, c4, rfl, hl4, hc4, hR4⟩ := Rc4.read
        have hl4' : Fs4.length ≤ 9223372036854775807 := Nat.le_trans hl4 hc4
        have hA := hS.up hB4 (Nat.le_refl j)
        have hs := same_runs w4 A4 A Fs4 ((List.range j).map F) Fs4.length j c4 c rfl (by simp) hR4 hA hl4' hn63
        have hd : decide (zsOf Fs4 = zsOf ((List.range j).map F)) = true := decide_eq_true eF4
        rw [hd] at hs
        clear G kp Rc4
        go_wp2_with fail
        (with_reducible refine hs.mono ?_)
        rintro x w5 ⟨rfl, hB5⟩
        have G5 := G4.grow hB5
        have hlog5 : LogIs w5 l d (zsL F j).length (used (zsL F j)) := VBlk.below hlog hB5 (VBlk.lt hlog)
        have hlen := G5.len
        rw [zsL_len] at hlen
        go_wp2_with fail
        (with_reducible refine hlen.mono ?_)
        rintro x w6 ⟨rfl, rfl⟩
        go_wp2_with fail
        (with_reducible refine G5.room.mono ?_)
        rintro x w6 ⟨rfl, rfl⟩
        go_wp2_with fail
        (with_reducible refine (Room_runs w5 l d _ _ hlog5 hfit).mono ?_)
        rintro x w6 ⟨rfl, rfl⟩
        go_wp2_with fail
        go_ret
        exact ⟨rfl, G5.below⟩
end Go.Proofs.YtccdifplpbnclaaDoor.walPuts
