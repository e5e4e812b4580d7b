/- The walk of WalRooms. -/
import Derived.Test.YtccdifplpbnclaaDoorWalH
import Derived.Test.YtccdifplpbnclaaDoorBitsI
namespace Go.Proofs.YtccdifplpbnclaaDoor.walRooms
open Go.RowKit Go.Maps

def makeBF (x y : Value) : Sem Value := Instr.makeSlice 33 x y
theorem makeBF_fold (x y : Value) : Instr.makeSlice 33 x y = makeBF x y := rfl
def FewB (n : Nat) : Prop := n < 5000
def zerosB (n : Nat) : List Int := List.replicate n 0
theorem makeBF_run {n : Nat} (hn : FewB n) (w : World) : (makeBF (.int .i64 (n : Int)) (.int .i64 (n : Int))).run Tryd.prog w = .ok (.slice (some ⟨w.heap.size, 0, none⟩) n n) (w.alloc (.cells (u8V (zerosB n)).toArray 5)) := by
  obtain ⟨i, hi, hz, hs, hb⟩ := info_parts Tryd.infoByte
  have hn' : n < 5000 := hn
  have := run_makeSlice (P := Tryd.prog) (w := w) 33 5 i _ Tryd.underlying33 hi hz .i64 .i64 n n (by omega) (by omega) (by rw [hs]; omega) (by rw [hb]; omega) (by omega)
  unfold makeBF
  rw [this]
  congr 1
  rw [hs, Int.toNat_natCast, Nat.mul_one]
  have e : (madeCells (Value.int .u8 0).cells n).toList = (u8V (zerosB n)) := by
    rw [show (Value.int .u8 0).cells = #[Value.int .u8 0] from rfl, toList_madeCells_one]
    simp [u8V, zerosB]
  rw [← e, Array.toArray_toList]
attribute [local go_sem ↓] makeBF_fold
attribute [local go_sem] makeBF_run
theorem zerosB_in (w : World) {n : Nat} (hn : FewB n) : SlIn (w.alloc (.cells (u8V (zerosB n)).toArray 5)) (w.alloc (.cells (u8V (zerosB n)).toArray 5)).heap.size ⟨some ⟨w.heap.size, 0, none⟩, n, n, zerosB n⟩ := by
  have hn' : n < 5000 := hn
  have h := const_slIn (w := w) 5 (0, 0) (zs := zerosB n) (c := n) (fun z hz => by rw [List.eq_of_mem_replicate hz]; rfl) (by simp [zerosB]) (by unfold maxLen; omega)
  rwa [show (zerosB n).length = n by simp [zerosB]] at h
set_option maxRecDepth 100000 in
set_option maxHeartbeats 8000000 in
theorem walk (w : World) (hT : Laid w) (a : Int) (_ : -9223372036854775808 ≤ a) (_ : a ≤ 9223372036854775807) (A : Option Addr) (n c : Nat) (zs : List Int) (hr : Reads w w.heap.size 1 A n (zs.map (Value.int .i64))) (hnc : n ≤ c) (hcm : c ≤ maxLen) (_ : c * 8 ≤ 140737488351232) (_ : ∀ z ∈ zs, (Lit.int .i64 z).wf = true) :
    Calls Tryd.prog 5 #[.int .i64 a, .slice A n c] w fun e w' => e = .returned (.bool true) ∧ Below w.heap.size w w' := by
  have hn63 : n ≤ 9223372036854775807 := Nat.le_trans hnc hcm
  obtain ⟨q, hq, hq1⟩ : ∃ q : Nat, bits .and .i64 a 65535 = (q : Int) ∧ q < 65536 := ⟨(a % 65536).toNat, by rw [show bits .and .i64 a 65535 = a % 65536 from i64_and_mask a 16 (by omega)]; omega, by omega⟩
  have hmx : (if ((q : Int) + 51) / 52 < 1 then 1 else ((q : Int) + 51) / 52) = (pcs q : Int) := by unfold pcs; split <;> omega
  go_enter Tryd.func5, Tryd.ntmps5
  go_wp2_with fail
  (with_reducible refine (fit_runs w hT).mono ?_)
  rintro x w1 ⟨rfl, B1⟩
  by_cases h60 : 60 < n
  · have d60 : (60 : Int) < (n : Int) := by omega
    go_wp2_with fail
    go_ret
    exact ⟨rfl, B1⟩
  · have d60 : ¬ (60 : Int) < (n : Int) := by omega
    go_wp2_with fail
    (with_reducible refine (Pieces_runs w1 q (by omega)).mono ?_)
    rintro x w1' ⟨rfl, rfl⟩
    go_wp2_with fail
    (with_reducible refine (disk_new (w0 := w) (L := fun _ => False) B1 (fun _ e => e.elim)).mono ?_)
    rintro x w2 ⟨d, rfl, D2, _⟩
    go_wp2_with fail
    (with_reducible refine (D2.opens (by omega) hT).mono ?_)
    rintro x w3 ⟨l, v, Fs, L, rfl, eF, G3, _, _, Rc, _⟩
    clear D2 Rc eF B1 hmx hq
    go_wp2_with fail
    go_loopw [9, 10, 12, 13, 40] (fun s9 s10 _ _ s40 wr => ∃ (j : Nat) (R : List (List Int)), j ≤ n ∧ s40 = .int .i64 j ∧ LogSt w L wr d (2048 + used R) l R false ∧ s9 = .int .i64 ((2048 - used R : Nat) : Int) ∧ s10 = .int .i64 (R.length : Int)) (fun _ _ _ _ s40 _ => n - (intOf s40).toNat)
    case atStart => exact ⟨0, [], Nat.zero_le _, rfl, G3, rfl, rfl⟩
    case round =>
      obtain ⟨j, R, hj, rfl, G, rfl, rfl⟩ := hrel
      have hfit := G.fits
      have hge := used_ge R
      have hB := G.below
      by_cases hlt : j < n
      · have dl : (j : Int) < (n : Int) := by omega
        obtain ⟨b, off, rfl, _, hc⟩ := (hr.below hB).ints (by omega)
        have k1 := hc j hlt
        clear hc
        generalize zs.getD j 0 = z at k1
        obtain ⟨q, hq, hq1⟩ : ∃ q : Nat, bits .and .i64 z 4095 = (q : Int) ∧ q < 4096 := ⟨(z % 4096).toNat, by rw [show bits .and .i64 z 4095 = z % 4096 from i64_and_mask z 12 (by omega)]; omega, by omega⟩
        have hfew : FewB q := by show q < 5000; omega
        have B4 := (Below.refl wr.heap.size wr).alloc (Nat.le_refl _) (.cells (u8V (zerosB q)).toArray 5)
        have hin := zerosB_in wr hfew
        have hp := (G.grow B4).puts (by omega) hT hin
        by_cases g1 : 3000 < q
        · have d1 : (3000 : Int) < (q : Int) := by omega
          go_wp2_with fail
          (with_reducible refine hp.mono ?_)
          rintro x w4 ⟨_, hc⟩
          have K : x = .returned (.int .i64 2) ∧ LogSt w L w4 d (2048 + used R) l R false := by
            rcases hc with ⟨rfl, _, h⟩ | ⟨_, h, _⟩ | ⟨_, h, _⟩ | ⟨_, h, _⟩
            · exact ⟨rfl, h⟩
            all_goals exact absurd h (by show ¬ q ≤ 3000; omega)
          clear hc hp hin B4 G
          obtain ⟨rfl, G4⟩ := K
          go_wp2_with fail
          (with_reducible refine G4.room.mono ?_)
          rintro x w5 ⟨rfl, rfl⟩
          go_wp2_with fail
          (with_reducible refine G4.len.mono ?_)
          rintro x w5 ⟨rfl, rfl⟩
          go_wp2_with fail
          go_roundw
          case rel => go_light; exact ⟨j + 1, R, by omega, by go_num, G4, rfl, rfl⟩
          case measure => go_light; simp [intOf]; omega
        · have d1 : ¬ (3000 : Int) < (q : Int) := by omega
          by_cases g2 : 2048 < used R + pcs q
          · have d2 : ((2048 - used R : Nat) : Int) < (pcs q : Int) := by omega
            go_wp2_with fail
            (with_reducible refine (Pieces_runs wr q (by omega)).mono ?_)
            rintro x wr' ⟨rfl, rfl⟩
            go_wp2_with fail
            (with_reducible refine hp.mono ?_)
            rintro x w4 ⟨_, hc⟩
            have K : x = .returned (.int .i64 3) ∧ LogSt w L w4 d (2048 + used R) l R false := by
              rcases hc with ⟨_, h, _⟩ | ⟨rfl, _, _, h⟩ | ⟨_, _, h, _⟩ | ⟨_, _, h, _⟩
              · exact absurd h (by show ¬ 3000 < q; omega)
              · exact ⟨rfl, h⟩
              · cases h
              · exact absurd h (by show ¬ used R + pcs q ≤ 2048; omega)
            clear hc hp hin B4 G
            obtain ⟨rfl, G4⟩ := K
            go_wp2_with fail
            (with_reducible refine G4.room.mono ?_)
            rintro x w5 ⟨rfl, rfl⟩
            go_wp2_with fail
            (with_reducible refine G4.len.mono ?_)
            rintro x w5 ⟨rfl, rfl⟩
            go_wp2_with fail
            go_roundw
            case rel => go_light; exact ⟨j + 1, R, by omega, by go_num, G4, rfl, rfl⟩
            case measure => go_light; simp [intOf]; omega
          · have d2 : ¬ ((2048 - used R : Nat) : Int) < (pcs q : Int) := by omega
            have hzl : (zerosB q).length = q := by simp [zerosB]
            have hp' := hp
            dsimp only at hp'
            clear hp
            obtain ⟨R', hR'⟩ : ∃ R', R' = R ++ [zerosB q] := ⟨_, rfl⟩
            have hu : used R' = used R + pcs q := by rw [hR', used_one, hzl]
            have e1 : ((2048 - used R : Nat) : Int) - (pcs q : Int) = ((2048 - used R' : Nat) : Int) := by rw [hu]; omega
            have e2 : (R.length : Int) + 1 = (R'.length : Int) := by rw [hR']; simp
            have HU := hide hu
            rw [← hR'] at hp'
            clear hu hR' hzl
            go_wp2_with fail
            (with_reducible refine (Pieces_runs wr q (by omega)).mono ?_)
            rintro x wr' ⟨rfl, rfl⟩
            go_wp2_with fail
            (with_reducible refine (Pieces_runs wr q (by omega)).mono ?_)
            rintro x wr' ⟨rfl, rfl⟩
            go_wp2_with fail
            (with_reducible refine hp'.mono ?_)
            rintro x w4 ⟨_, hc⟩
            have K : x = .returned (.int .i64 0) ∧ LogSt w L w4 d (2048 + used R') l R' false := by
              rcases hc with ⟨_, h, _⟩ | ⟨_, _, h, _⟩ | ⟨_, _, h, _⟩ | ⟨rfl, _, _, h⟩
              · exact absurd h (by show ¬ 3000 < q; omega)
              · exact absurd h (by show ¬ 2048 < used R + pcs q; omega)
              · cases h
              · exact ⟨rfl, by rw [HU.out, ← Nat.add_assoc]; exact h⟩
            clear hc hp' hin B4 G HU
            obtain ⟨rfl, G4⟩ := K
            go_wp2_with fail
            (with_reducible refine G4.room.mono ?_)
            rintro x w5 ⟨rfl, rfl⟩
            go_wp2_with fail
            (with_reducible refine G4.len.mono ?_)
            rintro x w5 ⟨rfl, rfl⟩
            go_wp2_with fail
            go_roundw
            case rel => go_light; exact ⟨j + 1, R', by omega, by go_num, G4, rfl, rfl⟩
            case measure => go_light; simp [intOf]; omega
      · obtain rfl : j = n := by omega
        go_wp2_with fail
        (with_reducible refine (G.disk.opens (by omega) hT).mono ?_)
        rintro x w4 ⟨l4, v4, Fs4, L4, rfl, eF4, G4, _, _, Rc4, kp⟩
        have hB4 := G4.below
        obtain ⟨A4, c4, rfl, hl4, hc4, hR4⟩ := Rc4.read
        have hlen : (Fs4.length : Int) = (R.length : Int) := by rw [← eF4, zsOf_len]
        go_wp2_with fail
        go_ret
        exact ⟨rfl, hB4⟩
end Go.Proofs.YtccdifplpbnclaaDoor.walRooms
