/- The walk of BoxTurns. -/
import Derived.Test.YtejdmeheafgmbaaBoxL
import Derived.Test.YtejdmeheafgmbaaStrO
namespace Go.Proofs.Ytejdmeheafgmbaa.boxTurns
open Go.RowKit Go.Conc

attribute [local go_sem ↓] appTF_fold
attribute [local go_sem] appTF_has
/-- What is held in the first loop: some of those ahead wait, and are told by the law's own strings. -/
def Rel (w : World) (p c N : Nat) (v : Value) (j : Nat) (wr : World) : Prop := ∃ Fs : List Sl, BoxAt wr (apartV v) p c N Fs ∧ Fs.length = min j N ∧ StrO wr w.heap.size v (zsOf Fs) ∧ Below w.heap.size w wr
set_option maxRecDepth 100000 in
set_option maxHeartbeats 8000000 in
theorem walk (w : World) (A : Option Addr) (n c : Nat) (F : Nat → Sl) (hS : Sls w w.heap.size A n F) (hnc : n ≤ c) (hcm : c ≤ maxLen) (z : Int) (hz0 : -9223372036854775808 ≤ z) (hz1 : z ≤ 9223372036854775807) :
    Calls Try.prog 5 #[.slice A n c, .int .i64 z] w fun e w' => e = .returned (.bool true) ∧ Below w.heap.size w w' := by
  have hn63 : n ≤ 9223372036854775807 := Nat.le_trans hnc hcm
  go_enter Try.func5, Try.ntmps5
  go_wp2_with fail
  (with_reducible refine (fit_runs w).mono ?_)
  rintro x w1 ⟨rfl, B1⟩
  by_cases h0 : n = 0
  · subst h0
    go_wp2_with fail
    go_ret
    exact ⟨rfl, B1⟩
  · have d0 : ((n : Int) == 0) = false := by simp; omega
    by_cases h40 : 40 < n
    · have d40 : (40 : Int) < (n : Int) := by omega
      go_wp2_with fail
      go_ret
      exact ⟨rfl, B1⟩
    · have d40 : ¬ (40 : Int) < (n : Int) := by omega
      go_wp2_with fail
      (with_reducible refine (New_runs w1 allQ z).mono ?_)
      rintro x w2 ⟨p, c', rfl, hp, hc, b2, B2⟩
      have B2 := B1.trans (B2.mono B1.size)
      have hp : w.heap.size ≤ p := Nat.le_trans B1.size hp
      have hc : w.heap.size ≤ c' := Nat.le_trans B1.size hc
      have hN := capOf_bd z
      generalize hNe : capOf z = N at *
      clear B1
      go_wp2_with fail
      go_loopw [6, 27] (fun s6 s27 wr => ∃ j : Nat, j ≤ n ∧ s27 = .int .i64 j ∧ Rel w p c' N s6 j wr) (fun _ s27 _ => n - (intOf s27).toNat)
      case atStart => exact ⟨0, Nat.zero_le _, rfl, [], b2.mono (fun _ _ _ h => by simp [Value.ownBlock] at h), by simp, StrO.nil _ _, B2⟩
      case round =>
        obtain ⟨j, hj, rfl, Fs, hb, hl, ho, hB⟩ := hrel
        by_cases hlt : j < n
        · have dl : (j : Int) < (n : Int) := by omega
          obtain ⟨b, off, rfl, hbb, hcc⟩ := (hS.keep hB).at_ (by omega)
          have k1 := hcc j hlt
          have hin := (hS.each j hlt).keep hB
          have hBs := hB.size
          clear hcc
          generalize F j = s at *
          by_cases h50 : 50 < s.n
          · have d50 : (50 : Int) < (s.n : Int) := by omega
            go_wp2_with fail
            go_ret
            exact ⟨rfl, hB⟩
          · have d50 : ¬ (50 : Int) < (s.n : Int) := by omega
            have HP := hide (Put_runs _ _ p c' N _ Fs s hb hin hBs (by omega) (fun b h e => by have := own_lt ho b e; omega))
            go_wp2_with fail
            (with_reducible refine HP.out.mono ?_)
            clear HP
            rintro x w4 hx
            unfold PutIs at hx
            by_cases hr : Fs.length < N
            · rw [if_pos hr] at hx
              obtain ⟨rfl, ⟨t, t1, _, b4⟩, k4⟩ := hx
              have ho4 := ho.only k4 (own_noChan ho hb.chan)
              have hin4 : Reads w4 w.heap.size 1 s.A s.n (u8V s.zs) := hin.reads.chan hb.chan hBs k4
              have r4 := reads_string hin4 s.c
              have hM : (zsOf Fs).length ≤ 90000 := by rw [zsOf_len]; omega
              obtain ⟨g1, g2⟩ := appT_snoc ho4 s.zs hM (Nat.le_trans hBs k4.size)
              have HG := hide g2
              have B4 := below_all hB hc k4
              clear g2 hin4
              go_wp2_with fail
              go_roundw
              case rel =>
                go_light
                obtain ⟨q1, q2, q3⟩ := HG.out _ rfl
                refine ⟨j + 1, by omega, by go_num, Fs ++ [t], b4.app ho4 q2 q3, by rw [List.length_append, List.length_singleton]; omega, ?_, below_only B4 q2 (own_base ho4) B4.size⟩
                rw [zsOf_snoc, t1]
                exact q1
              case measure => go_light; simp [intOf]; omega
            · rw [if_neg hr] at hx
              obtain ⟨rfl, b4, k4⟩ := hx
              have ho4 := ho.only k4 (fun _ _ e => e)
              have B4 := below_only hB k4 (fun _ e => e.elim) hB.size
              go_wp2_with fail
              go_roundw
              case rel => go_light; exact ⟨j + 1, by omega, by go_num, Fs, b4, by omega, ho4, B4⟩
              case measure => go_light; simp [intOf]; omega
        · obtain rfl : j = n := by omega
          have b3 := hb.mono (Q' := allQ) (fun _ _ _ => trivial)
          obtain ⟨A6, c6, ev, hl6, hc6, hR6⟩ := ho.read
          obtain ⟨K, hKe⟩ : ∃ K, Fs.length = K := ⟨_, rfl⟩
          rw [zsOf_len, hKe] at ev hl6 hR6
          rw [hKe] at hl
          subst ev
          have hK64 : K ≤ 64 := by omega
          have HL := hide hl
          rename World => wb
          have HK := hide hKe
          clear hb ho b2 hl hKe
          go_wp2_with fail
          go_loopw [45] (fun s45 w5 => ∃ i : Nat, i ≤ K ∧ s45 = .int .i64 i ∧ BoxAt w5 allQ p c' N (rotL Fs i) ∧ Only (· = c') wb w5) (fun s45 _ => K - (intOf s45).toNat)
          case atStart => exact ⟨0, Nat.zero_le _, rfl, by rw [rotL_zero]; exact b3, Only.refl _ _⟩
          case round =>
            obtain ⟨i, hi, rfl, b5, k5⟩ := hrel
            by_cases hlt : i < K
            · have dl : (i : Int) < (K : Int) := by omega
              obtain ⟨t, Ts, e1, e2⟩ := rotL_succ (Fs := Fs) (k := i) (by rw [HK.out]; exact hlt)
              rw [e1] at b5
              have hT := hide (Turn_some _ allQ p c' N t Ts b5)
              rw [← e2] at hT
              clear b5 e1 e2
              go_wp2_with fail
              (with_reducible refine hT.out.mono ?_)
              rintro x w6 ⟨rfl, b6, k6⟩
              have k6 := k5.trans_ k6
              clear hT
              go_wp2_with fail
              go_roundw
              case rel => go_light; exact ⟨i + 1, by omega, by go_num, b6, k6⟩
              case measure => go_light; simp [intOf]; omega
            · obtain rfl : K = i := by omega
              rw [← HK.out, rotL_all] at b5
              rename World => wc
              go_wp2_with fail
              go_loopw [53] (fun s53 w7 => ∃ i : Nat, i ≤ K ∧ s53 = .int .i64 i ∧ BoxAt w7 allQ p c' N (Fs.drop i) ∧ Only (· = c') wb w7) (fun s53 _ => K - (intOf s53).toNat)
              case atStart => exact ⟨0, Nat.zero_le _, rfl, by rw [List.drop_zero]; exact b5, k5⟩
              case round =>
                obtain ⟨i, hi, rfl, b7, k7⟩ := hrel
                by_cases hlt : i < K
                · have dl : (i : Int) < (K : Int) := by omega
                  have hR7 : StrL wr A6 K (zsOf Fs) := (Reads.chan hR6 b3.chan (Nat.le_refl _) k7).more k7.size
                  obtain ⟨b, off, rfl, hbb, hcc⟩ := hR7.at_ (by omega)
                  have hlz : i < (zsOf Fs).length := by rw [zsOf_len, HK.out]; exact hlt
                  have hlF : i < Fs.length := by rw [HK.out]; exact hlt
                  have k1 := hcc i hlz
                  have ez : (zsOf Fs)[i] = Fs[i].zs := by simp [zsOf]
                  rw [ez] at k1
                  unfold stV at k1
                  rw [List.drop_eq_getElem_cons hlF] at b7
                  have hT := hide (Take_some _ allQ p c' N _ _ b7)
                  clear hcc ez hlz hR7
                  generalize Fs[i] = s at *
                  go_wp2_with fail
                  (with_reducible refine hT.out.mono ?_)
                  rintro x w8 ⟨rfl, b8, k8, hs⟩
                  have k8 := k7.trans_ k8
                  have r8 := reads_string hs.in_.reads s.c
                  clear hT b7 hs
                  generalize strOfNums s.zs = y at *
                  go_wp2_with fail
                  go_roundw
                  case rel => go_light; exact ⟨i + 1, by omega, by go_num, b8, k8⟩
                  case measure => go_light; simp [intOf]; omega
                · obtain rfl : K = i := by omega
                  rw [← HK.out, List.drop_length] at b7
                  have hL := Len_runs _ allQ p c' N [] b7
                  have hT := Turn_none _ allQ p c' N b7
                  have hW := Twice_none _ allQ p c' N b7
                  have hn : (if 64 < (if z < 1 then 1 else z) then 64 else (if z < 1 then 1 else z)) = (N : Int) := by rw [← hNe]; unfold capOf; split <;> split <;> omega
                  have hB7 := below_all hB hc k7
                  clear b7 k7 b5 k5 hNe
                  go_wp2_with fail
                  (with_reducible refine hL.mono ?_)
                  clear hL
                  rintro x w8 ⟨rfl, rfl⟩
                  go_wp2_with fail
                  (with_reducible refine hT.mono ?_)
                  clear hT
                  rintro x w8 ⟨rfl, rfl⟩
                  go_wp2_with fail
                  (with_reducible refine hW.mono ?_)
                  clear hW
                  rintro x w8 ⟨rfl, rfl⟩
                  go_wp2_with fail
                  all_goals
                    go_ret
                    have hm := HL.out
                    go_light
                    exact ⟨ret_bool (by simp; omega), hB7⟩
end Go.Proofs.Ytejdmeheafgmbaa.boxTurns
