/- The contract of view's leave. -/
import Derived.Test.YtoknodkgmeinmaaVwJ
namespace Go.Proofs.Ytoknodkgmeinmaa
open Go.RowKit

def leaveR (v : V) (who heir : Int) : Option V := if canLeave v who heir = true then some (leaveV v who.toNat heir.toNat) else none
/-- The heirs, as far as the loop has come. -/
def hsL (v : V) (k j n : Nat) : List Nat := (List.range 5).map fun i => if i < n ∧ v.heir i = k + 1 then j + 1 else v.heir i
theorem hsL_len (v : V) (k j n : Nat) : (hsL v k j n).length = 5 := by simp [hsL]
theorem hsL_zero {v : V} (h : v.h.length = 5) (k j : Nat) : hsL v k j 0 = v.h := by
  apply List.ext_getElem
  · rw [hsL_len, h]
  · intro i h1 h2
    simp [hsL, V.heir, h2]
theorem hsL_yes {v : V} {k j n : Nat} (hn : v.heir n = k + 1) : hsL v k j (n + 1) = (hsL v k j n).set n (j + 1) := by
  apply List.ext_getElem
  · rw [List.length_set, hsL_len, hsL_len]
  · intro i h1 h2
    simp only [hsL, List.getElem_map, List.getElem_range, List.getElem_set]
    by_cases e : n = i
    · subst e; simp [hn]
    · have : i < n + 1 ↔ i < n := by omega
      simp [e, this]
theorem hsL_no {v : V} {k j n : Nat} (hn : ¬ v.heir n = k + 1) : hsL v k j (n + 1) = hsL v k j n := by
  apply List.ext_getElem
  · rw [hsL_len, hsL_len]
  · intro i h1 h2
    simp only [hsL, List.getElem_map, List.getElem_range]
    by_cases e : n = i
    · subst e; simp [hn]
    · have : i < n + 1 ↔ i < n := by omega
      simp [this]
theorem hsL_end (v : V) (k j : Nat) : (hsL v k j 5).set k (j + 1) = (leaveV v k j).h := by
  apply List.ext_getElem
  · rw [List.length_set, hsL_len]; simp [leaveV]
  · intro i h1 h2
    have hi : i < 5 := by rw [List.length_set, hsL_len] at h1; exact h1
    simp only [hsL, leaveV, List.getElem_map, List.getElem_range, List.getElem_set]
    by_cases e : k = i
    · subst e; simp
    · have : ¬ i = k := fun h => e h.symm
      simp [e, this, hi]
theorem zV_set (e m : Nat) (h : List Nat) (n x : Nat) : (zV ⟨e, m, h⟩).set (2 + n) ((x : Nat) : Int) = zV ⟨e, m, h.set n x⟩ := by
  rw [show 2 + n = n + 1 + 1 by omega]
  simp [zV, zH, List.map_set]
theorem zV_left {v : V} (k : Nat) : (((zV v).set 0 ((v.e : Int) + 1)).set 1 ((v.m ^^^ 2 ^ k : Nat) : Int)) = zV ⟨v.e + 1, v.m ^^^ 2 ^ k, v.h⟩ := rfl
attribute [local go_sem ↓] loadViewF_fold storeViewF_fold allocViewF_fold buildViewF_fold loadInts5F_fold indexInts5F_fold
attribute [local go_sem] loadViewF_has storeViewF_has allocViewF_run buildViewF_none buildViewF_two loadInts5F_has indexInts5F_at
set_option maxRecDepth 100000 in
set_option maxHeartbeats 3200000 in
theorem leave_any (v : V) (ho : v.Ok) (he : v.e < 1000000) (who heir : Int) (w : World) :
    Calls Try.prog 21 #[.agg (iA (zV v)), .int .i64 who, .int .i64 heir] w fun e w' => e = .returned (.tuple #[.agg (iA (resVw (leaveR v who heir))), .int .i64 (resE (leaveR v who heir))]) ∧ Below w.heap.size w w' := by
  have hI : IBlk ((w.alloc (.cells (iA (zV v)) 27)).alloc (.cells (iA (zeros 7)) 27)) w.heap.size 27 (zV v) := (IBlk.new _ _ _).alloc _
  have hJ : IBlk ((w.alloc (.cells (iA (zV v)) 27)).alloc (.cells (iA (zeros 7)) 27)) (w.heap.size + 1) 27 (zeros 7) := by
    have := IBlk.new (w.alloc (.cells (iA (zV v)) 27)) 27 (zeros 7)
    simpa using this
  have hB : Below w.heap.size w ((w.alloc (.cells (iA (zV v)) 27)).alloc (.cells (iA (zeros 7)) 27)) := ((Below.refl _ _).alloc (Nat.le_refl _) _).alloc (by simp) _
  have zl := zV_length ho.len
  have i7 := Try.infoView
  have iz := is_zeros 7
  have hM1 := fun (w : World) => member_any v ho.len who w
  have hM2 := fun (w : World) => member_any v ho.len heir w
  have bad : ∀ w2, Below w.heap.size w w2 → IBlk w2 (w.heap.size + 1) 27 (zeros 7) → Room w2 (w.heap.size + 1) 0 7 ∧ IBlk (w2.setCells (w.heap.size + 1) 0 (iV (zeros 7))) (w.heap.size + 1) 27 (zeros 7) ∧ Below w.heap.size w (w2.setCells (w.heap.size + 1) 0 (iV (zeros 7))) := fun w2 hB2 hJ2 =>
    ⟨hJ2.room 0 7 (by rw [zeros_length]; decide), hJ2.fill rfl, below_only hB2 (only_cells _ (w.heap.size + 1) 0 (iV (zeros 7))) (fun i (e : i = w.heap.size + 1) => by omega) hB2.size⟩
  cases hc : canLeave v who heir with
  | false =>
    rw [leaveR, hc, if_neg (by decide)]
    have hc' : inV v.m who = false ∨ (inV v.m who = true ∧ inV v.m heir = false) ∨ (inV v.m who = true ∧ inV v.m heir = true ∧ (heir == who) = true) := by
      simp only [canLeave] at hc
      cases h1 : inV v.m who <;> cases h2 : inV v.m heir <;> simp [h1, h2] at hc ⊢
      exact hc
    go_enter Try.func21, Try.ntmps21
    go_upto_region 1 with fail
    generalize (w.alloc (.cells (iA (zV v)) 27)).alloc (.cells (iA (zeros 7)) 27) = w1 at hI hJ hB
    obtain ⟨r1, h1⟩ := hI.whole zl
    go_wp2_with fail
    (with_reducible refine (hM1 w1).mono ?_)
    rintro e w2 ⟨rfl, hb2⟩
    have hI2 := hI.below hb2 hI.lt
    have hJ2 := hJ.below hb2 hJ.lt
    have hB2 := hB.trans (hb2.mono hB.size)
    clear hI hJ hB hb2 r1 h1 hM1
    obtain ⟨r2, h2⟩ := hI2.whole zl
    rcases hc' with hc' | ⟨hc', hc2⟩ | ⟨hc', hc2, hc3⟩
    · rw [hc']
      obtain ⟨b1, b2, b3⟩ := bad w2 hB2 hJ2
      clear bad
      go_wp2_with fail
      exact bodyPost_ret (results_i2 rfl rfl b2 Try.underlying27 rfl i7 _ rfl) rfl ⟨rfl, b3⟩
    · rw [hc']
      go_wp2_with fail
      (with_reducible refine (hM2 w2).mono ?_)
      rintro e w4 ⟨rfl, hb4⟩
      rw [hc2]
      obtain ⟨b1, b2, b3⟩ := bad w4 (hB2.trans (hb4.mono hB2.size)) (hJ2.below hb4 hJ2.lt)
      clear bad
      go_wp2_with fail
      exact bodyPost_ret (results_i2 rfl rfl b2 Try.underlying27 rfl i7 _ rfl) rfl ⟨rfl, b3⟩
    · rw [hc']
      go_wp2_with fail
      (with_reducible refine (hM2 w2).mono ?_)
      rintro e w4 ⟨rfl, hb4⟩
      rw [hc2]
      obtain ⟨b1, b2, b3⟩ := bad w4 (hB2.trans (hb4.mono hB2.size)) (hJ2.below hb4 hJ2.lt)
      clear bad
      go_wp2_with fail
      exact bodyPost_ret (results_i2 rfl rfl b2 Try.underlying27 rfl i7 _ rfl) rfl ⟨rfl, b3⟩
  | true =>
    obtain ⟨k, j, rfl, rfl, hk5, hj5, hbk, hbj, hne⟩ := canLeave_true hc
    rw [leaveR, hc, if_pos rfl, show ((k : Int)).toNat = k from rfl, show ((j : Int)).toNat = j from rfl]
    rw [inV_nat hk5, hbk] at hM1
    rw [inV_nat hj5, hbj] at hM2
    have dn : ((j : Int) == (k : Int)) = false := beq_eq_false_iff_ne.2 (fun e => hne (by omega))
    clear bad
    go_enter Try.func21, Try.ntmps21
    go_upto_region 1 with fail
    generalize (w.alloc (.cells (iA (zV v)) 27)).alloc (.cells (iA (zeros 7)) 27) = w1 at hI hJ hB
    obtain ⟨r1, h1⟩ := hI.whole zl
    go_wp2_with fail
    (with_reducible refine (hM1 w1).mono ?_)
    rintro e w2 ⟨rfl, hb2⟩
    have hI2 := hI.below hb2 hI.lt
    have hJ2 := hJ.below hb2 hJ.lt
    have hB2 := hB.trans (hb2.mono hB.size)
    clear hI hJ hB hb2 r1 h1 hM1
    obtain ⟨r2, h2⟩ := hI2.whole zl
    go_wp2_with fail
    (with_reducible refine (hM2 w2).mono ?_)
    rintro e w4 ⟨rfl, hb4⟩
    have hI4 := hI2.below hb4 hI2.lt
    have hJ4 := hJ2.below hb4 hJ2.lt
    have hB4 := hB2.trans (hb4.mono hB2.size)
    clear hI2 hJ2 hB2 hb4 r2 h2 hM2
    have c0 := hI4.cell (i := 0) (by omega)
    rw [show (zV v).getD 0 0 = (v.e : Int) from rfl] at c0
    have f0 := hI4.frozen 0
    have e2 : (v.e : Int) < 1000000 := by omega
    have e3 : (0 : Int) ≤ (v.e : Int) := by omega
    have hO5 := only_cell w4 w.heap.size 0 (.int .i64 ((v.e : Int) + 1))
    have hI5 := hI4.set 0 ((v.e : Int) + 1)
    have hJ5 := hJ4.only hO5 (by omega)
    have hB5 := below_only hB4 hO5 (fun i (e : i = w.heap.size) => by omega) hB4.size
    go_upto_region 4 with fail
    clear c0 f0 e2 e3 hI4 hJ4 hB4 hO5 dn
    generalize w4.setCell ⟨w.heap.size, 0, none⟩ (.int .i64 ((v.e : Int) + 1)) = w5 at *
    have c1 := hI5.drew.cell (i := 1) (by rw [List.length_set]; omega)
    rw [show ((zV v).set 0 ((v.e : Int) + 1)).getD 1 0 = (v.m : Int) from rfl] at c1
    have f1 := hI5.drew.frozen 1
    have HZ := hide (zV_left (v := v) k)
    have hor := andNot_is ho.m2 hk5 hbk
    have HEND := hide (show zV (leaveV v k j) = zV ⟨v.e + 1, v.m ^^^ 2 ^ k, (hsL v k j 5).set k (j + 1)⟩ by rw [hsL_end]; rfl)
    generalize v.m ^^^ 2 ^ k = M at hor HZ HEND
    have hO6 := only_cell w5 w.heap.size 1 (.int .i64 (M : Int))
    have hI6 := (hI5.set 1 (M : Int)).drew
    rw [HZ.out, ← hsL_zero ho.len k j] at hI6
    have hJ6 := (hJ5.only hO6 (by omega)).drew
    have hB6 := Below.drewR (below_only hB5 hO6 (fun i (e : i = w.heap.size) => by omega) hB5.size)
    clear hI5 hJ5 hO6
    go_region
    all_goals
      change Exit.then _ _ _ _ (w5.setCell ⟨w.heap.size, 1, none⟩ (.int .i64 (M : Int))).drew
      generalize (w5.setCell ⟨w.heap.size, 1, none⟩ (.int .i64 (M : Int))).drew = w6 at hI6 hJ6 hB6 ⊢
      clear c1 f1 hor HZ
      obtain ⟨r6, h6⟩ := hI6.got 2 5 (by rw [zV_length (hsL_len v k j 0)]; decide)
      rw [zV_drop _ (hsL_len v k j 0), show (V.h ⟨v.e + 1, M, hsL v k j 0⟩) = v.h from hsL_zero ho.len k j] at r6
      have hl5 : Is 5 (zH v.h) := by rw [Is, zH_length, ho.len]
      have hg := fun n => zH_getD v.h n
      generalize zH v.h = l at hl5 hg r6
      go_wp2_with fail
      clear h6 r6 hne hbj hbk
      go_loopw [8, 9, 38] (fun _ _ s38 wr => ∃ n : Nat, n ≤ 5 ∧ s38 = .int .i64 n ∧ IBlk wr w.heap.size 27 (zV ⟨v.e + 1, M, hsL v k j n⟩) ∧ IBlk wr (w.heap.size + 1) 27 (zeros 7) ∧ Below w.heap.size w wr) (fun _ _ s38 _ => 5 - (intOf s38).toNat)
      case atStart => exact ⟨0, Nat.zero_le _, rfl, hI6, hJ6, hB6⟩
      case round =>
        clear hI6 hJ6 hB6
        obtain ⟨n, hn, rfl, hI, hJ, hB⟩ := hrel
        by_cases hlt : n < 5
        · have hx := hg n
          rw [show v.h.getD n 0 = v.heir n from rfl] at hx
          obtain ⟨q, hq⟩ : ∃ q, v.heir n = q := ⟨_, rfl⟩
          have hq5 := ho.heir_le hlt
          rw [hq] at hx hq5
          have hx' : l[n]?.getD 0 = (q : Int) := by simpa using hx
          clear hx
          by_cases hz : v.heir n = k + 1
          · have d1 : ((q : Int) == (k : Int) + 1) = true := by rw [beq_iff_eq]; omega
            have hO7 := only_cell wr w.heap.size (2 + n) (.int .i64 ((j : Int) + 1))
            have hI7 := hI.set (2 + n) ((j : Int) + 1)
            rw [show ((j : Int) + 1) = ((j + 1 : Nat) : Int) from rfl, zV_set, ← hsL_yes hz] at hI7
            have hI7 : IBlk (wr.setCell ⟨w.heap.size, 2 + n, none⟩ (.int .i64 ((j : Int) + 1))) w.heap.size 27 (zV ⟨v.e + 1, M, hsL v k j (n + 1)⟩) := hI7
            have hJ7 := hJ.only hO7 (by omega)
            have hB7 := below_only hB hO7 (fun i (e : i = w.heap.size) => by omega) hB.size
            have c7 := hI.cell (i := 2 + n) (by rw [zV_length (hsL_len v k j n)]; omega)
            have f7 := hI.frozen (2 + n)
            clear hz hq hO7
            go_wp2_with fail
            go_roundw
            case rel => exact ⟨n + 1, by omega, by go_num, hI7, hJ7, hB7⟩
            case measure => simp [intOf]; omega
          · have d1 : ((q : Int) == (k : Int) + 1) = false := by rw [beq_eq_false_iff_ne]; omega
            have hI7 := hI
            rw [← hsL_no hz] at hI7
            clear hz hq
            go_wp2_with fail
            go_roundw
            case rel => exact ⟨n + 1, by omega, by go_num, hI7, hJ, hB⟩
            case measure => simp [intOf]; omega
        · obtain rfl : n = 5 := by omega
          have hO7 := only_cell wr w.heap.size (2 + k) (.int .i64 ((j : Int) + 1))
          have hI7 := hI.set (2 + k) ((j : Int) + 1)
          rw [show ((j : Int) + 1) = ((j + 1 : Nat) : Int) from rfl, zV_set, ← HEND.out] at hI7
          have hI7 : IBlk (wr.setCell ⟨w.heap.size, 2 + k, none⟩ (.int .i64 ((j : Int) + 1))) w.heap.size 27 (zV (leaveV v k j)) := hI7
          have hJ7 := hJ.only hO7 (by omega)
          have hB7 := below_only hB hO7 (fun i (e : i = w.heap.size) => by omega) hB.size
          have c7 := hI.cell (i := 2 + k) (by rw [zV_length (hsL_len v k j 5)]; omega)
          have f7 := hI.frozen (2 + k)
          have hl7 : (zV (leaveV v k j)).length = 7 := zV_length (v := leaveV v k j) (by simp [leaveV])
          have hi7 : Is 7 (zV (leaveV v k j)) := hl7
          have HE := hide (show resVw (some (leaveV v k j)) = zV (leaveV v k j) from rfl)
          generalize zV (leaveV v k j) = zz at hI7 hl7 hi7 HE
          clear hO7 hI hJ hB
          go_upto_region 12 with fail
          generalize wr.setCell ⟨w.heap.size, 2 + k, none⟩ (.int .i64 ((j : Int) + 1)) = w7 at hI7 hJ7 hB7
          obtain ⟨r7, h7⟩ := hI7.whole hl7
          have rm7 := hJ7.room 0 7 (by rw [zeros_length]; decide)
          have g7 := hJ7.fill (ys := zz) hl7
          have b7 := below_only hB7 (only_cells _ (w.heap.size + 1) 0 (iV zz)) (fun i (e : i = w.heap.size + 1) => by omega) hB7.size
          clear c7 f7
          go_wp2_with fail
          refine bodyPost_ret (results_i2 rfl rfl g7 Try.underlying27 rfl (by rw [hl7]; exact i7) _ rfl) rfl ⟨by rw [HE.out]; rfl, b7⟩
end Go.Proofs.Ytoknodkgmeinmaa
