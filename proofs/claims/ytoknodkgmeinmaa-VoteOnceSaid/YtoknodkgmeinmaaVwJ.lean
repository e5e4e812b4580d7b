/- The contract of view's join. -/
import Derived.Test.YtoknodkgmeinmaaVwH
namespace Go.Proofs.Ytoknodkgmeinmaa
open Go.RowKit

def joinR (v : V) (who : Int) : Option V := if canJoin v who = true then some (joinV v who.toNat) else none
theorem zV_joined {v : V} (k : Nat) : (((zV v).set 0 ((v.e : Int) + 1)).set 1 ((v.m ||| 2 ^ k : Nat) : Int)) = zV (joinV v k) := rfl
attribute [local go_sem ↓] loadViewF_fold storeViewF_fold allocViewF_fold buildViewF_fold loadInts5F_fold indexInts5F_fold
attribute [local go_sem] loadViewF_has storeViewF_has allocViewF_run buildViewF_none buildViewF_two loadInts5F_has indexInts5F_at
set_option maxRecDepth 100000 in
set_option maxHeartbeats 1600000 in
theorem join_any (v : V) (ho : v.Ok) (he : v.e < 1000000) (who : Int) (w : World) :
    Calls Try.prog 20 #[.agg (iA (zV v)), .int .i64 who] w fun e w' => e = .returned (.tuple #[.agg (iA (resVw (joinR v who))), .int .i64 (resE (joinR v who))]) ∧ Below w.heap.size w w' := by
  have hI : IBlk ((w.alloc (.cells (iA (zV v)) 27)).alloc (.cells (iA (zeros 7)) 27)) w.heap.size 27 (zV v) := (IBlk.new _ _ _).alloc _
  have hJ : IBlk ((w.alloc (.cells (iA (zV v)) 27)).alloc (.cells (iA (zeros 7)) 27)) (w.heap.size + 1) 27 (zeros 7) := by
    have := IBlk.new (w.alloc (.cells (iA (zV v)) 27)) 27 (zeros 7)
    simpa using this
  have hB : Below w.heap.size w ((w.alloc (.cells (iA (zV v)) 27)).alloc (.cells (iA (zeros 7)) 27)) := ((Below.refl _ _).alloc (Nat.le_refl _) _).alloc (by simp) _
  have zl := zV_length ho.len
  have i7 := Try.infoView
  have iz := is_zeros 7
  have hHe := fun (w : World) => heir_any v ho.len (fun i hi => ho.heir_le hi) who w
  have hMe := fun (w : World) => member_any v ho.len who w
  have bad : ∀ w2, Below w.heap.size w w2 → IBlk w2 (w.heap.size + 1) 27 (zeros 7) → Room w2 (w.heap.size + 1) 0 7 ∧ IBlk (w2.setCells (w.heap.size + 1) 0 (iV (zeros 7))) (w.heap.size + 1) 27 (zeros 7) ∧ Below w.heap.size w (w2.setCells (w.heap.size + 1) 0 (iV (zeros 7))) := fun w2 hB2 hJ2 =>
    ⟨hJ2.room 0 7 (by rw [zeros_length]; decide), hJ2.fill rfl, below_only hB2 (only_cells _ (w.heap.size + 1) 0 (iV (zeros 7))) (fun i (e : i = w.heap.size + 1) => by omega) hB2.size⟩
  cases hc : canJoin v who with
  | false =>
    rw [joinR, hc, if_neg (by decide)]
    go_enter Try.func20, Try.ntmps20
    go_upto_region 1 with fail
    generalize (w.alloc (.cells (iA (zV v)) 27)).alloc (.cells (iA (zeros 7)) 27) = w1 at hI hJ hB
    obtain ⟨r1, h1⟩ := hI.whole zl
    go_wp2_with fail
    (with_reducible refine (hHe w1).mono ?_)
    rintro e w2 ⟨rfl, hb2⟩
    have hI2 := hI.below hb2 hI.lt
    have hJ2 := hJ.below hb2 hJ.lt
    have hB2 := hB.trans (hb2.mono hB.size)
    clear hI hJ hB hb2 r1 h1 hHe
    obtain ⟨r2, h2⟩ := hI2.whole zl
    cases hk : inK who 5 with
    | false =>
      obtain ⟨b1, b2, b3⟩ := bad w2 hB2 hJ2
      clear bad hMe
      generalize leftB v who = lb
      generalize heirI v who = hh
      go_wp2_with fail
      (with_reducible refine (mach_any who w2).mono ?_)
      rintro e w3 ⟨rfl, rfl⟩
      rw [hk]
      go_wp2_with fail
      exact bodyPost_ret (results_i2 rfl rfl b2 Try.underlying27 rfl i7 _ rfl) rfl ⟨rfl, b3⟩
    | true =>
      obtain ⟨k, rfl, hk5⟩ := inK_nat hk
      have hc' : (v.m.testBit k = true) ∨ (v.m.testBit k = false ∧ leftB v (k : Int) = true) := by
        rw [leftB_nat hk5]
        simp only [canJoin, hk, Bool.true_and, show ((k : Int)).toNat = k from rfl] at hc
        cases h1 : v.m.testBit k <;> simp [h1] at hc ⊢
        exact hc
      rw [inV_nat hk5] at hMe
      rcases hc' with hc' | ⟨hc', hl⟩
      · rw [hc'] at hMe
        generalize leftB v (k : Int) = lb
        generalize heirI v (k : Int) = hh
        go_wp2_with fail
        (with_reducible refine (mach_any (k : Int) w2).mono ?_)
        rintro e w3 ⟨rfl, rfl⟩
        rw [hk]
        go_wp2_with fail
        (with_reducible refine (hMe w2).mono ?_)
        rintro e w4 ⟨rfl, hb4⟩
        obtain ⟨b1, b2, b3⟩ := bad w4 (hB2.trans (hb4.mono hB2.size)) (hJ2.below hb4 hJ2.lt)
        clear bad
        go_wp2_with fail
        exact bodyPost_ret (results_i2 rfl rfl b2 Try.underlying27 rfl i7 _ rfl) rfl ⟨rfl, b3⟩
      · rw [hc'] at hMe
        rw [hl]
        generalize heirI v (k : Int) = hh
        go_wp2_with fail
        (with_reducible refine (mach_any (k : Int) w2).mono ?_)
        rintro e w3 ⟨rfl, rfl⟩
        rw [hk]
        go_wp2_with fail
        (with_reducible refine (hMe w2).mono ?_)
        rintro e w4 ⟨rfl, hb4⟩
        obtain ⟨b1, b2, b3⟩ := bad w4 (hB2.trans (hb4.mono hB2.size)) (hJ2.below hb4 hJ2.lt)
        clear bad
        go_wp2_with fail
        exact bodyPost_ret (results_i2 rfl rfl b2 Try.underlying27 rfl i7 _ rfl) rfl ⟨rfl, b3⟩
  | true =>
    obtain ⟨k, rfl, hk5, hb0, hh0⟩ := canJoin_true hc
    rw [joinR, hc, if_pos rfl, show ((k : Int)).toNat = k from rfl]
    have hlb : leftB v (k : Int) = false := by rw [leftB_nat hk5, hh0]; rfl
    have hk := inK_true.2 (show 0 ≤ (k : Int) ∧ (k : Int) < 5 by omega)
    rw [inV_nat hk5, hb0] at hMe
    rw [hlb] at hHe
    clear bad
    go_enter Try.func20, Try.ntmps20
    go_upto_region 1 with fail
    generalize (w.alloc (.cells (iA (zV v)) 27)).alloc (.cells (iA (zeros 7)) 27) = w1 at hI hJ hB
    obtain ⟨r1, h1⟩ := hI.whole zl
    go_wp2_with fail
    (with_reducible refine (hHe w1).mono ?_)
    rintro e w2 ⟨rfl, hb2⟩
    have hI2 := hI.below hb2 hI.lt
    have hJ2 := hJ.below hb2 hJ.lt
    have hB2 := hB.trans (hb2.mono hB.size)
    clear hI hJ hB hb2 r1 h1 hHe
    obtain ⟨r2, h2⟩ := hI2.whole zl
    generalize heirI v (k : Int) = hh
    go_wp2_with fail
    (with_reducible refine (mach_any (k : Int) w2).mono ?_)
    rintro e w3 ⟨rfl, rfl⟩
    rw [hk]
    go_wp2_with fail
    (with_reducible refine (hMe w2).mono ?_)
    rintro e w4 ⟨rfl, hb4⟩
    have hI4 := hI2.below hb4 hI2.lt
    have hJ4 := hJ2.below hb4 hJ2.lt
    have hB4 := hB2.trans (hb4.mono hB2.size)
    clear hI2 hJ2 hB2 hb4 r2 h2 hMe
    have c0 := hI4.cell (i := 0) (by omega)
    rw [show (zV v).getD 0 0 = (v.e : Int) from rfl] at c0
    have f0 := hI4.frozen 0
    have e2 : (v.e : Int) < 1000000 := by omega
    have e3 : (0 : Int) ≤ (v.e : Int) := by omega
    have hO5 := only_cell w4 w.heap.size 0 (.int .i64 ((v.e : Int) + 1))
    have hI5 := hI4.set 0 ((v.e : Int) + 1)
    have hJ5 := hJ4.only hO5 (by omega)
    have hB5 := below_only hB4 hO5 (fun i (e : i = w.heap.size) => by omega) hB4.size
    go_upto_region 5 with fail
    clear c0 f0 e2 e3 hI4 hJ4 hB4 hO5
    generalize w4.setCell ⟨w.heap.size, 0, none⟩ (.int .i64 ((v.e : Int) + 1)) = w5 at *
    have c1 := hI5.drew.cell (i := 1) (by rw [List.length_set]; omega)
    rw [show ((zV v).set 0 ((v.e : Int) + 1)).getD 1 0 = (v.m : Int) from rfl] at c1
    have f1 := hI5.drew.frozen 1
    have HZ := hide (zV_joined (v := v) k)
    have hor := or_is ho.m2 hk5
    generalize v.m ||| 2 ^ k = M at hor HZ
    have hO6 := only_cell w5 w.heap.size 1 (.int .i64 (M : Int))
    have hI6 := (hI5.set 1 (M : Int)).drew
    rw [HZ.out] at hI6
    have hJ6 := (hJ5.only hO6 (by omega)).drew
    have hB6 := Below.drewR (below_only hB5 hO6 (fun i (e : i = w.heap.size) => by omega) hB5.size)
    have hl6 : (zV (joinV v k)).length = 7 := zV_length (v := joinV v k) ho.len
    have hi6 : Is 7 (zV (joinV v k)) := hl6
    generalize hze : zV (joinV v k) = zz at *
    have HE := hide hze
    clear hze hI5 hJ5 hO6
    go_region
    all_goals
      change Exit.then _ _ _ _ (w5.setCell ⟨w.heap.size, 1, none⟩ (.int .i64 (M : Int))).drew
      generalize (w5.setCell ⟨w.heap.size, 1, none⟩ (.int .i64 (M : Int))).drew = w6 at hI6 hJ6 hB6 ⊢
      obtain ⟨r6, h6⟩ := hI6.whole hl6
      have rm6 := hJ6.room 0 7 (by rw [zeros_length]; decide)
      have f6 := hJ6.fill (ys := zz) hl6
      have b6 := below_only hB6 (only_cells _ (w.heap.size + 1) 0 (iV zz)) (fun i (e : i = w.heap.size + 1) => by omega) hB6.size
      go_wp2_with fail
      refine bodyPost_ret (results_i2 rfl rfl f6 Try.underlying27 rfl (by rw [hl6]; exact i7) _ rfl) rfl ⟨by rw [show resVw (some (joinV v k)) = zz from HE.out]; rfl, b6⟩
end Go.Proofs.Ytoknodkgmeinmaa
