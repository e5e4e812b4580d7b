/- The walk of ViewFew. -/
import Derived.Test.YtpofcnokbmaooaaVwD
namespace Go.Proofs.Ytpofcnokbmaooaa.viewFew
open Go.RowKit

theorem zeroBoolO (w : World) : (zeroValue 4).run Try.prog w = .ok (.bool false) w := by kernel_rfl
theorem wf_nat {n : Nat} (h : n < 1000000) : (Lit.int .i64 (n : Int)).wf = true := by
  simp only [Lit.wf, Bool.and_eq_true, decide_eq_true_eq]
  exact ⟨Int.le_trans (show IntKind.i64.min ≤ 0 by decide) (by omega), Int.le_trans (show (n : Int) ≤ 1000000 by omega) (by decide)⟩
/-- What the loop knows. -/
def Rel (w : World) (p b : Nat) (i : Nat) (wr : World) : Prop :=
  ∃ (v : V) (g : Nat → Bool), v.Ok ∧ Few v g ∧ IBlk wr p 28 (zV v) ∧ MapO wr b i (fB g) ∧ Below w.heap.size w wr
attribute [local go_sem ↓] loadViewF_fold storeViewF_fold allocViewF_fold buildViewF_fold loadChgF_fold storeChgF_fold allocChgF_fold
attribute [local go_sem] loadViewF_has storeViewF_has allocViewF_run buildViewF_none buildViewF_two loadChgF_has storeChgF_has allocChgF_run
set_option maxRecDepth 100000 in
set_option maxHeartbeats 6400000 in
theorem walk (w : World) (A : Option Addr) (n c : Nat) (zs : List Int) (hR : IntsIn w w.heap.size 3 A n zs) (_ : n ≤ c) (_ : c ≤ maxLen) :
    Calls Try.prog 6 #[.slice A n c] w fun e w' => e = .returned (.bool true) ∧ Below w.heap.size w w' := by
  have hmm := @run_makeMap Try.prog
  have zfl : (zV firstV).length = 7 := rfl
  have zfi : Is 7 (zV firstV) := rfl
  go_enter Try.func6, Try.ntmps6
  go_wp2_with fail
  (with_reducible refine (fit11_any w).mono ?_)
  rintro e w1 ⟨rfl, B1⟩
  by_cases h40 : 60 < n
  · have d1 : (60 : Int) < (n : Int) := by omega
    go_wp2_with fail
    go_ret
    exact ⟨rfl, B1⟩
  have d1 : ¬ (60 : Int) < (n : Int) := by omega
  go_wp2_with fail
  (with_reducible refine (first_any w1).mono ?_)
  rintro e w2 ⟨rfl, hb2⟩
  have B2 := B1.trans (hb2.mono B1.size)
  clear B1 hb2
  obtain ⟨rm, hX, hO, B3⟩ := lay (t := 28) B2 zfl B2.size
  have hwp := B2.size
  go_upto_region 6 with fail
  generalize w2.heap.size = p at hX hO B3 hwp
  generalize (w2.alloc (.cells (iA (zeros 7)) 28)).setCells p 0 (iV (zV firstV)) = w3 at hX hO B3
  clear rm hO B2 zfl zfi
  have hM4 := mapO_made w3
  have hX4 := hX.alloc (.map #[] 0)
  have B4 := B3.alloc B3.size (.map #[] 0)
  have hpb := hX.lt
  go_upto_region 7 with fail
  generalize w3.heap.size = b at hM4 hpb
  generalize w3.alloc (.map #[] 0) = w4 at hM4 hX4 B4
  rw [fB_none] at hM4
  have HR0 : Rel w p b 0 w4 := ⟨firstV, fun _ => false, firstV_ok, few_first, hX4, hM4, B4⟩
  clear hX B3 hM4 hX4 B4 hmm
  go_wp2_with fail
  clear d1
  go_loopw [18] (fun s18 wr => ∃ i : Nat, i ≤ n ∧ s18 = .int .i64 i ∧ Rel w p b i wr) (fun s18 _ => n - (intOf s18).toNat)
  case atStart => exact ⟨0, Nat.zero_le _, rfl, HR0⟩
  case round =>
    clear HR0
    obtain ⟨i, hi, rfl, v, g, ho, hf, hX, hM, hB⟩ := hrel
    have he := hf.le ho
    by_cases hlt : i < n
    · obtain ⟨ab, off, rfl, habl, _⟩ := hR.at_ (by omega)
      obtain ⟨r0, h0⟩ := (hR.below hB (Nat.le_refl _)).got rfl hlt
      obtain ⟨hcl, hcw⟩ := hR.one hlt
      have dl : (i : Int) < (n : Int) := by omega
      generalize oneZ 3 zs i = cs at *
      obtain ⟨kd, who, heir, rfl⟩ : ∃ a b d, cs = [a, b, d] := by
        match cs, hcl with
        | [a, b, d], _ => exact ⟨_, _, _, rfl⟩
      have hci : Is 3 [kd, who, heir] := rfl
      have HK := fun w => next_any v ho (by omega) [kd, who, heir] hcl w
      rw [show nextL v [kd, who, heir] = nextV v kd who heir from rfl] at HK
      have hvl := zV_length ho.len
      obtain ⟨rm, hC, hO, hB2⟩ := lay (t := 24) hB hcl hB.size
      have hX2 := hX.only hO (fun h => h)
      have hM2 := hM.only hO (fun h => h)
      have hpl := hX.lt
      have hbl := hM.lt
      clear hX hM hB hO hcw
      go_upto_region 10 with fail
      generalize wr.heap.size = q at hC hB2 hX2 hM2 hpl hbl
      generalize (wr.alloc (.cells (iA (zeros 3)) 24)).setCells q 0 (iV [kd, who, heir]) = w5 at hC hX2 hM2 hB2
      clear rm r0 h0
      obtain ⟨r1, h1⟩ := hX2.whole hvl
      obtain ⟨r2, h2⟩ := hC.whole hcl
      go_wp2_with fail
      (with_reducible refine (HK w5).mono ?_)
      rintro e w6 ⟨rfl, hb6⟩
      have hX6 := hX2.below hb6 hX2.lt
      have hC6 := hC.below hb6 hC.lt
      have hM6 := hM2.below hb6 hM2.lt
      have hB6 := hB2.trans (hb6.mono hB2.size)
      clear hX2 hM2 hB2 hC hb6 r1 h1 r2 h2 HK
      cases hnx : nextV v kd who heir with
      | none =>
        obtain ⟨rm, hZ, hO, hB7⟩ := lay (t := 28) hB6 (zeros_length 7) hB6.size
        have hX7 := hX6.only hO (fun h => h)
        have hM7 := hM6.only hO (fun h => h)
        have iz := is_zeros 7
        rw [show resV none = zeros 7 from rfl, show resE none = 5 from rfl]
        have HREL : ∀ w', w' = (w6.alloc (.cells (iA (zeros 7)) 28)).setCells w6.heap.size 0 (iV (zeros 7)) → Rel w p b (i + 1) w' := fun w' e => by
          subst e
          exact ⟨v, g, ho, hf, hX7, hM7.mono (by omega), hB7⟩
        clear hnx hX7 hM7 hB7 hX6 hM6 hB6 hO hf
        go_wp2_with fail
        go_roundw
        case rel => exact ⟨i + 1, by omega, by go_num, HREL _ rfl⟩
        case measure => simp [intOf]; omega
      | some u =>
        obtain ⟨uo, ue⟩ := nextV_ok ho hnx
        have hul := zV_length uo.len
        have hui : Is 7 (zV u) := hul
        obtain ⟨rm, hZ, hO, hB7⟩ := lay (t := 28) hB6 hul hB6.size
        have hX7 := hX6.only hO (fun h => h)
        have hM7 := hM6.only hO (fun h => h)
        have hC7 := hC6.only hO (fun h => h)
        have hql := hC6.lt
        rw [show resV (some u) = zV u from rfl, show resE (some u) = 0 from rfl]
        clear hX6 hM6 hB6 hC6 hO
        go_upto_region 11 with fail
        generalize w6.heap.size = q6 at hZ hB7 hX7 hM7 hC7 hql
        generalize (w6.alloc (.cells (iA (zeros 7)) 28)).setCells q6 0 (iV (zV u)) = w7 at hZ hB7 hX7 hM7 hC7
        clear rm
        have e0 : w7.cell? ⟨q, 0, none⟩ = some (.int .i64 kd) := hC7.cell (i := 0) (by omega)
        have e1 : w7.cell? ⟨q, 1, none⟩ = some (.int .i64 who) := hC7.cell (i := 1) (by omega)
        have m1 : w7.cell? ⟨q6, 1, none⟩ = some (.int .i64 (u.m : Int)) := hZ.cell (i := 1) (by omega)
        have hset := set_pos ⟨u.m, uo.m2⟩ uo.m1
        have hset : 0 < (setL (u.m : Int)).length := hset
        have HS := fun w => set_slice (u.m : Int) w
        have hsl := setL_le (u.m : Int)
        have hue : (u.e : Int) = (v.e : Int) + 1 := by omega
        have hcv : ∀ {w : World}, IBlk w p 28 (zV v) → w.cell? ⟨p, 0, none⟩ = some (.int .i64 (v.e : Int)) := fun h => h.cell (i := 0) (by rw [hvl]; omega)
        have hcu : ∀ {w : World}, IBlk w q6 28 (zV u) → w.cell? ⟨q6, 0, none⟩ = some (.int .i64 ((v.e : Int) + 1)) := fun h => by
          rw [← hue]
          exact h.cell (i := 0) (by rw [hul]; omega)
        have v0 : (0 : Int) ≤ (v.e : Int) := by omega
        have v7 : (v.e : Int) ≤ 7 := by omega
        generalize (setL (u.m : Int)).length = ls at *
        generalize (u.m : Int) = um at *
        generalize (v.e : Int) = ve at *
        clear hue
        rcases nextV_some hnx with ⟨rfl, k, rfl, hk, hb0, hh0, rfl⟩ | ⟨rfl, k, j, rfl, rfl, hk, hj, hb1, hb2, hne, rfl⟩
        · have hs := hf.join hk hb0 hh0
          have hlk := hM7.look Try.underlying46 (zeroBoolO w7) (wf_nat (show k < 1000000 by omega)) false
          rw [fB_nat, hf.not hh0, if_neg (by decide)] at hlk
          have hlk : (Instr.lookup 46 (.map (some b)) (.int .i64 (k : Int)) false).run Try.prog w7 = .ok (.bool false) w7 := hlk
          clear hnx hf hb0 hh0
          generalize joinV v k = u at *
          go_wp2_with fail
          (with_reducible refine (HS w7).mono ?_)
          rintro e w8 ⟨As, cs, rfl, _, hb8⟩
          have hX8 := hX7.below hb8 hX7.lt
          have hZ8 := hZ.below hb8 hZ.lt
          have hM8 := hM7.below hb8 hM7.lt
          have hC8 := hC7.below hb8 hC7.lt
          have hB8 := hB7.trans (hb8.mono hB7.size)
          have x0 := hcv hX8
          have x1 := hcu hZ8
          have x2 : w8.cell? ⟨q, 0, none⟩ = some (.int .i64 0) := hC8.cell (i := 0) (by omega)
          clear hX7 hM7 hB7 hZ hC7 hb8 hlk e0 e1 m1 hC8
          obtain ⟨r5, h5⟩ := hZ8.whole hul
          have rm5 := hX8.room 0 7 (by omega)
          have hX9 := hX8.fill (ys := zV u) (by omega)
          have hO9 := only_cells w8 p 0 (iV (zV u))
          have hM9 := hM8.only hO9 (by omega)
          have hB9 := below_only hB8 hO9 (fun i (e : i = p) => by omega) hB8.size
          have HREL : Rel w p b (i + 1) (w8.setCells p 0 (iV (zV u))) := ⟨u, g, uo, hs, hX9, hM9.mono (by omega), hB9⟩
          clear hX8 hM8 hB8 hX9 hM9 hB9 hO9 hs hZ8 ue hcv hcu HS
          go_wp2_with fail
          go_roundw
          case rel => exact ⟨i + 1, by omega, by go_num, HREL⟩
          case measure => simp [intOf]; omega
        · have hs := hf.leave (j := j) hk hb1
          clear hnx hf hb1 hb2 hne
          generalize leaveV v k j = u at *
          go_wp2_with fail
          (with_reducible refine (HS w7).mono ?_)
          rintro e w8 ⟨As, cs, rfl, _, hb8⟩
          have hX8 := hX7.below hb8 hX7.lt
          have hZ8 := hZ.below hb8 hZ.lt
          have hM8 := hM7.below hb8 hM7.lt
          have hC8 := hC7.below hb8 hC7.lt
          have hB8 := hB7.trans (hb8.mono hB7.size)
          have x0 := hcv hX8
          have x1 := hcu hZ8
          have x2 : w8.cell? ⟨q, 0, none⟩ = some (.int .i64 1) := hC8.cell (i := 0) (by omega)
          have x3 : w8.cell? ⟨q, 1, none⟩ = some (.int .i64 (k : Int)) := hC8.cell (i := 1) (by omega)
          clear hX7 hM7 hB7 hZ hC7 hb8 e0 e1 m1 hC8
          obtain ⟨w9, hst, hM9, hO9⟩ := hM8.store (by omega) Try.underlying46 (wf_nat (show k < 1000000 by omega)) (.bool true)
          rw [fB_put] at hM9
          have hX9 := hX8.only hO9 (by omega)
          have hZ9 := hZ8.only hO9 (by omega)
          have hB9 := below_only hB8 hO9 (fun i (e : i = b) => by omega) hB8.size
          clear hX8 hM8 hB8 hO9 hZ8
          generalize putBl g k = g' at *
          obtain ⟨r5, h5⟩ := hZ9.whole hul
          have rm5 := hX9.room 0 7 (by omega)
          have hXa := hX9.fill (ys := zV u) (by omega)
          have hOa := only_cells w9 p 0 (iV (zV u))
          have hMa := hM9.only hOa (by omega)
          have hBa := below_only hB9 hOa (fun i (e : i = p) => by omega) hB9.size
          have HREL : Rel w p b (i + 1) (w9.setCells p 0 (iV (zV u))) := ⟨u, g', uo, hs, hXa, hMa, hBa⟩
          clear hX9 hM9 hB9 hXa hMa hBa hOa hs hZ9 ue hcv hcu HS
          go_wp2_with fail
          go_roundw
          case rel => exact ⟨i + 1, by omega, by go_num, HREL⟩
          case measure => simp [intOf]; omega
    · obtain rfl : n = i := by omega
      clear hlt hi hM
      have hvl := zV_length ho.len
      have hset : 0 < (setL (v.m : Int)).length := set_pos ⟨v.m, ho.m2⟩ ho.m1
      have hsl := setL_le (v.m : Int)
      have HS := fun w => set_slice (v.m : Int) w
      have x0 := hX.cell (i := 0) (by omega)
      have x1 := hX.cell (i := 1) (by omega)
      rw [show (zV v).getD 0 0 = (v.e : Int) from rfl] at x0
      rw [show (zV v).getD 1 0 = (v.m : Int) from rfl] at x1
      have v0 : (0 : Int) ≤ (v.e : Int) := by omega
      have v7 : (v.e : Int) ≤ 8 := by omega
      generalize (setL (v.m : Int)).length = ls at *
      generalize (v.m : Int) = um at *
      generalize (v.e : Int) = ve at *
      clear hX he
      go_wp2_with fail
      (with_reducible refine (HS wr).mono ?_)
      rintro e w8 ⟨As, cs, rfl, _, hb8⟩
      have dz : decide ((1 : Int) ≤ (ls : Int)) = true := decide_eq_true (by omega)
      go_wp2_with fail
      go_ret
      exact ⟨rfl, hB.trans (hb8.mono hB.size)⟩
end Go.Proofs.Ytpofcnokbmaooaa.viewFew
