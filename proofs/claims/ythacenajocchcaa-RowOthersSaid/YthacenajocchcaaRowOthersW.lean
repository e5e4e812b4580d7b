/- The walk of RowOthers: it returns true at all arguments and leaves what was there as it was. -/
import Derived.Test.YthacenajocchcaaRowM
import Derived.Test.YthacenajocchcaaBitsI
namespace Go.Proofs.Ythacenajocchcaa.rowOthers
open Go.RowKit

attribute [local go_sem ↓] loadRowF_fold storeRowF_fold buildRowF_fold allocRowF_fold
attribute [local go_sem] loadRowF_has storeRowF_has buildRowF_none allocRowF_run
/-- A row that is stored in a variable of its own. -/
theorem lay {w : World} {B : Nat} {a : World} {g : List Int} (hB : Below B a w) (hg : g.length = 174) :
    Room (w.alloc (.cells (iA (zeros 174)) 53)) w.heap.size 0 174 ∧ IBlk ((w.alloc (.cells (iA (zeros 174)) 53)).setCells w.heap.size 0 (iV g)) w.heap.size 53 g ∧
      Only (fun _ => False) w ((w.alloc (.cells (iA (zeros 174)) 53)).setCells w.heap.size 0 (iV g)) ∧ (B ≤ w.heap.size → Below B a ((w.alloc (.cells (iA (zeros 174)) 53)).setCells w.heap.size 0 (iV g))) := by
  have hnew : IBlk (w.alloc (.cells (iA (zeros 174)) 53)) w.heap.size 53 (zeros 174) := IBlk.new _ _ _
  have hO : Only (fun _ => False) w ((w.alloc (.cells (iA (zeros 174)) 53)).setCells w.heap.size 0 (iV g)) := Only.setCells _ (.inr (Nat.le_refl _)) _ _ ((Only.refl _ _).alloc _)
  exact ⟨hnew.room 0 174 (by rw [zeros_length]; decide), hnew.fill (by rw [hg, zeros_length]), hO, fun h => below_only hB hO (fun _ e => e.elim) h⟩

set_option maxRecDepth 100000 in
set_option maxHeartbeats 3200000 in
theorem walk (w : World) (zs : List Int) (hl : zs.length = 174) (hw : wf64 zs) (key : Int) (_ : -9223372036854775808 ≤ key) (_ : key ≤ 9223372036854775807) (n : Int) (_ : -9223372036854775808 ≤ n) (_ : n ≤ 9223372036854775807) :
    Calls Try.prog 8 #[.agg (iA zs), .int .i64 key, .int .i64 n] w fun e w' => e = .returned (.bool true) ∧ Below w.heap.size w w' := by
  obtain ⟨k, hk, hk4⟩ : ∃ k : Nat, bits .and .i64 key 3 = (k : Int) ∧ k < 4 := ⟨(key % 4).toNat, by rw [show bits .and .i64 key 3 = key % 4 from i64_and_mask key 2 (by omega)]; omega, by omega⟩
  obtain ⟨m, hm, hm1⟩ : ∃ m : Nat, bits .and .i64 n 1023 = (m : Int) ∧ m < 1024 := ⟨(n % 1024).toNat, by rw [show bits .and .i64 n 1023 = n % 1024 from i64_and_mask n 10 (by omega)]; omega, by omega⟩
  have hI0 : IBlk (w.alloc (.cells (iA zs) 53)) w.heap.size 53 zs := IBlk.new _ _ _
  have hB0 : Below w.heap.size w (w.alloc (.cells (iA zs) 53)) := (Below.refl _ _).alloc (Nat.le_refl _) _
  have HR := lawRight_any zs hl hw
  have HI := fun (hok : okRow zs = true) (hv : zs.getD 0 0 ≤ 1152921504606846976) w => inc_any zs hl hok hv k ((m : Int) + 1) w
  have HD := fun (hok : okRow zs = true) (hv : zs.getD 0 0 ≤ 1152921504606846976) w => dec_any zs hl hok hv k ((m : Int) + 1) w
  rw [growV_in 0 hk4 (by omega) (by omega)] at HI
  rw [growV_in 1 hk4 (by omega) (by omega)] at HD
  have hq : ∀ w, (Op.equalIn 10000 53 (.agg (iA zs)) (.agg (iA zs))).run Try.prog w = .ok (decide (zs = zs)) w := fun w => Try.eqRow hl hl hw hw w
  simp only [decide_true] at hq
  have u0 := unchg hl (f := 0) hk4 (by omega) ((m : Int) + 1)
  have u1 := unchg hl (f := 1) hk4 (by omega) ((m : Int) + 1)
  rw [Nat.add_zero] at u0
  have U0 := hide u0
  have U1 := hide u1
  have gl : ∀ f, f < 7 → (bump (chg zs k f ((m : Int) + 1)) (zs.getD 0 0)).length = 174 ∧ (bump (chg zs k f ((m : Int) + 1)) (zs.getD 0 0)).getD 0 0 = zs.getD 0 0 + 1 ∧ (bump (chg zs k f ((m : Int) + 1)) (zs.getD 0 0)).getD (1 + k * 7 + f) 0 = zs.getD (1 + k * 7 + f) 0 + ((m : Int) + 1) := fun f hf => by
    have h1 : (chg zs k f ((m : Int) + 1)).length = 174 := by rw [chg_length, hl]
    refine ⟨by rw [bump, List.length_set, h1], ?_, ?_⟩
    · rw [bump, getD_set (by omega), if_pos rfl]
    · rw [bump, getD_set (by omega), if_neg (by omega), chg, getD_set (by omega), if_pos rfl]
  obtain ⟨l0, v0, x0⟩ := gl 0 (by omega)
  rw [Nat.add_zero] at x0
  obtain ⟨l1, v1, x1⟩ := gl 1 (by omega)
  have bx := fun (hok : okRow zs = true) f (hf : f < 7) => okRow_cell hl hok hk4 hf
  have HBX := hide bx
  have HZ := hide hl
  clear hl hw u0 u1 gl bx
  go_enter Try.func8, Try.ntmps8
  go_wp2_with fail
  generalize w.alloc (.cells (iA zs) 53) = w0 at hI0 hB0
  generalize hbe : w.heap.size = b at hI0
  (with_reducible refine (fit4_any w0).mono ?_)
  rintro e w1 ⟨rfl, hb1⟩
  have hI1 := hI0.below hb1 hI0.lt
  have hB1 := hB0.trans (hb1.mono hB0.size)
  clear hI0 hB0 hb1
  obtain ⟨r1, h1⟩ := hI1.whole HZ.out
  go_wp2_with fail
  (with_reducible refine (HR w1).mono ?_)
  rintro e w2 ⟨rfl, hb2⟩
  have hI2 := hI1.below hb2 hI1.lt
  have hB2 := hB1.trans (hb2.mono hB1.size)
  clear hI1 hB1 hb2 r1 h1
  cases hok : okRow zs with
  | false =>
    go_wp2_with fail
    go_ret
    exact ⟨rfl, hB2⟩
  | true =>
    have HBX := hide (HBX.out hok)
    have HI := HI hok
    have HD := HD hok
    have hv0 := okRow_v hok
    have c0 : w2.cell? ⟨b, 0, none⟩ = some (.int .i64 (zs.getD 0 0)) := hI2.cell (by rw [HZ.out]; decide)
    by_cases hv : zs.getD 0 0 ≤ 1152921504606846976
    · have HI := HI hv
      have HD := HD hv
      have b0 := HBX.out 0 (by omega)
      rw [Nat.add_zero] at b0
      have b1 := HBX.out 1 (by omega)
      clear hok HBX
      generalize zs.getD 0 0 = v at *
      generalize zs.getD (1 + k * 7) 0 = y0 at *
      generalize zs.getD (1 + k * 7 + 1) 0 = y1 at *
      generalize okC (cellOf (chg zs k 0 ((m : Int) + 1)) k) = k0 at HI
      generalize okC (cellOf (chg zs k 1 ((m : Int) + 1)) k) = k1 at HD
      generalize bump (chg zs k 0 ((m : Int) + 1)) v = g0 at *
      generalize bump (chg zs k 1 ((m : Int) + 1)) v = g1 at *
      have hdv : decide (1152921504606846976 < v) = false := by simpa using hv
      obtain ⟨r2, h2⟩ := hI2.whole HZ.out
      go_upto_region 6 with fail
      go_wp2_with fail
      (with_reducible refine (HI w2).mono ?_)
      rintro e w3 ⟨rfl, hb3⟩
      have hI3 := hI2.below hb3 hI2.lt
      have hB3 := hB2.trans (hb3.mono hB2.size)
      clear c0 r2 h2 hI2 hB2 hb3 HI
      obtain ⟨z0, e0, hz0, hz0c⟩ : ∃ z0 e0, (if k0 = true then (g0, (0 : Int)) else (zeros 174, 6)) = (z0, e0) ∧ ((e0 = 0 ∧ z0 = g0) ∨ (e0 = 6 ∧ z0.length = 174)) := by
        cases k0
        · exact ⟨_, _, rfl, .inr ⟨rfl, zeros_length 174⟩⟩
        · exact ⟨_, _, rfl, .inl ⟨rfl, rfl⟩⟩
      rw [hz0]
      have zl0 : z0.length = 174 := by rcases hz0c with ⟨_, rfl⟩ | ⟨_, h⟩; exact l0; exact h
      have zi0 : Is 174 z0 := zl0
      clear hz0
      obtain ⟨rm3, hY3, hO3, hB4⟩ := lay (g := z0) hB3 zl0
      have hB4 := hB4 hB3.size
      have hI4 := hI3.only hO3 (fun h => h)
      have hbY : b ≠ w3.heap.size := fun e => by have := hI3.lt; omega
      go_upto_region 7 with fail
      generalize (w3.alloc (.cells (iA (zeros 174)) 53)).setCells w3.heap.size 0 (iV z0) = w4 at hY3 hO3 hB4 hI4
      generalize hpe : w3.heap.size = p at hY3 hbY
      have hpB : w.heap.size ≤ p := by rw [← hpe]; exact hB3.size
      clear rm3 hO3 hI3 hB3 hpe
      obtain ⟨r4, h4⟩ := hI4.whole HZ.out
      go_wp2_with fail
      (with_reducible refine (HD w4).mono ?_)
      rintro e w5 ⟨rfl, hb5⟩
      have hI5 := hI4.below hb5 hI4.lt
      have hY5 := hY3.below hb5 hY3.lt
      have hB5 := hB4.trans (hb5.mono hB4.size)
      clear r4 h4 hI4 hY3 hB4 hb5 HD
      obtain ⟨z1, e1, hz1, hz1c⟩ : ∃ z1 e1, (if k1 = true then (g1, (0 : Int)) else (zeros 174, 6)) = (z1, e1) ∧ ((e1 = 0 ∧ z1 = g1) ∨ (e1 = 6 ∧ z1.length = 174)) := by
        cases k1
        · exact ⟨_, _, rfl, .inr ⟨rfl, zeros_length 174⟩⟩
        · exact ⟨_, _, rfl, .inl ⟨rfl, rfl⟩⟩
      rw [hz1]
      have zl1 : z1.length = 174 := by rcases hz1c with ⟨_, rfl⟩ | ⟨_, h⟩; exact l1; exact h
      have zi1 : Is 174 z1 := zl1
      clear hz1
      obtain ⟨rm5, hZ5, hO5, hB6⟩ := lay (g := z1) hB5 zl1
      have hB6 := hB6 hB5.size
      have hI6 := hI5.only hO5 (fun h => h)
      have hY6 := hY5.only hO5 (fun h => h)
      have hbZ : b ≠ w5.heap.size := fun e => by have := hI5.lt; omega
      have hYZ : p ≠ w5.heap.size := fun e => by have := hY5.lt; omega
      go_upto_region 8 with fail
      generalize (w5.alloc (.cells (iA (zeros 174)) 53)).setCells w5.heap.size 0 (iV z1) = w6 at hZ5 hO5 hB6 hI6 hY6
      generalize hqe : w5.heap.size = q at hZ5 hbZ hYZ
      have hqB : w.heap.size ≤ q := by rw [← hqe]; exact hB5.size
      clear rm5 hO5 hI5 hB5 hqe hY5
      have hvb : v + 1 - 1 = v := by omega
      have hyb0 : y0 + ((m : Int) + 1) - ((m : Int) + 1) = y0 := by omega
      have hyb1 : y1 + ((m : Int) + 1) - ((m : Int) + 1) = y1 := by omega
      go_upto_if 41 with fail
      go_cut [9] (fun s9 wx => s9 = .pointer (some ⟨q, 0, none⟩) ∧ IBlk wx b 53 zs ∧ IBlk wx q 53 z1 ∧ (∃ z, IBlk wx p 53 z ∧ z.length = 174 ∧ (e0 = 0 → z = zs)) ∧ Below w.heap.size w wx)
      case first =>
        rcases hz0c with ⟨rfl, rfl⟩ | ⟨rfl, _⟩
        · have hB := hB6
          have cv : w6.cell? ⟨p, 0, none⟩ = some (.int .i64 (v + 1)) := by rw [← v0]; exact hY6.cell (by omega)
          have zv := hY6.frozen 0
          have hY6a := hY6.set 0 v
          have oa := only_cell w6 p 0 (.int .i64 v)
          have hI6a := hI6.only oa (by exact fun e => hbY e)
          have hZ5a := hZ5.only oa (by exact fun e => hYZ e.symm)
          have hBa := below_only hB oa (fun i (e : i = p) => by omega) hB.size
          have cx : (w6.setCell ⟨p, 0, none⟩ (.int .i64 v)).cell? ⟨p, 1 + k * 7, none⟩ = some (.int .i64 (y0 + ((m : Int) + 1))) := by rw [← x0, hY6a.cell (by rw [List.length_set]; omega), getD_set (by omega), if_neg (by omega)]
          have zx := hY6a.frozen (1 + k * 7)
          have hY6b := hY6a.set (1 + k * 7) y0
          rw [U0.out] at hY6b
          have ob := only_cell (w6.setCell ⟨p, 0, none⟩ (.int .i64 v)) p (1 + k * 7) (.int .i64 y0)
          have hI6b := hI6a.only ob (by exact fun e => hbY e)
          have hZ5b := hZ5a.only ob (by exact fun e => hYZ e.symm)
          have hBb := below_only hBa ob (fun i (e : i = p) => by omega) hBa.size
          go_upto_region 10 with fail
          generalize w6.setCell ⟨p, 0, none⟩ (.int .i64 v) = wa at *
          go_wp2_with fail
          go_meet
          exact ⟨rfl, hI6b, hZ5b, ⟨zs, hY6b, HZ.out, fun _ => rfl⟩, hBb⟩
        · go_wp2_with fail
          go_meet
          exact ⟨rfl, hI6, hZ5, ⟨z0, hY6, zl0, fun h => by omega⟩, hB6⟩
      case rest =>
        clear hI6 hZ5 hY6 hB6
        obtain ⟨rfl, hI, hZ, ⟨zy, hY, zyl, zye⟩, hB⟩ := hcut
        have he0 : e0 = 0 ∨ e0 = 6 := hz0c.elim (fun h => .inl h.1) (fun h => .inr h.1)
        clear hz0c zi0 zl0
        go_upto_if 57 with fail
        go_cut [7] (fun s7 wx => s7 = .pointer (some ⟨p, 0, none⟩) ∧ IBlk wx b 53 zs ∧ IBlk wx p 53 zy ∧ (∃ z, IBlk wx q 53 z ∧ z.length = 174 ∧ (e1 = 0 → z = zs)) ∧ Below w.heap.size w wx)
        case first =>
          rcases hz1c with ⟨rfl, rfl⟩ | ⟨rfl, _⟩
          · skip
            have cv : wc.cell? ⟨q, 0, none⟩ = some (.int .i64 (v + 1)) := by rw [← v1]; exact hZ.cell (by omega)
            have zv := hZ.frozen 0
            have hZa := hZ.set 0 v
            have oa := only_cell wc q 0 (.int .i64 v)
            have hIa := hI.only oa (by exact fun e => hbZ e)
            have hYa := hY.only oa (by exact fun e => hYZ e)
            have hBa := below_only hB oa (fun i (e : i = q) => by omega) hB.size
            have cx : (wc.setCell ⟨q, 0, none⟩ (.int .i64 v)).cell? ⟨q, 1 + k * 7 + 1, none⟩ = some (.int .i64 (y1 + ((m : Int) + 1))) := by rw [← x1, hZa.cell (by rw [List.length_set]; omega), getD_set (by omega), if_neg (by omega)]
            have zx := hZa.frozen (1 + k * 7 + 1)
            have hZb := hZa.set (1 + k * 7 + 1) y1
            rw [U1.out] at hZb
            have ob := only_cell (wc.setCell ⟨q, 0, none⟩ (.int .i64 v)) q (1 + k * 7 + 1) (.int .i64 y1)
            have hIb := hIa.only ob (by exact fun e => hbZ e)
            have hYb := hYa.only ob (by exact fun e => hYZ e)
            have hBb := below_only hBa ob (fun i (e : i = q) => by omega) hBa.size
            go_upto_region 13 with fail
            generalize wc.setCell ⟨q, 0, none⟩ (.int .i64 v) = wa at *
            go_wp2_with fail
            go_meet
            exact ⟨rfl, hIb, hYb, ⟨zs, hZb, HZ.out, fun _ => rfl⟩, hBb⟩
          · go_wp2_with fail
            go_meet
            exact ⟨rfl, hI, hY, ⟨z1, hZ, zl1, fun h => by omega⟩, hB⟩
        case rest =>
          clear hI hZ hY hB
          obtain ⟨rfl, hI, hY, ⟨zz, hZ, zzl, zze⟩, hB⟩ := hcut
          have he1 : e1 = 0 ∨ e1 = 6 := hz1c.elim (fun h => .inl h.1) (fun h => .inr h.1)
          obtain ⟨ri, hi⟩ := hI.whole HZ.out
          obtain ⟨ry, hy⟩ := hY.whole zyl
          obtain ⟨rz, hz⟩ := hZ.whole zzl
          clear hI hY hZ hz1c zi1 zl1 v0 v1 x0 x1 l0 l1
          rcases he0 with rfl | rfl
          · obtain rfl := zye rfl
            rcases he1 with rfl | rfl
            · obtain rfl := zze rfl
              go_wp2_with fail
              go_ret
              first | exact ⟨rfl, hB⟩ | exact ⟨rfl, hbe ▸ hB⟩
            · go_wp2_with fail
              go_ret
              first | exact ⟨rfl, hB⟩ | exact ⟨rfl, hbe ▸ hB⟩
          · rcases he1 with rfl | rfl
            · obtain rfl := zze rfl
              go_wp2_with fail
              go_ret
              first | exact ⟨rfl, hB⟩ | exact ⟨rfl, hbe ▸ hB⟩
            · go_wp2_with fail
              go_ret
              first | exact ⟨rfl, hB⟩ | exact ⟨rfl, hbe ▸ hB⟩
    · have hdv : decide (1152921504606846976 < zs.getD 0 0) = true := decide_eq_true (by omega)
      generalize zs.getD 0 0 = v at *
      go_wp2_with fail
      go_ret
      exact ⟨rfl, hB2⟩
end Go.Proofs.Ythacenajocchcaa.rowOthers
