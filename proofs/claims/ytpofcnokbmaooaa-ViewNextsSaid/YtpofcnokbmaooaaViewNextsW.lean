/- The walk of ViewNexts. -/
import Derived.Test.YtpofcnokbmaooaaVwF
namespace Go.Proofs.Ytpofcnokbmaooaa.viewNexts
open Go.RowKit

attribute [local go_sem ↓] loadViewF_fold storeViewF_fold allocViewF_fold buildViewF_fold loadChgF_fold storeChgF_fold allocChgF_fold loadInts5F_fold indexInts5F_fold
attribute [local go_sem] loadViewF_has storeViewF_has allocViewF_run buildViewF_none buildViewF_two loadChgF_has storeChgF_has allocChgF_run loadInts5F_has indexInts5F_at
set_option maxRecDepth 100000 in
/-- The law's own look at a member. -/
theorem in_any (v : V) (hl : v.h.length = 5) (p : Nat) (who : Int) (w : World) (hI : IBlk w p 28 (zV v)) :
    Calls Try.prog 10 #[.int .i64 who, .pointer (some ⟨p, 0, none⟩)] w fun e w' => e = .returned (.bool (inM v.m who)) ∧ w = w' := by
  have zl := zV_length hl
  cases hk : inK who 5 with
  | false =>
    rw [inM_out hk]
    clear hI
    by_cases h0 : 0 ≤ who
    · have d0 : decide (0 ≤ who) = true := by simpa using h0
      have d1 : decide (who < 5) = false := by simpa [inK, d0] using hk
      go_enter Try.func10, Try.ntmps10
      go_wp2
      go_ret
      exact ⟨rfl, rfl⟩
    · have d0 : decide (0 ≤ who) = false := by simpa using h0
      go_enter Try.func10, Try.ntmps10
      go_wp2
      go_ret
      exact ⟨rfl, rfl⟩
  | true =>
    obtain ⟨k, rfl, hk5⟩ := inK_nat hk
    have hb := hasB_nat v.m k
    rw [inM_nat hk5]
    have c1 := hI.cell (i := 1) (by omega)
    rw [show (zV v).getD 1 0 = (v.m : Int) from rfl] at c1
    generalize v.m.testBit k = bb at *
    have hb' : (bits BinOp.and IntKind.i64 ((v.m : Int) / 2 ^ k) 1 == 1) = bb := hb
    generalize (v.m : Int) = mm at c1 hb'
    have d1 : (k : Int) < 5 := by omega
    clear hI hb zl hk
    go_enter Try.func10, Try.ntmps10
    cases bb
    all_goals
      go_wp2
      go_ret
      exact ⟨rfl, rfl⟩
theorem next_out {v : V} {kd who heir : Int} (h : inK who 5 = false) : nextV v kd who heir = none := by
  unfold nextV canJoin canLeave inM
  rw [h]
  simp
theorem or_xor : ∀ m : Fin 32, ∀ k : Fin 5, m.val.testBit k.val = false → m.val ||| 2 ^ k.val = m.val ^^^ 2 ^ k.val := by decide +kernel
/-- The heirs, as far as the law's own loop has come. -/
def hsN (v : V) (k j n : Nat) : List Nat := (List.range 5).map fun i => if i < n ∧ (v.heir i = k + 1 ∨ i = k) then j + 1 else v.heir i
theorem hsN_len (v : V) (k j n : Nat) : (hsN v k j n).length = 5 := by simp [hsN]
theorem hsN_zero {v : V} (h : v.h.length = 5) (k j : Nat) : hsN v k j 0 = v.h := by
  apply List.ext_getElem
  · rw [hsN_len, h]
  · intro i h1 h2
    simp [hsN, V.heir, h2]
theorem hsN_yes {v : V} {k j n : Nat} (hn : v.heir n = k + 1 ∨ n = k) : hsN v k j (n + 1) = (hsN v k j n).set n (j + 1) := by
  apply List.ext_getElem
  · rw [List.length_set, hsN_len, hsN_len]
  · intro i h1 h2
    simp only [hsN, List.getElem_map, List.getElem_range, List.getElem_set]
    by_cases e : n = i
    · subst e; simp [hn]
    · have : i < n + 1 ↔ i < n := by omega
      simp [e, this]
theorem hsN_no {v : V} {k j n : Nat} (hn : ¬ (v.heir n = k + 1 ∨ n = k)) : hsN v k j (n + 1) = hsN v k j n := by
  apply List.ext_getElem
  · rw [hsN_len, hsN_len]
  · intro i h1 h2
    simp only [hsN, List.getElem_map, List.getElem_range]
    by_cases e : n = i
    · subst e; simp [hn]
    · have : i < n + 1 ↔ i < n := by omega
      simp [this]
theorem hsN_end (v : V) (k j : Nat) : hsN v k j 5 = (leaveV v k j).h := by
  apply List.ext_getElem
  · rw [hsN_len]; simp [leaveV]
  · intro i h1 h2
    have hi : i < 5 := by rw [hsN_len] at h1; exact h1
    simp [hsN, leaveV, hi]
theorem wf_zeros : wf64 (zeros 7) := by
  intro z hz
  rw [List.eq_of_mem_replicate hz]
  decide
theorem eq_self {xs : List Int} (hx : xs.length = 7) (wx : wf64 xs) (w : World) : (Op.equalIn 10000 28 (.agg (iA xs)) (.agg (iA xs))).run Try.prog w = .ok true w := by
  have := Try.eqView hx hx wx wx w
  simpa using this
set_option maxRecDepth 100000 in
set_option maxHeartbeats 6400000 in
theorem walk (w : World) (A : Option Addr) (n c : Nat) (zs : List Int) (hR : IntsIn w w.heap.size 3 A n zs) (_ : n ≤ c) (_ : c ≤ maxLen) (cs : List Int) (hcl : cs.length = 3) (hcw : wf64 cs) :
    Calls Try.prog 3 #[.slice A n c, .agg (iA cs)] w fun e w' => e = .returned (.bool true) ∧ Below w.heap.size w w' := by
  have hC0 : IBlk (w.alloc (.cells (iA cs) 24)) w.heap.size 24 cs := IBlk.new _ _ _
  have hB0 : Below w.heap.size w (w.alloc (.cells (iA cs) 24)) := (Below.refl _ _).alloc (Nat.le_refl _) _
  go_enter Try.func3, Try.ntmps3
  go_upto_region 1 with fail
  generalize w.alloc (.cells (iA cs) 24) = w0 at hC0 hB0
  go_wp2_with fail
  (with_reducible refine (fit11_any w0).mono ?_)
  rintro e w1 ⟨rfl, hb1⟩
  have B1 := hB0.trans (hb1.mono hB0.size)
  have hC1 := hC0.below hb1 hC0.lt
  clear hB0 hC0 hb1
  by_cases h40 : 40 < n
  · have d1 : (40 : Int) < (n : Int) := by omega
    go_wp2_with fail
    go_ret
    exact ⟨rfl, B1⟩
  have d1 : ¬ (40 : Int) < (n : Int) := by omega
  have hR1 := hR.below B1 (Nat.le_refl _)
  have HBH := behind_any A n c zs w1 ⟨hR1.len, hR1.wf, fun hn => by
    obtain ⟨ab, off, e, hb, hc⟩ := hR1.at_ hn
    exact ⟨ab, off, e, Nat.lt_of_lt_of_le hb B1.size, hc⟩⟩ (by omega)
  obtain ⟨o1, o2, o3⟩ := behV_ok zs n
  generalize behV zs n = bv at HBH o1 o2 o3
  obtain ⟨v, m⟩ := bv
  simp only at HBH o1 o2 o3
  have hvl := zV_length o1.len
  have hvi : Is 7 (zV v) := hvl
  go_wp2_with fail
  (with_reducible refine HBH.mono ?_)
  rintro e w2 ⟨rfl, hb2⟩
  have B2 := B1.trans (hb2.mono B1.size)
  have hC2 := hC1.below hb2 hC1.lt
  clear B1 hb2 HBH hR1 d1 hC1
  obtain ⟨rm, hX, hO, B3⟩ := lay (t := 28) B2 hvl B2.size
  have hC3 := hC2.only hO (fun h => h)
  have hcp := hC2.lt
  go_upto_region 6 with fail
  generalize w2.heap.size = p at hX hO B3 hC3 hcp
  generalize (w2.alloc (.cells (iA (zeros 7)) 28)).setCells p 0 (iV (zV v)) = w3 at hX hO B3 hC3
  clear rm hO B2 hC2
  have m40 : (m : Int) ≤ 40 := by omega
  have m0 : (0 : Int) ≤ (m : Int) := by omega
  have c0 := hX.cell (i := 0) (by omega)
  rw [show (zV v).getD 0 0 = (v.e : Int) from rfl, o2, show (((m + 1 : Nat)) : Int) = (m : Int) + 1 from rfl] at c0
  obtain ⟨r3, h3⟩ := hX.whole hvl
  go_wp2_with fail
  (with_reducible refine (right_ok v o1 w3).mono ?_)
  rintro e w4 ⟨rfl, hb4⟩
  have hX4 := hX.below hb4 hX.lt
  have hC4 := hC3.below hb4 hC3.lt
  have B4 := B3.trans (hb4.mono B3.size)
  have v6 : v.e < 999999 := by omega
  clear hX hC3 B3 hb4 r3 h3 c0 o2 o3 m40 m0
  obtain ⟨r4, h4⟩ := hX4.whole hvl
  obtain ⟨r5, h5⟩ := hC4.whole hcl
  have HK := next_any v o1 (by omega) cs hcl w4
  go_wp2_with fail
  (with_reducible refine HK.mono ?_)
  rintro e w5 ⟨rfl, hb5⟩
  have hX5 := hX4.below hb5 hX4.lt
  have hC5 := hC4.below hb5 hC4.lt
  have B5 := B4.trans (hb5.mono B4.size)
  clear hX4 hC4 B4 hb5 r4 h4 r5 h5 HK
  unfold nextL
  obtain ⟨kd, who, heir, rfl⟩ : ∃ a b d, cs = [a, b, d] := by
    match cs, hcl with
    | [a, b, d], _ => exact ⟨_, _, _, rfl⟩
  rw [show ([kd, who, heir] : List Int).getD 0 0 = kd from rfl, show ([kd, who, heir] : List Int).getD 1 0 = who from rfl, show ([kd, who, heir] : List Int).getD 2 0 = heir from rfl]
  have hzl : (resV (nextV v kd who heir)).length = 7 := resV_len fun u hu => (nextV_ok o1 hu).1.len
  have HZ := hide (show ∀ r, nextV v kd who heir = r → resV (nextV v kd who heir) = resV r ∧ resE (nextV v kd who heir) = resE r from fun r h => by rw [h]; exact ⟨rfl, rfl⟩)
  generalize resV (nextV v kd who heir) = zz at *
  generalize resE (nextV v kd who heir) = er at *
  have hzi : Is 7 zz := hzl
  obtain ⟨rm, hW, hO, B6⟩ := lay (t := 28) B5 hzl B5.size
  have hX6 := hX5.only hO (fun h => h)
  have hC6 := hC5.only hO (fun h => h)
  have hqp := hX5.lt
  clear hX5 hC5 B5 hO hvi
  go_upto_region 10 with fail
  generalize w5.heap.size = q at hW B6 hX6 hC6 hqp
  generalize (w5.alloc (.cells (iA (zeros 7)) 28)).setCells q 0 (iV zz) = w6 at hW B6 hX6 hC6
  clear rm
  have hv0 : w6.cell? ⟨p, 0, none⟩ = some (.int .i64 (v.e : Int)) := hX6.cell (i := 0) (by omega)
  have c0 : w6.cell? ⟨w.heap.size, 0, none⟩ = some (.int .i64 kd) := hC6.cell (i := 0) (by omega)
  have c1 : w6.cell? ⟨w.heap.size, 1, none⟩ = some (.int .i64 who) := hC6.cell (i := 1) (by omega)
  have c2 : w6.cell? ⟨w.heap.size, 2, none⟩ = some (.int .i64 heir) := hC6.cell (i := 2) (by omega)
  cases hk : inK who 5 with
  | false =>
    obtain ⟨ez, ee⟩ := HZ.out none (next_out hk)
    rw [show resV none = zeros 7 from rfl] at ez
    rw [show resE none = 5 from rfl] at ee
    subst ez ee
    have hqq := fun w => eq_self (zeros_length 7) wf_zeros w
    obtain ⟨r8, h8⟩ := hW.whole hzl
    clear HZ hW hzl hC6 hv0
    by_cases h0 : 0 ≤ who
    · have d0 : decide (0 ≤ who) = true := by simpa using h0
      have d1 : decide (who < 5) = false := by simpa [inK, d0] using hk
      go_wp2_with fail
      go_ret
      exact ⟨rfl, B6⟩
    · have d0 : decide (0 ≤ who) = false := by simpa using h0
      go_wp2_with fail
      go_ret
      exact ⟨rfl, B6⟩
  | true =>
    obtain ⟨k, rfl, hk5⟩ := inK_nat hk
    have d1 : (k : Int) < 5 := by omega
    have ch : w6.cell? ⟨p, 2 + k, none⟩ = some (.int .i64 (v.heir k : Int)) := by rw [hX6.cell (i := 2 + k) (by omega), zV_heir]
    by_cases k0 : kd = 0
    · subst k0
      cases hb : v.m.testBit k with
      | true =>
        obtain ⟨ez, ee⟩ := HZ.out none (by rw [nextV, if_pos rfl, canJoin, hk, show ((k : Int)).toNat = k from rfl, hb]; rfl)
        rw [show resV none = zeros 7 from rfl] at ez
        rw [show resE none = 5 from rfl] at ee
        subst ez ee
        have hqq := fun w => eq_self (zeros_length 7) wf_zeros w
        obtain ⟨r8, h8⟩ := hW.whole hzl
        clear HZ hW hzl hC6 hv0
        go_wp2_with fail
        (with_reducible refine (in_any v o1.len p (k : Int) w6 hX6).mono ?_)
        rintro e w7 ⟨rfl, rfl⟩
        rw [inM_nat hk5, hb]
        go_wp2_with fail
        go_ret
        exact ⟨rfl, B6⟩
      | false =>
        cases hh : v.heir k == 0 with
        | false =>
          obtain ⟨ez, ee⟩ := HZ.out none (by rw [nextV, if_pos rfl, canJoin, hk, show ((k : Int)).toNat = k from rfl, hb, hh]; rfl)
          rw [show resV none = zeros 7 from rfl] at ez
          rw [show resE none = 5 from rfl] at ee
          subst ez ee
          have hqq := fun w => eq_self (zeros_length 7) wf_zeros w
          obtain ⟨r8, h8⟩ := hW.whole hzl
          clear HZ hW hzl hC6 hv0
          have dh : ((v.heir k : Int) == 0) = false := by rw [beq_eq_false_iff_ne] at hh ⊢; omega
          go_wp2_with fail
          (with_reducible refine (in_any v o1.len p (k : Int) w6 hX6).mono ?_)
          rintro e w7 ⟨rfl, rfl⟩
          rw [inM_nat hk5, hb]
          go_wp2_with fail
          go_ret
          exact ⟨rfl, B6⟩
        | true =>
          have dh : ((v.heir k : Int) == 0) = true := by rw [beq_iff_eq] at hh ⊢; omega
          obtain ⟨ez, ee⟩ := HZ.out (some (joinV v k)) (by rw [nextV, if_pos rfl, canJoin, hk, show ((k : Int)).toNat = k from rfl, hb, hh]; rfl)
          rw [show resV (some (joinV v k)) = zV (joinV v k) from rfl] at ez
          rw [show resE (some (joinV v k)) = 0 from rfl] at ee
          subst ez ee
          have uo : (joinV v k).Ok := o1.join hk5 (by simpa using hh)
          have ul := uo.len
          have hqq := fun w => eq_self hzl (uo.wf (by show v.e + 1 < 1000000; omega)) w
          have hxo := xor_is o1.m2 hk5
          have hm : v.m ||| 2 ^ k = v.m ^^^ 2 ^ k := or_xor ⟨v.m, o1.m2⟩ ⟨k, hk5⟩ hb
          have HE := hide (show ((zV v).set 0 ((v.e : Int) + 1)).set 1 ((v.m ^^^ 2 ^ k : Nat) : Int) = zV (joinV v k) by rw [← hm]; rfl)
          have hvi : Is 7 (zV v) := hvl
          have e2 : (v.e : Int) < 1000000 := by omega
          have e3 : (0 : Int) ≤ (v.e : Int) := by omega
          obtain ⟨rm, hY, hO, B7⟩ := lay (t := 28) B6 hvl B6.size
          have hW7 := hW.only hO (fun h => h)
          have hC7 := hC6.only hO (fun h => h)
          have hgl := hW.lt
          obtain ⟨rx, h9⟩ := hX6.whole hvl
          clear HZ hO hC6 hW
          go_wp2_with fail
          (with_reducible refine (in_any v o1.len p (k : Int) w6 hX6).mono ?_)
          rintro e w7 ⟨rfl, rfl⟩
          rw [inM_nat hk5, hb]
          go_upto_region 19 with fail
          generalize w6.heap.size = g at hY B7 hW7 hC7 hgl
          generalize (w6.alloc (.cells (iA (zeros 7)) 28)).setCells g 0 (iV (zV v)) = w7 at hY B7 hW7 hC7
          clear rm rx h9 B6 hX6 c0 c1 c2 hv0 ch
          have c0 := hY.cell (i := 0) (by omega)
          rw [show (zV v).getD 0 0 = (v.e : Int) from rfl] at c0
          have f0 := hY.frozen 0
          have hO8 := only_cell w7 g 0 (.int .i64 ((v.e : Int) + 1))
          have hY8 := hY.set 0 ((v.e : Int) + 1)
          have hW8 := hW7.only hO8 (by omega)
          have hC8 := hC7.only hO8 (by omega)
          have B8 := below_only B7 hO8 (fun i (e : i = g) => by omega) B7.size
          go_upto_region 20 with fail
          clear c0 f0 e2 e3 hY B7 hW7 hC7 hO8
          generalize w7.setCell ⟨g, 0, none⟩ (.int .i64 ((v.e : Int) + 1)) = w8 at *
          have c1 := hY8.drew.cell (i := 1) (by rw [List.length_set]; omega)
          rw [show ((zV v).set 0 ((v.e : Int) + 1)).getD 1 0 = (v.m : Int) from rfl] at c1
          have c2 : w8.drew.cell? ⟨w.heap.size, 1, none⟩ = some (.int .i64 (k : Int)) := hC8.drew.cell (i := 1) (by omega)
          have f1 := hY8.drew.frozen 1
          generalize v.m ^^^ 2 ^ k = M at hxo HE
          have hO9 := only_cell w8 g 1 (.int .i64 (M : Int))
          have hY9 := (hY8.set 1 (M : Int)).drew
          rw [HE.out] at hY9
          have hW9 := (hW8.only hO9 (by omega)).drew
          have hC9 := (hC8.only hO9 (by omega)).drew
          have B9 := Below.drewR (below_only B8 hO9 (fun i (e : i = g) => by omega) B8.size)
          clear hY8 hW8 hC8 B8 hO9
          go_region
          all_goals
            change Exit.then _ _ _ _ (w8.setCell ⟨g, 1, none⟩ (.int .i64 (M : Int))).drew
            generalize (w8.setCell ⟨g, 1, none⟩ (.int .i64 (M : Int))).drew = w9 at hY9 hW9 hC9 B9 ⊢
            clear c1 c2 f1 hxo
            have c0 : w9.cell? ⟨w.heap.size, 0, none⟩ = some (.int .i64 0) := hC9.cell (i := 0) (by omega)
            generalize joinV v k = u at *
            obtain ⟨ry, hy⟩ := hY9.whole hzl
            obtain ⟨r8, h8⟩ := hW9.whole hzl
            go_wp2_with fail
            (with_reducible refine (right_ok u uo w9).mono ?_)
            rintro e w10 ⟨rfl, hb10⟩
            go_wp2_with fail
            go_ret
            exact ⟨rfl, B9.trans (hb10.mono B9.size)⟩
    · have d0 : (kd == 0) = false := by simpa using k0
      by_cases k1 : kd = 1
      · subst k1
        cases hb : v.m.testBit k with
        | false =>
          obtain ⟨ez, ee⟩ := HZ.out none (by rw [nextV, if_neg k0, if_pos rfl, canLeave, inM_nat hk5, hb]; rfl)
          rw [show resV none = zeros 7 from rfl] at ez
          rw [show resE none = 5 from rfl] at ee
          subst ez ee
          have hqq := fun w => eq_self (zeros_length 7) wf_zeros w
          obtain ⟨r8, h8⟩ := hW.whole hzl
          clear HZ hW hzl hC6 hv0
          go_wp2_with fail
          (with_reducible refine (in_any v o1.len p (k : Int) w6 hX6).mono ?_)
          rintro e w7 ⟨rfl, rfl⟩
          rw [inM_nat hk5, hb]
          go_wp2_with fail
          go_ret
          exact ⟨rfl, B6⟩
        | true =>
          cases hj : inM v.m heir with
          | false =>
            obtain ⟨ez, ee⟩ := HZ.out none (by rw [nextV, if_neg k0, if_pos rfl, canLeave, inM_nat hk5, hb, hj]; rfl)
            rw [show resV none = zeros 7 from rfl] at ez
            rw [show resE none = 5 from rfl] at ee
            subst ez ee
            have hqq := fun w => eq_self (zeros_length 7) wf_zeros w
            obtain ⟨r8, h8⟩ := hW.whole hzl
            clear HZ hW hzl hC6 hv0
            go_wp2_with fail
            (with_reducible refine (in_any v o1.len p (k : Int) w6 hX6).mono ?_)
            rintro e w7 ⟨rfl, rfl⟩
            rw [inM_nat hk5, hb]
            go_wp2_with fail
            (with_reducible refine (in_any v o1.len p heir w6 hX6).mono ?_)
            rintro e w7 ⟨rfl, rfl⟩
            rw [hj]
            go_wp2_with fail
            go_ret
            exact ⟨rfl, B6⟩
          | true =>
            cases he : heir == (k : Int) with
            | true =>
              obtain ⟨ez, ee⟩ := HZ.out none (by rw [nextV, if_neg k0, if_pos rfl, canLeave, inM_nat hk5, hb, hj, he]; rfl)
              rw [show resV none = zeros 7 from rfl] at ez
              rw [show resE none = 5 from rfl] at ee
              subst ez ee
              have hqq := fun w => eq_self (zeros_length 7) wf_zeros w
              obtain ⟨r8, h8⟩ := hW.whole hzl
              clear HZ hW hzl hC6 hv0
              have dn : (heir != (k : Int)) = false := by rw [bne, he]; rfl
              go_wp2_with fail
              (with_reducible refine (in_any v o1.len p (k : Int) w6 hX6).mono ?_)
              rintro e w7 ⟨rfl, rfl⟩
              rw [inM_nat hk5, hb]
              go_wp2_with fail
              (with_reducible refine (in_any v o1.len p heir w6 hX6).mono ?_)
              rintro e w7 ⟨rfl, rfl⟩
              rw [hj]
              go_wp2_with fail
              go_ret
              exact ⟨rfl, B6⟩
            | false =>
              have dn : (heir != (k : Int)) = true := by rw [bne, he]; rfl
              obtain ⟨j, rfl, hj5, hbj⟩ := inM_true hj
              obtain ⟨ez, ee⟩ := HZ.out (some (leaveV v k j)) (by rw [nextV, if_neg k0, if_pos rfl, canLeave, inM_nat hk5, hb, hj, he]; rfl)
              rw [show resV (some (leaveV v k j)) = zV (leaveV v k j) from rfl] at ez
              rw [show resE (some (leaveV v k j)) = 0 from rfl] at ee
              subst ez ee
              have uo : (leaveV v k j).Ok := o1.leave hk5 hj5 hb hbj (fun e => by subst e; simp at he)
              have ul := uo.len
              have hqq := fun w => eq_self hzl (uo.wf (by show v.e + 1 < 1000000; omega)) w
              have hxo := xor_is o1.m2 hk5
              have HE := hide (show ((zV v).set 0 ((v.e : Int) + 1)).set 1 ((v.m ^^^ 2 ^ k : Nat) : Int) = zV ⟨v.e + 1, v.m ^^^ 2 ^ k, hsN v k j 0⟩ by rw [hsN_zero o1.len]; rfl)
              have HEND := hide (show zV ⟨v.e + 1, v.m ^^^ 2 ^ k, hsN v k j 5⟩ = zV (leaveV v k j) by rw [hsN_end]; rfl)
              have hvi : Is 7 (zV v) := hvl
              have e2 : (v.e : Int) < 1000000 := by omega
              have e3 : (0 : Int) ≤ (v.e : Int) := by omega
              obtain ⟨rm, hY, hO, B7⟩ := lay (t := 28) B6 hvl B6.size
              have hW7 := hW.only hO (fun h => h)
              have hC7 := hC6.only hO (fun h => h)
              have hgl := hW.lt
              obtain ⟨rx, h9⟩ := hX6.whole hvl
              clear HZ hO hC6 hW
              go_wp2_with fail
              (with_reducible refine (in_any v o1.len p (k : Int) w6 hX6).mono ?_)
              rintro e w7 ⟨rfl, rfl⟩
              rw [inM_nat hk5, hb]
              go_wp2_with fail
              (with_reducible refine (in_any v o1.len p (j : Int) w6 hX6).mono ?_)
              rintro e w7 ⟨rfl, rfl⟩
              rw [hj]
              go_upto_region 19 with fail
              generalize w6.heap.size = g at hY B7 hW7 hC7 hgl
              generalize (w6.alloc (.cells (iA (zeros 7)) 28)).setCells g 0 (iV (zV v)) = w7 at hY B7 hW7 hC7
              clear rm rx h9 B6 hX6 c0 c1 c2 hv0 ch
              have c0 := hY.cell (i := 0) (by omega)
              rw [show (zV v).getD 0 0 = (v.e : Int) from rfl] at c0
              have f0 := hY.frozen 0
              have hO8 := only_cell w7 g 0 (.int .i64 ((v.e : Int) + 1))
              have hY8 := hY.set 0 ((v.e : Int) + 1)
              have hW8 := hW7.only hO8 (by omega)
              have hC8 := hC7.only hO8 (by omega)
              have B8 := below_only B7 hO8 (fun i (e : i = g) => by omega) B7.size
              go_upto_region 20 with fail
              clear c0 f0 e2 e3 hY B7 hW7 hC7 hO8
              generalize w7.setCell ⟨g, 0, none⟩ (.int .i64 ((v.e : Int) + 1)) = w8 at *
              have c1 := hY8.drew.cell (i := 1) (by rw [List.length_set]; omega)
              rw [show ((zV v).set 0 ((v.e : Int) + 1)).getD 1 0 = (v.m : Int) from rfl] at c1
              have c2 : w8.drew.cell? ⟨w.heap.size, 1, none⟩ = some (.int .i64 (k : Int)) := hC8.drew.cell (i := 1) (by omega)
              have f1 := hY8.drew.frozen 1
              generalize v.m ^^^ 2 ^ k = M at hxo HE HEND
              have hO9 := only_cell w8 g 1 (.int .i64 (M : Int))
              have hY9 := (hY8.set 1 (M : Int)).drew
              rw [HE.out] at hY9
              have hW9 := (hW8.only hO9 (by omega)).drew
              have hC9 := (hC8.only hO9 (by omega)).drew
              have B9 := Below.drewR (below_only B8 hO9 (fun i (e : i = g) => by omega) B8.size)
              clear hY8 hW8 hC8 B8 hO9
              go_region
              all_goals
                change Exit.then _ _ _ _ (w8.setCell ⟨g, 1, none⟩ (.int .i64 (M : Int))).drew
                generalize (w8.setCell ⟨g, 1, none⟩ (.int .i64 (M : Int))).drew = w9 at hY9 hW9 hC9 B9 ⊢
                clear c1 c2 f1 hxo
                have c0 : w9.cell? ⟨w.heap.size, 0, none⟩ = some (.int .i64 1) := hC9.cell (i := 0) (by omega)
                obtain ⟨ry, hy⟩ := hY9.got 2 5 (by rw [zV_length (hsN_len v k j 0)]; decide)
                rw [zV_drop _ (hsN_len v k j 0), show (V.h ⟨v.e + 1, M, hsN v k j 0⟩) = v.h from hsN_zero o1.len k j] at ry
                have hl5 : Is 5 (zH v.h) := by rw [Is, zH_length, o1.len]
                have hg := fun n => zH_getD v.h n
                have hql := hW9.lt
                clear hb hbj hj he dn
                generalize zH v.h = l at hl5 hg ry
                generalize leaveV v k j = u at *
                go_wp2_with fail
                clear ry hy c0
                go_loopw [12, 13, 119] (fun _ _ s119 wr => ∃ i : Nat, i ≤ 5 ∧ s119 = .int .i64 i ∧ IBlk wr g 28 (zV ⟨v.e + 1, M, hsN v k j i⟩) ∧ IBlk wr q 28 (zV u) ∧ IBlk wr w.heap.size 24 [1, (k : Int), (j : Int)] ∧ Below w.heap.size w wr) (fun _ _ s119 _ => 5 - (intOf s119).toNat)
                case atStart => exact ⟨0, Nat.zero_le _, rfl, hY9, hW9, hC9, B9⟩
                case round =>
                  clear hY9 hW9 hC9 B9
                  obtain ⟨i, hi, rfl, hY, hW, hC, hB⟩ := hrel
                  by_cases hlt : i < 5
                  · have hx := hg i
                    rw [show v.h.getD i 0 = v.heir i from rfl] at hx
                    obtain ⟨x, hxe⟩ : ∃ x, v.heir i = x := ⟨_, rfl⟩
                    have hx5 := o1.heir_le hlt
                    rw [hxe] at hx hx5
                    have hx' : l[i]?.getD 0 = (x : Int) := by simpa using hx
                    clear hx
                    have e1 : wr.cell? ⟨w.heap.size, 1, none⟩ = some (.int .i64 (k : Int)) := hC.cell (i := 1) (by omega)
                    have e2 : wr.cell? ⟨w.heap.size, 2, none⟩ = some (.int .i64 (j : Int)) := hC.cell (i := 2) (by omega)
                    have hO := only_cell wr g (2 + i) (.int .i64 ((j : Int) + 1))
                    have hY2 := hY.set (2 + i) ((j : Int) + 1)
                    have hW2 := hW.only hO (by omega)
                    have hC2 := hC.only hO (by omega)
                    have hB2 := below_only hB hO (fun i (e : i = g) => by omega) hB.size
                    have c7 := hY.cell (i := 2 + i) (by rw [zV_length (hsN_len v k j i)]; omega)
                    have f7 := hY.frozen (2 + i)
                    rw [show ((j : Int) + 1) = ((j + 1 : Nat) : Int) from rfl, zV_set] at hY2
                    by_cases hz : v.heir i = k + 1 ∨ i = k
                    · rw [← hsN_yes hz] at hY2
                      have hY2 : IBlk (wr.setCell ⟨g, 2 + i, none⟩ (.int .i64 ((j : Int) + 1))) g 28 (zV ⟨v.e + 1, M, hsN v k j (i + 1)⟩) := hY2
                      clear hO hY hW hC hB
                      by_cases hx1 : x = k + 1
                      · have d1 : ((x : Int) == (k : Int) + 1) = true := by rw [beq_iff_eq]; omega
                        clear hx1 hz hxe
                        go_wp2_with fail
                        go_roundw
                        case rel => exact ⟨i + 1, by omega, by go_num, hY2, hW2, hC2, hB2⟩
                        case measure => simp [intOf]; omega
                      · have d1 : ((x : Int) == (k : Int) + 1) = false := by rw [beq_eq_false_iff_ne]; omega
                        have d2 : ((i : Int) == (k : Int)) = true := by rw [beq_iff_eq]; omega
                        clear hx1 hz hxe
                        go_wp2_with fail
                        go_roundw
                        case rel => exact ⟨i + 1, by omega, by go_num, hY2, hW2, hC2, hB2⟩
                        case measure => simp [intOf]; omega
                    · have hY3 := hY
                      rw [← hsN_no hz] at hY3
                      have d1 : ((x : Int) == (k : Int) + 1) = false := by rw [beq_eq_false_iff_ne]; omega
                      have d2 : ((i : Int) == (k : Int)) = false := by rw [beq_eq_false_iff_ne]; omega
                      clear hO hY hY2 hW2 hC2 hB2 hz hxe
                      go_wp2_with fail
                      go_roundw
                      case rel => exact ⟨i + 1, by omega, by go_num, hY3, hW, hC, hB⟩
                      case measure => simp [intOf]; omega
                  · obtain rfl : i = 5 := by omega
                    rw [HEND.out] at hY
                    obtain ⟨ry, hy⟩ := hY.whole hzl
                    obtain ⟨r8, h8⟩ := hW.whole hzl
                    go_wp2_with fail
                    (with_reducible refine (right_ok u uo wr).mono ?_)
                    rintro e w10 ⟨rfl, hb10⟩
                    go_wp2_with fail
                    go_ret
                    exact ⟨rfl, hB.trans (hb10.mono hB.size)⟩
      · have d2 : (kd == 1) = false := by simpa using k1
        obtain ⟨ez, ee⟩ := HZ.out none (by rw [nextV, if_neg k0, if_neg k1])
        rw [show resV none = zeros 7 from rfl] at ez
        rw [show resE none = 5 from rfl] at ee
        subst ez ee
        have hqq := fun w => eq_self (zeros_length 7) wf_zeros w
        obtain ⟨r8, h8⟩ := hW.whole hzl
        clear HZ hW hzl hC6 hv0
        go_wp2_with fail
        go_ret
        exact ⟨rfl, B6⟩
end Go.Proofs.Ytpofcnokbmaooaa.viewNexts
