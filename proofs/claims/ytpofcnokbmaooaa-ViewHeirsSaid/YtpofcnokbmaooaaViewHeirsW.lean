/- The walk of ViewHeirs. -/
import Derived.Test.YtpofcnokbmaooaaVwC
namespace Go.Proofs.Ytpofcnokbmaooaa.viewHeirs
open Go.RowKit

theorem zeroInt (w : World) : (zeroValue 3).run Try.prog w = .ok (.int .i64 0) w := by kernel_rfl
theorem wf_nat {n : Nat} (h : n < 1000000) : (Lit.int .i64 (n : Int)).wf = true := by
  simp only [Lit.wf, Bool.and_eq_true, decide_eq_true_eq]
  exact ⟨Int.le_trans (show IntKind.i64.min ≤ 0 by decide) (by omega), Int.le_trans (show (n : Int) ≤ 1000000 by omega) (by decide)⟩
/-- What the first loop knows. -/
def Rel (w : World) (p b : Nat) (i : Nat) (wr : World) : Prop :=
  ∃ (v : V) (g : Nat → Option Nat), v.Ok ∧ v.e ≤ i + 1 ∧ Hs v g ∧ IBlk wr p 28 (zV v) ∧ MapO wr b i (fG g) ∧ Below w.heap.size w wr
attribute [local go_sem ↓] loadViewF_fold storeViewF_fold allocViewF_fold buildViewF_fold loadChgF_fold storeChgF_fold allocChgF_fold
attribute [local go_sem] loadViewF_has storeViewF_has allocViewF_run buildViewF_none buildViewF_two loadChgF_has storeChgF_has allocChgF_run
set_option maxRecDepth 100000 in
set_option maxHeartbeats 6400000 in
theorem walk (w : World) (A : Option Addr) (n c : Nat) (zs : List Int) (hR : IntsIn w w.heap.size 3 A n zs) (_ : n ≤ c) (_ : c ≤ maxLen) :
    Calls Try.prog 5 #[.slice A n c] w fun e w' => e = .returned (.bool true) ∧ Below w.heap.size w w' := by
  have hmm := @run_makeMap Try.prog
  have zfl : (zV firstV).length = 7 := rfl
  have zfi : Is 7 (zV firstV) := rfl
  go_enter Try.func5, Try.ntmps5
  go_wp2_with fail
  (with_reducible refine (fit11_any w).mono ?_)
  rintro e w1 ⟨rfl, B1⟩
  by_cases h40 : 40 < n
  · have d1 : (40 : Int) < (n : Int) := by omega
    go_wp2_with fail
    go_ret
    exact ⟨rfl, B1⟩
  have d1 : ¬ (40 : Int) < (n : Int) := by omega
  go_wp2_with fail
  (with_reducible refine (first_any w1).mono ?_)
  rintro e w2 ⟨rfl, hb2⟩
  have B2 := B1.trans (hb2.mono B1.size)
  clear B1 hb2
  obtain ⟨rm, hX, hO, B3⟩ := lay (t := 28) B2 zfl B2.size
  have hwp := B2.size
  go_upto_region 6 with fail
  generalize w2.heap.size = p at hX hO B3 hwp
  generalize (w2.alloc (.cells (iA (zeros 7)) 28)).setCells p 0 (iV (zV firstV)) = w3 at hX hO B3
  clear rm hO B2 zfl zfi
  have hM4 := mapO_made w3
  have hX4 := hX.alloc (.map #[] 0)
  have B4 := B3.alloc B3.size (.map #[] 0)
  have hpb := hX.lt
  go_upto_region 7 with fail
  generalize w3.heap.size = b at hM4 hpb
  generalize w3.alloc (.map #[] 0) = w4 at hM4 hX4 B4
  rw [fG_none] at hM4
  have HR0 : Rel w p b 0 w4 := ⟨firstV, fun _ => none, firstV_ok, Nat.le_refl _, hs_first, hX4, hM4, B4⟩
  clear hX B3 hM4 hX4 B4 hmm
  go_wp2_with fail
  clear d1
  go_loopw [25] (fun s25 wr => ∃ i : Nat, i ≤ n ∧ s25 = .int .i64 i ∧ Rel w p b i wr) (fun s25 _ => n - (intOf s25).toNat)
  case atStart => exact ⟨0, Nat.zero_le _, rfl, HR0⟩
  case round =>
    clear HR0
    obtain ⟨i, hi, rfl, v, g, ho, he, hh, hX, hM, hB⟩ := hrel
    by_cases hlt : i < n
    · obtain ⟨ab, off, rfl, habl, _⟩ := hR.at_ (by omega)
      obtain ⟨r0, h0⟩ := (hR.below hB (Nat.le_refl _)).got rfl hlt
      obtain ⟨hcl, hcw⟩ := hR.one hlt
      have dl : (i : Int) < (n : Int) := by omega
      generalize oneZ 3 zs i = cs at *
      obtain ⟨kd, who, heir, rfl⟩ : ∃ a b d, cs = [a, b, d] := by
        match cs, hcl with
        | [a, b, d], _ => exact ⟨_, _, _, rfl⟩
      have hci : Is 3 [kd, who, heir] := rfl
      have HK := fun w => next_any v ho (by omega) [kd, who, heir] hcl w
      rw [show nextL v [kd, who, heir] = nextV v kd who heir from rfl] at HK
      have hvl := zV_length ho.len
      obtain ⟨rm, hC, hO, hB2⟩ := lay (t := 24) hB hcl hB.size
      have hX2 := hX.only hO (fun h => h)
      have hM2 := hM.only hO (fun h => h)
      have hpl := hX.lt
      have hbl := hM.lt
      clear hX hM hB hO hcw
      go_upto_region 10 with fail
      generalize wr.heap.size = q at hC hB2 hX2 hM2 hpl hbl
      generalize (wr.alloc (.cells (iA (zeros 3)) 24)).setCells q 0 (iV [kd, who, heir]) = w5 at hC hX2 hM2 hB2
      clear rm r0 h0
      obtain ⟨r1, h1⟩ := hX2.whole hvl
      obtain ⟨r2, h2⟩ := hC.whole hcl
      go_wp2_with fail
      (with_reducible refine (HK w5).mono ?_)
      rintro e w6 ⟨rfl, hb6⟩
      have hX6 := hX2.below hb6 hX2.lt
      have hC6 := hC.below hb6 hC.lt
      have hM6 := hM2.below hb6 hM2.lt
      have hB6 := hB2.trans (hb6.mono hB2.size)
      clear hX2 hM2 hB2 hC hb6 r1 h1 r2 h2 HK
      cases hnx : nextV v kd who heir with
      | none =>
        obtain ⟨rm, hZ, hO, hB7⟩ := lay (t := 28) hB6 (zeros_length 7) hB6.size
        have hX7 := hX6.only hO (fun h => h)
        have hM7 := hM6.only hO (fun h => h)
        have iz := is_zeros 7
        rw [show resV none = zeros 7 from rfl, show resE none = 5 from rfl]
        have HREL : ∀ w', w' = (w6.alloc (.cells (iA (zeros 7)) 28)).setCells w6.heap.size 0 (iV (zeros 7)) → Rel w p b (i + 1) w' := fun w' e => by
          subst e
          exact ⟨v, g, ho, by omega, hh, hX7, hM7.mono (by omega), hB7⟩
        clear hnx hX7 hM7 hB7 hX6 hM6 hB6 hO hh
        go_wp2_with fail
        go_roundw
        case rel => exact ⟨i + 1, by omega, by go_num, HREL _ rfl⟩
        case measure => simp [intOf]; omega
      | some u =>
        obtain ⟨uo, ue⟩ := nextV_ok ho hnx
        have hul := zV_length uo.len
        have hui : Is 7 (zV u) := hul
        obtain ⟨rm, hZ, hO, hB7⟩ := lay (t := 28) hB6 hul hB6.size
        have hX7 := hX6.only hO (fun h => h)
        have hM7 := hM6.only hO (fun h => h)
        have hC7 := hC6.only hO (fun h => h)
        have hql := hC6.lt
        rw [show resV (some u) = zV u from rfl, show resE (some u) = 0 from rfl]
        clear hX6 hM6 hB6 hC6 hO
        go_upto_region 11 with fail
        generalize w6.heap.size = q6 at hZ hB7 hX7 hM7 hC7 hql
        generalize (w6.alloc (.cells (iA (zeros 7)) 28)).setCells q6 0 (iV (zV u)) = w7 at hZ hB7 hX7 hM7 hC7
        clear rm
        have e0 : w7.cell? ⟨q, 0, none⟩ = some (.int .i64 kd) := hC7.cell (i := 0) (by omega)
        have e1 : w7.cell? ⟨q, 1, none⟩ = some (.int .i64 who) := hC7.cell (i := 1) (by omega)
        have e2 : w7.cell? ⟨q, 2, none⟩ = some (.int .i64 heir) := hC7.cell (i := 2) (by omega)
        clear hC7
        rcases nextV_some hnx with ⟨rfl, k, rfl, hk, hb0, hh0, rfl⟩ | ⟨rfl, k, j, rfl, rfl, hk, hj, hb1, hb2, hne, rfl⟩
        · have hs := hh.join hk hh0
          clear hnx hh hb0 hh0
          generalize joinV v k = u at *
          obtain ⟨r5, h5⟩ := hZ.whole hul
          have rm5 := hX7.room 0 7 (by omega)
          have hX8 := hX7.fill (ys := zV u) (by omega)
          have hO8 := only_cells w7 p 0 (iV (zV u))
          have hM8 := hM7.only hO8 (by omega)
          have hB8 := below_only hB7 hO8 (fun i (e : i = p) => by omega) hB7.size
          have HREL : Rel w p b (i + 1) (w7.setCells p 0 (iV (zV u))) := ⟨u, g, uo, by omega, hs, hX8, hM8.mono (by omega), hB8⟩
          clear hX7 hM7 hB7 hX8 hM8 hB8 hO8 hs hZ ue
          go_wp2_with fail
          go_roundw
          case rel => exact ⟨i + 1, by omega, by go_num, HREL⟩
          case measure => simp [intOf]; omega
        · have hs := hh.leave hk hj hb1 hb2 hne
          obtain ⟨w8, hst, hM8, hO8⟩ := hM7.store (by omega) Try.underlying42 (wf_nat (show k < 1000000 by omega)) (.int .i64 (j : Int))
          rw [fG_put] at hM8
          have hX8 := hX7.only hO8 (by omega)
          have hZ8 := hZ.only hO8 (by omega)
          have hB8 := below_only hB7 hO8 (fun i (e : i = b) => by omega) hB7.size
          clear hnx hh hb1 hb2 hne hX7 hM7 hB7 hO8 hZ
          generalize leaveV v k j = u at *
          generalize putG g k j = g' at *
          obtain ⟨r5, h5⟩ := hZ8.whole hul
          have rm5 := hX8.room 0 7 (by omega)
          have hX9 := hX8.fill (ys := zV u) (by omega)
          have hO9 := only_cells w8 p 0 (iV (zV u))
          have hM9 := hM8.only hO9 (by omega)
          have hB9 := below_only hB8 hO9 (fun i (e : i = p) => by omega) hB8.size
          have HREL : Rel w p b (i + 1) (w8.setCells p 0 (iV (zV u))) := ⟨u, g', uo, by omega, hs, hX9, hM9, hB9⟩
          clear hX8 hM8 hB8 hX9 hM9 hB9 hO9 hs hZ8 ue
          go_wp2_with fail
          go_roundw
          case rel => exact ⟨i + 1, by omega, by go_num, HREL⟩
          case measure => simp [intOf]; omega
    · obtain rfl : n = i := by omega
      clear hlt he hi
      have hvl := zV_length ho.len
      have HH := fun (k : Nat) (w : World) => heir_any v ho.len (fun i hi => ho.heir_le hi) (k : Int) w
      have HM := fun (who : Int) (w : World) => member_any v ho.len who w
      go_wp2_with fail
      go_loopw [47] (fun s47 wr => ∃ k : Nat, k ≤ 5 ∧ s47 = .int .i64 k ∧ IBlk wr p 28 (zV v) ∧ MapO wr b n (fG g) ∧ Below w.heap.size w wr) (fun s47 _ => 5 - (intOf s47).toNat)
      case atStart => exact ⟨0, Nat.zero_le _, rfl, hX, hM, hB⟩
      case round =>
        clear hX hM hB
        obtain ⟨k, hk, rfl, hX, hM, hB⟩ := hrel
        by_cases hlt : k < 5
        · obtain ⟨r1, h1⟩ := hX.whole hvl
          have hpl := hX.lt
          have HHk := HH k
          rw [heirI, leftB_nat hlt, show ((k : Int)).toNat = k from rfl] at HHk
          have dk : (k : Int) < 5 := by omega
          cases hz : v.heir k with
          | zero =>
            have gn := hh.none_ k hlt hz
            rw [hz] at HHk
            have HHk : ∀ w, Calls Try.prog 15 #[.agg (iA (zV v)), .int .i64 (k : Int)] w fun e w' => e = .returned (.tuple #[.int .i64 0, .bool false]) ∧ Below w.heap.size w w' := HHk
            go_wp2_with fail
            (with_reducible refine (HHk wr).mono ?_)
            rintro e w6 ⟨rfl, hb6⟩
            have hX6 := hX.below hb6 hX.lt
            have hM6 := hM.below hb6 hM.lt
            have hB6 := hB.trans (hb6.mono hB.size)
            have hlk := hM6.look Try.underlying42 (zeroInt w6) (wf_nat (show k < 1000000 by omega)) true
            rw [fG_nat, gn, if_pos rfl] at hlk
            have hlk : (Instr.lookup 42 (.map (some b)) (.int .i64 (k : Int)) true).run Try.prog w6 = .ok (.tuple #[.int .i64 0, .bool false]) w6 := hlk
            clear hX hM hB hb6 r1 h1 hz HHk
            go_wp2_with fail
            go_loopw [] (fun wr => IBlk wr p 28 (zV v) ∧ MapO wr b n (fG g) ∧ Below w.heap.size w wr) (fun _ => 0)
            case atStart => exact ⟨hX6, hM6, hB6⟩
            case round =>
              clear hX6 hM6 hB6
              obtain ⟨hX7, hM7, hB7⟩ := hrel
              go_wp2_with fail
              go_roundw
              case rel => exact ⟨k + 1, by omega, by go_num, hX7, hM7, hB7⟩
              case measure => simp [intOf]; omega
          | succ h =>
            obtain ⟨z, m, gz, hc⟩ := hh.some_ k hlt (by omega)
            obtain ⟨q1, _, q3⟩ := ho.hs k hlt (by omega)
            rw [hz] at HHk hc q1 q3
            rw [show h + 1 - 1 = h from rfl] at hc q3
            have HHk : ∀ w, Calls Try.prog 15 #[.agg (iA (zV v)), .int .i64 (k : Int)] w fun e w' => e = .returned (.tuple #[.int .i64 (h : Int), .bool true]) ∧ Below w.heap.size w w' := fun w => by
              have := HHk w
              rw [show ((h + 1 : Nat) : Int) - 1 = (h : Int) by omega] at this
              exact this
            have HMh := fun w => HM (h : Int) w
            rw [inM_nat (show h < 5 by omega), q3] at HMh
            go_wp2_with fail
            (with_reducible refine (HHk wr).mono ?_)
            rintro e w6 ⟨rfl, hb6⟩
            have hX6 := hX.below hb6 hX.lt
            have hM6 := hM.below hb6 hM.lt
            have hB6 := hB.trans (hb6.mono hB.size)
            have hlk := hM6.look Try.underlying42 (zeroInt w6) (wf_nat (show k < 1000000 by omega)) true
            rw [fG_nat, gz, if_pos rfl] at hlk
            have hlk : (Instr.lookup 42 (.map (some b)) (.int .i64 (k : Int)) true).run Try.prog w6 = .ok (.tuple #[.int .i64 (z : Int), .bool true]) w6 := hlk
            have hz5 := (hh.lt k z gz).2
            clear hX hM hB hb6 r1 h1 hz HHk q3
            go_wp2_with fail
            clear hlk
            go_loopw [12] (fun s12 wr => ∃ y m' : Nat, y < 5 ∧ s12 = .int .i64 y ∧ Chain g y h m' ∧ IBlk wr p 28 (zV v) ∧ MapO wr b n (fG g) ∧ Below w.heap.size w wr) (fun s12 _ => clen g (intOf s12).toNat)
            case atStart => exact ⟨z, m, hz5, rfl, hc, hX6, hM6, hB6⟩
            case round =>
              clear hX6 hM6 hB6
              obtain ⟨y, m', hy5, rfl, hcy, hX7, hM7, hB7⟩ := hrel
              have hlk := hM7.look Try.underlying42 (zeroInt wr) (wf_nat (show y < 1000000 by omega)) true
              rw [fG_nat, if_pos rfl] at hlk
              cases hcy with
              | stop g0 =>
                rw [g0] at hlk
                have hlk : (Instr.lookup 42 (.map (some b)) (.int .i64 (h : Int)) true).run Try.prog wr = .ok (.tuple #[.int .i64 0, .bool false]) wr := hlk
                obtain ⟨r7, h7⟩ := hX7.whole hvl
                go_wp2_with fail
                (with_reducible refine (HMh wr).mono ?_)
                rintro e w8 ⟨rfl, hb8⟩
                have hX8 := hX7.below hb8 hX7.lt
                have hM8 := hM7.below hb8 hM7.lt
                have hB8 := hB7.trans (hb8.mono hB7.size)
                go_wp2_with fail
                go_roundw
                case rel => exact ⟨k + 1, by omega, by go_num, hX8, hM8, hB8⟩
                case measure => simp [intOf]; omega
              | @next _ y2 _ n2 g1 hc2 =>
                rw [g1] at hlk
                have hlk : (Instr.lookup 42 (.map (some b)) (.int .i64 (y : Int)) true).run Try.prog wr = .ok (.tuple #[.int .i64 (y2 : Int), .bool true]) wr := hlk
                have y25 := (hh.lt y y2 g1).2
                have l1 := (Chain.next g1 hc2).clen
                have l2 := hc2.clen
                have HL := hide (And.intro l1 l2)
                clear l1 l2
                go_wp2_with fail
                go_roundw
                case rel => exact ⟨y2, n2, y25, rfl, hc2, hX7, hM7, hB7⟩
                case measure =>
                  show clen g (((y2 : Nat) : Int)).toNat < clen g ((y : Nat) : Int).toNat
                  rw [Int.toNat_natCast, Int.toNat_natCast, HL.out.1, HL.out.2]; omega
        · obtain rfl : k = 5 := by omega
          go_wp2_with fail
          go_ret
          exact ⟨rfl, hB⟩
end Go.Proofs.Ytpofcnokbmaooaa.viewHeirs
