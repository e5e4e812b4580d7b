/- The contract of the law package's tame. -/
import Derived.Test.YtfhepoihhigcaaaCodTame
namespace Go.Proofs.Ytfhepoihhigcaaa
open Go.RowKit

theorem and50 (n : Int) : bits .and .i64 n 1125899906842623 = n % 1125899906842624 := i64_and_mask n 50 (by omega)
theorem and30 (n : Int) : bits .and .i64 n 1073741823 = n % 1073741824 := i64_and_mask n 30 (by omega)

/-- A store of a row of zeros, folded: the walk does not open it cell by cell. -/
def Room (w : World) (b o n : Nat) : Prop := w.there b o n
def storeRow28 (x v : Value) : Sem Unit := Instr.storeAt 39 x v
theorem storeRow28_fold (x v : Value) : Instr.storeAt 39 x v = storeRow28 x v := rfl
theorem storeRow28_zero {w : World} {b o : Nat} (h : Room w b o 28) : (storeRow28 (.pointer (some ⟨b, o, none⟩)) (.agg #[.int .i64 0, .int .i64 0, .int .i64 0, .int .i64 0, .int .i64 0, .int .i64 0, .int .i64 0, .int .i64 0, .int .i64 0, .int .i64 0, .int .i64 0, .int .i64 0, .int .i64 0, .int .i64 0, .int .i64 0, .int .i64 0, .int .i64 0, .int .i64 0, .int .i64 0, .int .i64 0, .int .i64 0, .int .i64 0, .int .i64 0, .int .i64 0, .int .i64 0, .int .i64 0, .int .i64 0, .int .i64 0])).run Try.prog w = .ok () (w.setCells b o (iV (zeros 28))) :=
  run_storeAt_mid w b o 39 (iA (zeros 28)) (by rw [iA_size, zeros_length]; exact h) (by rw [iA_size, zeros_length]; exact Try.infoCells) (all_oneCell_toArray (iV_one _))
attribute [local go_sem ↓] storeRow28_fold
attribute [local go_sem] storeRow28_zero

set_option maxRecDepth 100000 in
set_option maxHeartbeats 4000000 in
theorem tame_any (zs : List Int) (w : World) (hl : zs.length = 174) :
    Calls Try.prog 16 #[.agg (iA zs)] w fun e w' => ∃ ys, e = .returned (.agg (iA ys)) ∧ TS ys 4 5 ∧ Below w.heap.size w w' := by
  have HL := hide hl
  have hi174 := Try.infoRow
  have hb1 : IBlk ((w.alloc (.cells (iA zs) 42)).alloc (.cells (iA (zeros 174)) 42)) w.heap.size 42 zs := (IBlk.new _ _ _).alloc _
  have hb2 : IBlk ((w.alloc (.cells (iA zs) 42)).alloc (.cells (iA (zeros 174)) 42)) (w.heap.size + 1) 42 (zeros 174) := by
    have := IBlk.new (w.alloc (.cells (iA zs) 42)) 42 (zeros 174)
    simpa using this
  have hB0 : Below w.heap.size w ((w.alloc (.cells (iA zs) 42)).alloc (.cells (iA (zeros 174)) 42)) := ((Below.refl _ _).alloc (Nat.le_refl _) _).alloc (by simp) _
  have c0 := hb1.cellAt 0 (zs.getD 0 0) (by rw [List.getElem?_eq_getElem (by omega)]; simp [List.getD, show 0 < zs.length by omega])
  have z0 := hb1.frozen 0
  have a0 := and50 (zs.getD 0 0)
  have hx : 0 ≤ zs.getD 0 0 % 1125899906842624 ∧ zs.getD 0 0 % 1125899906842624 < 1125899906842624 := ⟨Int.emod_nonneg _ (by omega), Int.emod_lt_of_pos _ (by omega)⟩
  have hT := TS.start hl hx
  generalize zs.getD 0 0 % 1125899906842624 = x at a0 hT
  obtain ⟨ys, hys⟩ : ∃ ys, ys = zs.set 0 x := ⟨_, rfl⟩
  have hia : (iA zs).setIfInBounds 0 (.int .i64 x) = iA ys := by rw [hys]; simp [iA, iV, List.map_set]
  have HIA := hide hia
  rw [← hys] at hT
  have hb3 : IBlk ((w.alloc (.cells ((iA zs).setIfInBounds 0 (.int .i64 x)) 42)).alloc (.cells (iA (zeros 174)) 42)) w.heap.size 42 ys := by rw [hia]; exact (IBlk.new _ _ _).alloc _
  have hb4 : IBlk ((w.alloc (.cells ((iA zs).setIfInBounds 0 (.int .i64 x)) 42)).alloc (.cells (iA (zeros 174)) 42)) (w.heap.size + 1) 42 (zeros 174) := by
    have := IBlk.new (w.alloc (.cells ((iA zs).setIfInBounds 0 (.int .i64 x)) 42)) 42 (zeros 174)
    simpa using this
  have hB3 : Below w.heap.size w ((w.alloc (.cells ((iA zs).setIfInBounds 0 (.int .i64 x)) 42)).alloc (.cells (iA (zeros 174)) 42)) := ((Below.refl _ _).alloc (Nat.le_refl _) _).alloc (by simp) _
  generalize zs.getD 0 0 = y at c0 a0
  clear hl hb1 hx hb2 hB0 hys hia
  go_enter Try.func16, Try.ntmps16
  go_wp2_with (refine wpList_alloc_i rfl 42 rfl (iA (zeros 174)) Try.allocRow ?_)
  generalize (w.alloc (.cells ((iA zs).setIfInBounds 0 (.int .i64 x)) 42)).alloc (.cells (iA (zeros 174)) 42) = w3 at hb3 hb4 hB3
  clear c0 z0 a0
  go_loopw [11] (fun i wr => ∃ (k : Nat) (zs : List Int), k ≤ 4 ∧ i = .int .i64 k ∧ TS zs k 0 ∧ IBlk wr w.heap.size 42 zs ∧ IBlk wr (w.heap.size + 1) 42 (zeros 174) ∧ Below w.heap.size w wr) (fun i _ => 4 - (intOf i).toNat)
  case atStart => exact ⟨0, ys, by omega, rfl, hT, hb3, hb4, hB3⟩
  case round =>
    clear hb3 hb4 hB3 hT
    obtain ⟨k, zs, hk, rfl, hT, hI, hJ, hB⟩ := hrel
    by_cases hlt : k < 4
    · have hzl := hT.1
      have hT2 := hT.cell hlt
      have h1 := tame1_any w.heap.size (1 + k * 7) 42 zs wr hI (by omega)
      have HT := hide hT2
      clear hT hT2 hzl
      go_wp2_with fail
      (with_reducible refine h1.mono ?_)
      rintro e w5 ⟨rfl, hI5, hO5⟩
      go_wp2_with fail
      go_roundw
      case rel =>
        rw [Nat.mul_comm k 7] at hI5
        exact ⟨k + 1, _, by omega, by go_num, HT.out, hI5, hJ.only hO5 (by show ¬ w.heap.size + 1 = w.heap.size; omega), below_only hB hO5 (fun i (e : i = w.heap.size) => by omega) hB.size⟩
      case measure => simp [intOf]; omega
    · have hk4 : k = 4 := by omega
      have hT4 : TS zs 4 0 := by rw [← hk4]; exact hT
      have HT4 := hide hT4
      clear hT hk4 hT4
      go_wp2_with fail
      go_loopw [20] (fun i wr => ∃ (k : Nat) (zs : List Int), k ≤ 5 ∧ i = .int .i64 k ∧ TS zs 4 k ∧ IBlk wr w.heap.size 42 zs ∧ IBlk wr (w.heap.size + 1) 42 (zeros 174) ∧ Below w.heap.size w wr) (fun i _ => 5 - (intOf i).toNat)
      case atStart => exact ⟨0, zs, by omega, rfl, ⟨HT4.out.1, HT4.out.2.1, HT4.out.2.2.1, fun j hj => by omega⟩, hI, hJ, hB⟩
      case round =>
        clear HT4 hI hJ hB hk hlt
        obtain ⟨k, zs, hk, rfl, hT, hI, hJ, hB⟩ := hrel
        have hzl := hT.1
        by_cases hlt5 : k < 5
        · have d5 : decide ((k : Int) < 5) = true := by simp; omega
          have c1 := hI.cellAt (29 + k) (zs.getD (29 + k) 0) (by rw [List.getElem?_eq_getElem (by omega)]; simp [List.getD, show 29 + k < zs.length by omega])
          have z1 := hI.frozen (29 + k)
          have a1 := and30 (zs.getD (29 + k) 0)
          have hx : 0 ≤ zs.getD (29 + k) 0 % 1073741824 ∧ zs.getD (29 + k) 0 % 1073741824 < 1073741824 := ⟨Int.emod_nonneg _ (by omega), Int.emod_lt_of_pos _ (by omega)⟩
          have hT2 := hT.heir hlt5 hx
          have hI2 := hI.set (29 + k) (zs.getD (29 + k) 0 % 1073741824)
          have hO2 := only_cell wr w.heap.size (29 + k) (.int .i64 (zs.getD (29 + k) 0 % 1073741824))
          generalize zs.getD (29 + k) 0 % 1073741824 = h at a1 hT2 hI2 hO2 hx
          generalize zs.getD (29 + k) 0 = y1 at c1 a1
          have hc2 := hI2.cellAt (29 + k) h (by rw [List.getElem?_set_self (by omega)])
          have hJ2 := hJ.only hO2 (by show ¬ w.heap.size + 1 = w.heap.size; omega)
          have hB2 := below_only hB hO2 (fun i (e : i = w.heap.size) => by omega) hB.size
          have hgh : (zs.set (29 + k) h).getD (29 + k) 0 = h := by rw [getD_set (by omega), if_pos rfl]
          generalize zs.set (29 + k) h = zs2 at hT2 hI2 hc2 hgh
          have hz2 := hT2.1.1
          by_cases h0 : h = 0
          · have hq : (h == 0) = true := by simp [h0]
            have hT3 := hT2.1.none_ hlt5 (by rw [hgh, h0])
            have hn3 : 34 + k * 28 + (zeros 28).length ≤ zs2.length := by rw [zeros_length]; omega
            have hI3 := hI2.setN hn3
            have hrm : Room (wr.setCell ⟨w.heap.size, 29 + k, none⟩ (.int .i64 h)) w.heap.size (34 + k * 28) 28 := hI2.there (by omega)
            have hO3 := only_cells (wr.setCell ⟨w.heap.size, 29 + k, none⟩ (.int .i64 h)) w.heap.size (34 + k * 28) (iV (zeros 28))
            have hJ3 := hJ2.only hO3 (by show ¬ w.heap.size + 1 = w.heap.size; omega)
            have hB3 := below_only hB2 hO3 (fun i (e : i = w.heap.size) => by omega) hB2.size
            rw [zeros_length, Nat.mul_comm k 28] at hI3
            have HT3 := hide hT3
            have HZ2 := hide hz2
            have HALL := hide (And.intro hI3 (And.intro hJ3 hB3))
            clear hT hT2 hT3 hI hgh hzl hx hz2 h0 hI3 hJ3 hB3 hO3 hn3
            go_wp2_with fail
            obtain ⟨hI3, hJ3, hB3⟩ := HALL.out
            rw [Nat.mul_comm k 28]
            rw [Nat.mul_comm k 28] at hJ3 hB3
            go_loopw [39] (fun j wr => ∃ (c : Nat) (zs : List Int), c ≤ 4 ∧ j = .int .i64 c ∧ TS zs 4 k ∧ Heir zs k c ∧ IBlk wr w.heap.size 42 zs ∧ IBlk wr (w.heap.size + 1) 42 (zeros 174) ∧ Below w.heap.size w wr) (fun j _ => 4 - (intOf j).toNat)
            case atStart => exact ⟨0, _, by omega, rfl, HT3.out.1, HT3.out.2, hI3, hJ3, hB3⟩
            case round =>
              clear hI3 hJ3 hB3 hI2 hJ2 hB2 hJ hB hc2 c1 z1 a1 hO2 hrm HALL
              obtain ⟨c, zs, hc, rfl, hT, hH, hI, hJ, hB⟩ := hrel
              by_cases hlt2 : c < 4
              · have hzl := hT.1
                have h3 := hT.left hlt5 hlt2 hH
                have h1 := tame1_any w.heap.size (34 + k * 28 + c * 7) 42 zs wr hI (by omega)
                have HT := hide h3
                clear hT hH h3 hzl
                go_wp2_with fail
                (with_reducible refine h1.mono ?_)
                rintro e w5 ⟨rfl, hI5, hO5⟩
                go_wp2_with fail
                go_roundw
                case rel =>
                  rw [Nat.mul_comm k 28, Nat.mul_comm c 7] at hI5
                  exact ⟨c + 1, _, by omega, by go_num, HT.out.1, HT.out.2, hI5, hJ.only hO5 (by show ¬ w.heap.size + 1 = w.heap.size; omega), below_only hB hO5 (fun i (e : i = w.heap.size) => by omega) hB.size⟩
                case measure => simp [intOf]; omega
              · obtain rfl : c = 4 := by omega
                clear hlt2
                have HT := hide (hT.next hH)
                clear hT hH
                go_wp2_with fail
                go_roundw
                case rel => exact ⟨k + 1, zs, by omega, by go_num, HT.out, hI, hJ, hB⟩
                case measure => simp [intOf]; omega
          · have h1 := hT2.2 h0
            have HT3 := hide hT2.1
            have HH := hide h1
            have hq : (h == 0) = false := by simpa using h0
            clear hT hT2 hI hgh hzl hz2 h1
            go_wp2_with fail
            go_loopw [39] (fun j wr => ∃ (c : Nat) (zs : List Int), c ≤ 4 ∧ j = .int .i64 c ∧ TS zs 4 k ∧ Heir zs k c ∧ IBlk wr w.heap.size 42 zs ∧ IBlk wr (w.heap.size + 1) 42 (zeros 174) ∧ Below w.heap.size w wr) (fun j _ => 4 - (intOf j).toNat)
            case atStart => exact ⟨0, _, by omega, rfl, HT3.out, HH.out, hI2, hJ2, hB2⟩
            case round =>
              clear hI2 hJ2 hB2 hJ hB hc2 c1 z1 a1 hO2
              obtain ⟨c, zs, hc, rfl, hT, hH, hI, hJ, hB⟩ := hrel
              by_cases hlt2 : c < 4
              · have hzl := hT.1
                have h3 := hT.left hlt5 hlt2 hH
                have h1 := tame1_any w.heap.size (34 + k * 28 + c * 7) 42 zs wr hI (by omega)
                have HT := hide h3
                clear hT hH h3 hzl
                go_wp2_with fail
                (with_reducible refine h1.mono ?_)
                rintro e w5 ⟨rfl, hI5, hO5⟩
                go_wp2_with fail
                go_roundw
                case rel =>
                  rw [Nat.mul_comm k 28, Nat.mul_comm c 7] at hI5
                  exact ⟨c + 1, _, by omega, by go_num, HT.out.1, HT.out.2, hI5, hJ.only hO5 (by show ¬ w.heap.size + 1 = w.heap.size; omega), below_only hB hO5 (fun i (e : i = w.heap.size) => by omega) hB.size⟩
                case measure => simp [intOf]; omega
              · obtain rfl : c = 4 := by omega
                clear hlt2
                have HT := hide (hT.next hH)
                clear hT hH
                go_wp2_with fail
                go_roundw
                case rel => exact ⟨k + 1, zs, by omega, by go_num, HT.out, hI, hJ, hB⟩
                case measure => simp [intOf]; omega
        · obtain rfl : k = 5 := by omega
          have HT := hide hT
          have HZ := hide hzl
          have hn7 : 0 + zs.length ≤ (zeros 174).length := by rw [hzl]; decide
          have hJ2 := hJ.setN hn7
          rw [show (zeros 174).take 0 ++ zs ++ (zeros 174).drop (0 + zs.length) = zs by rw [hzl]; simp [zeros]] at hJ2
          clear hT hzl hlt5
          go_wp2_with (first
            | (refine wpList_load_i rfl 42 (.tmp 1) rfl hI 0 174 rfl (by have := HZ.out; omega) Try.underlying42 rfl hi174 ?_; rw [List.drop_zero, List.take_of_length_le (Nat.le_of_eq HZ.out)])
            | refine wpList_store_i rfl 42 (.tmp 2) (.tmp 51) rfl hJ 0 zs rfl rfl hn7 (by rw [HZ.out]; exact hi174) ?_)
          have hO7 := only_cells wr (w.heap.size + 1) 0 (iV zs)
          exact bodyPost_ret (results_i rfl rfl hJ2 Try.underlying42 rfl (by rw [HZ.out]; exact hi174)) rfl ⟨zs, rfl, HT.out, below_only hB hO7 (fun i (e : i = w.heap.size + 1) => by omega) hB.size⟩
end Go.Proofs.Ytfhepoihhigcaaa
