/- The contracts of row's within, rightCell, rightCells, Right, each for all arguments. -/
import Derived.Test.YtmcanjijpdgfeaaNumA
import Derived.Test.YtmcanjijpdgfeaaAgg
import Derived.Test.YtmcanjijpdgfeaaOpenR
import Derived.RegionTactic
import Derived.Deep.Draws
import Derived.Deep.RegionWith
import Derived.Deep.DeepCutAuto
namespace Go.Proofs.Ytmcanjijpdgfeaa
open Go.RowKit

/-! ### plain -/
def okC (c : List Int) : Bool := ((addF 0 ((c.drop 2).take 5)).2 == 0) && inN (c.getD 0 0) && inN (c.getD 1 0)
/-- The first k cells from o on may be. -/
def okN (zs : List Int) (o : Nat) : Nat → Bool
  | 0 => true
  | k + 1 => okN zs o k && okC ((zs.drop (o + 7 * k)).take 7)
/-- The first k machines' Heir and Left may be. -/
def okH (zs : List Int) : Nat → Bool
  | 0 => true
  | k + 1 => okH zs k && (decide (0 ≤ zs.getD (29 + k) 0) && okN zs (34 + 28 * k) 4 && (decide (zs.getD (29 + k) 0 ≠ 0) || decide ((zs.drop (34 + 28 * k)).take 28 = zeros 28)))
def okRow (zs : List Int) : Bool := decide (0 ≤ zs.getD 0 0) && okN zs 1 4 && okH zs 5
theorem okN_mono {zs : List Int} {o k : Nat} : ∀ {j : Nat}, okN zs o (k + j) = true → okN zs o k = true
  | 0, h => h
  | j + 1, h => by
    rw [show k + (j + 1) = (k + j) + 1 by omega, okN] at h
    simp only [Bool.and_eq_true] at h
    exact okN_mono h.1
theorem okN_false {zs : List Int} {o k n : Nat} (hk : k ≤ n) (h : okN zs o k = false) : okN zs o n = false := by
  rw [← Bool.not_eq_true] at h ⊢
  intro h2
  obtain ⟨j, rfl⟩ : ∃ j, n = k + j := ⟨n - k, by omega⟩
  exact h (okN_mono h2)
theorem okH_mono {zs : List Int} {k : Nat} : ∀ {j : Nat}, okH zs (k + j) = true → okH zs k = true
  | 0, h => h
  | j + 1, h => by
    rw [show k + (j + 1) = (k + j) + 1 by omega, okH, Bool.and_eq_true] at h
    exact okH_mono h.1
theorem okH_false {zs : List Int} {k n : Nat} (hk : k ≤ n) (h : okH zs k = false) : okH zs n = false := by
  rw [← Bool.not_eq_true] at h ⊢
  intro h2
  obtain ⟨j, rfl⟩ : ∃ j, n = k + j := ⟨n - k, by omega⟩
  exact h (okH_mono h2)
theorem okN_drop (zs : List Int) (o n : Nat) (h : ∀ k, k < n → (((zs.drop o).take 28).drop (0 + 7 * k)).take 7 = (zs.drop (o + 7 * k)).take 7) : ∀ k, k ≤ n → okN ((zs.drop o).take 28) 0 k = okN zs o k
  | 0, _ => rfl
  | k + 1, hk => by rw [okN, okN, okN_drop zs o n h k (by omega), h k (by omega)]
theorem chunk_chunk (zs : List Int) (o n i m : Nat) (h : i + m ≤ n) : (((zs.drop o).take n).drop i).take m = (zs.drop (o + i)).take m := by
  rw [List.drop_take, List.take_take, List.drop_drop, Nat.min_eq_left (by omega)]
theorem okN_part (zs : List Int) (o : Nat) : okN ((zs.drop o).take 28) 0 4 = okN zs o 4 :=
  okN_drop zs o 4 (fun k hk => by rw [chunk_chunk _ _ _ _ _ (by omega)]; simp) 4 (Nat.le_refl _)

/-! ### within -/
def inK (n many : Int) : Bool := decide (0 ≤ n) && decide (n < many)
theorem inK_true {n m : Int} : inK n m = true ↔ 0 ≤ n ∧ n < m := by simp [inK]
theorem within_any (n m : Int) (w : World) :
    Calls Try.prog 15 #[.int .i64 n, .int .i64 m] w fun e w' => e = .returned (.bool (inK n m)) ∧ w = w' := by
  by_cases h0 : 0 ≤ n
  · by_cases h1 : n < m
    · have d0 : decide (0 ≤ n) = true := by simpa using h0
      have d1 : decide (n < m) = true := by simpa using h1
      rw [inK, d0, d1]
      go_enter Try.func15, Try.ntmps15
      go_wp2
      go_ret
      exact ⟨rfl, rfl⟩
    · have d0 : decide (0 ≤ n) = true := by simpa using h0
      have d1 : decide (n < m) = false := by simpa using h1
      rw [inK, d0, d1]
      go_enter Try.func15, Try.ntmps15
      go_wp2
      go_ret
      exact ⟨rfl, rfl⟩
  · have d0 : decide (0 ≤ n) = false := by simpa using h0
    rw [inK, d0]
    go_enter Try.func15, Try.ntmps15
    go_wp2
    go_ret
    exact ⟨rfl, rfl⟩

/-! ### rightCell -/
set_option maxRecDepth 100000 in
set_option maxHeartbeats 800000 in
theorem rightCell_any (c : List Int) (hl : c.length = 7) (w : World) :
    Calls Try.prog 18 #[.agg (iA c)] w fun e w' => e = .returned (.bool (okC c)) ∧ Below w.heap.size w w' := by
  have hI : IBlk (w.alloc (.cells (iA c) 24)) w.heap.size 24 c := IBlk.new _ _ _
  have hB : Below w.heap.size w (w.alloc (.cells (iA c) 24)) := (Below.refl _ _).alloc (Nat.le_refl _) _
  have hO : Hid (okC c = (((addF 0 ((c.drop 2).take 5)).2 == 0) && inN (c.getD 0 0) && inN (c.getD 1 0))) := hide rfl
  generalize okC c = ok at hO
  go_enter Try.func18, Try.ntmps18
  go_upto_region 1 with fail
  generalize w.alloc (.cells (iA c) 24) = w1 at hI hB
  generalize hbe : w.heap.size = b at hI
  have hr := hI.reads 2 5 (by omega)
  have c0 : w1.cell? ⟨b, 0, none⟩ = some (.int .i64 (c.getD 0 0)) := hI.cell (by omega)
  have c1 : w1.cell? ⟨b, 1, none⟩ = some (.int .i64 (c.getD 1 0)) := hI.cell (by omega)
  have HA := add_any (some ⟨b, 2, none⟩) 5 5 _ w1 hr (by omega)
  generalize addF 0 ((c.drop 2).take 5) = r at HA hO
  obtain ⟨s, er⟩ := r
  generalize c.getD 0 0 = x0 at c0 hO
  generalize c.getD 1 0 = x1 at c1 hO
  clear hI hr hl
  go_wp2_with fail
  (with_reducible refine HA.mono ?_)
  rintro e w' ⟨rfl, rfl⟩
  have HO : Hid (ok = ((er == 0) && inN x0 && inN x1)) := hO
  clear hO HA
  by_cases he : er = 0
  · subst he
    by_cases h0 : inN x0 = true
    · go_wp2_with fail
      (with_reducible refine (right_any x0 w1).mono ?_)
      rintro e w' ⟨rfl, rfl⟩
      rw [h0]
      go_wp2_with fail
      (with_reducible refine (right_any x1 w1).mono ?_)
      rintro e w' ⟨rfl, rfl⟩
      go_wp2_with fail
      go_ret
      rw [HO.out, h0]
      exact ⟨by simp, hB⟩
    · rw [Bool.not_eq_true] at h0
      go_wp2_with fail
      (with_reducible refine (right_any x0 w1).mono ?_)
      rintro e w' ⟨rfl, rfl⟩
      rw [h0]
      go_wp2_with fail
      go_ret
      rw [HO.out, h0]
      exact ⟨by simp, hB⟩
  · have hq : (er == 0) = false := by simpa using he
    go_wp2_with fail
    go_ret
    rw [HO.out, hq]
    exact ⟨by simp, hB⟩

/-! ### rightCells -/
attribute [local go_sem ↓] loadCellsF_fold loadCellF_fold storeCellF_fold allocCellF_fold indexCellsF_fold
attribute [local go_sem] loadCellsF_has loadCellF_has storeCellF_has allocCellF_run indexCellsF_at
set_option maxRecDepth 100000 in
set_option maxHeartbeats 1600000 in
theorem rightCells_any (zs : List Int) (hl : zs.length = 28) (w : World) :
    Calls Try.prog 17 #[.agg (iA zs)] w fun e w' => e = .returned (.bool (okN zs 0 4)) ∧ Below w.heap.size w w' := by
  have HL := hide hl
  have hI0 : IBlk (w.alloc (.cells (iA zs) 25)) w.heap.size 25 zs := IBlk.new _ _ _
  have hB0 : Below w.heap.size w (w.alloc (.cells (iA zs) 25)) := (Below.refl _ _).alloc (Nat.le_refl _) _
  obtain ⟨r0, h0⟩ := hI0.whole hl
  clear hl
  go_enter Try.func17, Try.ntmps17
  go_wp2_with fail
  clear r0 h0 hI0
  go_loopw [6] (fun i wr => ∃ k : Nat, k ≤ 4 ∧ i = .int .i64 k ∧ Hid (okN zs 0 k = true) ∧ Below w.heap.size w wr) (fun i _ => 4 - (intOf i).toNat)
  case atStart => exact ⟨0, by omega, rfl, hide rfl, hB0⟩
  case round =>
    clear hB0
    obtain ⟨k, hk, rfl, HK, hB⟩ := hrel
    by_cases hlt : k < 4
    · have hch : ((zs.drop (k * 7)).take 7).length = 7 := by rw [List.length_take, List.length_drop, HL.out]; omega
      have HS : Hid (okN zs 0 (k + 1) = okC ((zs.drop (k * 7)).take 7)) := hide (by rw [okN, HK.out, Nat.mul_comm k 7]; simp)
      have hix := indexCellsF_at (zs := zs) hlt
      generalize (zs.drop (k * 7)).take 7 = ch at hch HS hix
      have his : Is 7 ch := hch
      have hnew : IBlk (wr.alloc (.cells (iA (zeros 7)) 24)) wr.heap.size 24 (zeros 7) := IBlk.new _ _ _
      have hrm := hnew.room 0 7 (by decide)
      have hf := hnew.fill (ys := ch) hch
      have hBn : Below w.heap.size w ((wr.alloc (.cells (iA (zeros 7)) 24)).setCells wr.heap.size 0 (iV ch)) := below_only (hB.alloc hB.size _) (only_cells _ _ _ _) (fun i (e : i = wr.heap.size) => by have := hB.size; omega) (by have := hB.size; simp; omega)
      go_upto_region 4 with fail
      clear hrm hnew hix
      generalize (wr.alloc (.cells (iA (zeros 7)) 24)).setCells wr.heap.size 0 (iV ch) = w2 at hf hBn
      obtain ⟨r1, h1⟩ := hf.whole hch
      have HC := rightCell_any ch hch w2
      go_wp2_with fail
      (with_reducible refine HC.mono ?_)
      rintro e w3 ⟨rfl, hb3⟩
      have hB3 := hBn.trans (hb3.mono hBn.size)
      by_cases hok : okC ch = true
      · rw [hok]
        have HS2 := hide (HS.out.trans hok)
        go_wp2_with fail
        go_roundw
        case rel => exact ⟨k + 1, by omega, by go_num, HS2, hB3⟩
        case measure => simp [intOf]; omega
      · rw [Bool.not_eq_true] at hok
        rw [hok]
        have HS2 := hide (HS.out.trans hok)
        go_wp2_with fail
        go_ret
        rw [okN_false (by omega) HS2.out]
        exact ⟨rfl, hB3⟩
    · obtain rfl : k = 4 := by omega
      go_wp2_with fail
      go_ret
      rw [HK.out]
      exact ⟨rfl, hB⟩

/-! ### Right -/
theorem wf_zeros (n : Nat) : wf64 (zeros n) := fun z hz => by
  have : z = 0 := List.eq_of_mem_replicate hz
  subst this; decide
theorem getD_part (zs : List Int) (o n k : Nat) (hk : k < n) : ((zs.drop o).take n).getD k 0 = zs.getD (o + k) 0 := by
  simp only [List.getD, List.getElem?_take, List.getElem?_drop, if_pos hk]
attribute [local go_sem ↓] loadInts5F_fold indexInts5F_fold buildCellsF_fold
attribute [local go_sem] loadInts5F_has indexInts5F_at buildCellsF_none
set_option maxRecDepth 100000 in
set_option maxHeartbeats 3200000 in
theorem rowRight_any (zs : List Int) (hl : zs.length = 174) (hw : wf64 zs) (w : World) :
    Calls Try.prog 9 #[.agg (iA zs)] w fun e w' => e = .returned (.bool (okRow zs)) ∧ Below w.heap.size w w' := by
  have HL := hide hl
  have HW := hide hw
  have hI0 : IBlk (w.alloc (.cells (iA zs) 28)) w.heap.size 28 zs := IBlk.new _ _ _
  have hB0 : Below w.heap.size w (w.alloc (.cells (iA zs) 28)) := (Below.refl _ _).alloc (Nat.le_refl _) _
  have HR : Hid (okRow zs = (decide (0 ≤ zs.getD 0 0) && okN zs 1 4 && okH zs 5)) := hide rfl
  generalize okRow zs = ok at HR
  clear hl hw
  go_enter Try.func9, Try.ntmps9
  go_upto_region 1 with fail
  generalize w.alloc (.cells (iA zs) 28) = w1 at hI0 hB0
  generalize hbe : w.heap.size = b at hI0
  have c0 : w1.cell? ⟨b, 0, none⟩ = some (.int .i64 (zs.getD 0 0)) := hI0.cell (by rw [HL.out]; decide)
  by_cases hneg : zs.getD 0 0 < 0
  · have HR2 : Hid (ok = false) := hide (by rw [HR.out, show decide (0 ≤ zs.getD 0 0) = false by simpa using hneg]; rfl)
    generalize zs.getD 0 0 = x0 at c0 hneg
    go_wp2_with fail
    go_ret
    rw [HR2.out]
    exact ⟨rfl, hB0⟩
  · have HR1 : Hid (ok = (okN zs 1 4 && okH zs 5)) := hide (by rw [HR.out, show decide (0 ≤ zs.getD 0 0) = true by simpa using hneg]; rfl)
    generalize zs.getD 0 0 = x0 at c0 hneg
    obtain ⟨r1, h1⟩ := hI0.got 1 28 (by rw [HL.out]; decide)
    have hcl : ((zs.drop 1).take 28).length = 28 := by rw [List.length_take, List.length_drop, HL.out]; omega
    have HC := rightCells_any _ hcl w1
    rw [okN_part] at HC
    generalize (zs.drop 1).take 28 = cs at r1 HC
    clear HR hcl
    go_wp2_with fail
    (with_reducible refine HC.mono ?_)
    rintro e w2 ⟨rfl, hb2⟩
    clear HC
    have hB2 := hB0.trans (hb2.mono hB0.size)
    have hI2 := hI0.below hb2 hI0.lt
    clear hI0 hB0 hb2 c0 r1 h1
    by_cases hcs : okN zs 1 4 = true
    · rw [hcs]
      have HR2 : Hid (ok = okH zs 5) := hide (by rw [HR1.out, hcs]; rfl)
      clear HR1 hcs
      obtain ⟨r5, h5⟩ := hI2.got 29 5 (by rw [HL.out]; decide)
      have hg5 : ∀ k, k < 5 → ((zs.drop 29).take 5).getD k 0 = zs.getD (29 + k) 0 := fun k hk => getD_part zs 29 5 k hk
      have hl5 : Is 5 ((zs.drop 29).take 5) := by show _ = _; rw [List.length_take, List.length_drop, HL.out]; rfl
      have HG5 := hide hg5
      clear hg5
      generalize (zs.drop 29).take 5 = hs at r5 HG5 hl5
      go_wp2_with fail
      clear r5 h5
      go_loopw [16] (fun i wr => ∃ k : Nat, k ≤ 5 ∧ i = .int .i64 k ∧ Hid (okH zs k = true) ∧ IBlk wr b 28 zs ∧ Below w.heap.size w wr) (fun i _ => 5 - (intOf i).toNat)
      case atStart => exact ⟨0, by omega, rfl, hide rfl, hI2, hB2⟩
      case round =>
        clear hI2 hB2
        obtain ⟨k, hk, rfl, HK, hI, hB⟩ := hrel
        by_cases hlt : k < 5
        · have HS : Hid (okH zs (k + 1) = (decide (0 ≤ zs.getD (29 + k) 0) && okN zs (34 + 28 * k) 4 && (decide (zs.getD (29 + k) 0 ≠ 0) || decide ((zs.drop (34 + 28 * k)).take 28 = zeros 28)))) := hide (by rw [okH, HK.out]; rfl)
          have hix := indexInts5F_at (l := hs) hlt hl5
          rw [HG5.out k hlt] at hix
          obtain ⟨r1, h1⟩ := hI.got (34 + k * 28) 28 (by rw [HL.out]; omega)
          have hcl : ((zs.drop (34 + k * 28)).take 28).length = 28 := by rw [List.length_take, List.length_drop, HL.out]; omega
          have HC := rightCells_any _ hcl wr
          rw [okN_part] at HC
          have hq : ∀ w, (Op.equalIn 10000 25 (.agg (iA ((zs.drop (34 + k * 28)).take 28))) (.agg (iA (zeros 28)))).run Try.prog w = .ok (decide ((zs.drop (34 + k * 28)).take 28 = zeros 28)) w := fun w => Try.eqCells hcl (zeros_length 28) (wf64_chunk HW.out _ _) (wf_zeros _) w
          rw [Nat.mul_comm 28 k] at HS
          generalize okN zs (34 + k * 28) 4 = ok4 at HS HC
          generalize (zs.drop (34 + k * 28)).take 28 = ch at HS HC r1 hq
          generalize zs.getD (29 + k) 0 = h at HS hix
          clear hcl
          by_cases hn : h < 0
          · have HS2 : Hid (okH zs (k + 1) = false) := hide (by rw [HS.out, show decide (0 ≤ h) = false by simpa using hn]; rfl)
            go_wp2_with fail
            go_ret
            rw [HR2.out, okH_false (by omega) HS2.out]
            exact ⟨rfl, hB⟩
          · have HS2 : Hid (okH zs (k + 1) = (ok4 && (decide (h ≠ 0) || decide (ch = zeros 28)))) := hide (by rw [HS.out, show decide (0 ≤ h) = true by simpa using hn]; rfl)
            clear HS
            go_wp2_with fail
            (with_reducible refine HC.mono ?_)
            rintro e w2 ⟨rfl, hb2⟩
            clear HC
            have hB2 := hB.trans (hb2.mono hB.size)
            have hI2 := hI.below hb2 hI.lt
            have r2 : rowAt w2 b (34 + k * 28) 28 = iA ch := by rw [← r1]; unfold rowAt; congr 1; apply List.map_congr_left; intro j _; rw [World.cell?_of_block (hb2.block b hI.lt)]
            have h2 : HasRow w2 b (34 + k * 28) 28 := fun j hj => by rw [World.cell?_of_block (hb2.block b hI.lt)]; exact h1 j hj
            clear r1 h1
            cases ok4 with
            | false =>
              go_wp2_with fail
              go_ret
              rw [HR2.out, okH_false (k := k + 1) (by omega) HS2.out]
              exact ⟨rfl, hB2⟩
            | true =>
              by_cases h0 : h = 0
              · subst h0
                cases hd : decide (ch = zeros 28) with
                | true =>
                  rw [hd] at hq
                  have HS3 : Hid (okH zs (k + 1) = true) := hide (by rw [HS2.out, hd]; rfl)
                  clear hd
                  go_wp2_with fail
                  go_roundw
                  case rel => exact ⟨k + 1, by omega, by go_num, HS3, hI2, hB2⟩
                  case measure => simp [intOf]; omega
                | false =>
                  rw [hd] at hq
                  have HS3 : Hid (okH zs (k + 1) = false) := hide (by rw [HS2.out, hd]; rfl)
                  clear hd
                  go_wp2_with fail
                  go_ret
                  rw [HR2.out, okH_false (k := k + 1) (by omega) HS3.out]
                  exact ⟨rfl, hB2⟩
              · have HS3 : Hid (okH zs (k + 1) = true) := hide (by rw [HS2.out]; simp [h0])
                have hh : (h == 0) = false := by simpa using h0
                go_wp2_with fail
                go_roundw
                case rel => exact ⟨k + 1, by omega, by go_num, HS3, hI2, hB2⟩
                case measure => simp [intOf]; omega
        · obtain rfl : k = 5 := by omega
          go_wp2_with fail
          go_ret
          rw [HR2.out, HK.out]
          exact ⟨rfl, hB⟩
    · rw [Bool.not_eq_true] at hcs
      rw [hcs]
      have HR2 : Hid (ok = false) := hide (by rw [HR1.out, hcs]; rfl)
      go_wp2_with fail
      go_ret
      rw [HR2.out]
      exact ⟨rfl, hB2⟩
end Go.Proofs.Ytmcanjijpdgfeaa
