/- The contracts of book's cells, Value, rights, Rights. -/
import Derived.Test.YtlegcjniakocoaaBookC
namespace Go.Proofs.Ytlegcjniakocoaa
open Go.RowKit

/-! ### plain -/
def Num (x : Int) : Prop := 0 ≤ x ∧ x ≤ 1099511627776
theorem num_zeros (n : Nat) (j : Nat) : Num ((zeros n).getD j 0) := by
  have : (zeros n).getD j 0 = 0 := by
    unfold zeros
    rw [List.getD, List.getElem?_replicate]
    split <;> rfl
  rw [this]; unfold Num; omega
theorem okRow_left {zs : List Int} (h : okRow zs = true) {i k : Nat} (hi : i < 5) (hk : k < 4) : okC ((zs.drop (34 + i * 28 + k * 7)).take 7) = true := by
  simp only [okRow, Bool.and_eq_true] at h
  have := okH_iff.1 h.2 i hi
  have := okN_at this.2.1 hk
  rw [chunk, chunk_chunk _ _ _ _ _ (by omega)] at this
  rwa [show 34 + i * 28 + (0 + 7 * k) = 34 + i * 28 + k * 7 by omega] at this
theorem cellV_num {xs : List Int} (hl : xs.length = 174) (h : okRow xs = true) {q o k : Nat} (ho : o < 5) (hk : k < 4) (j : Nat) (hj : j < 7) : Num ((cellV xs q o k).1.getD j 0) := by
  unfold cellV
  split
  · exact okC_bd (by rw [List.length_take, List.length_drop]; omega) (okRow_c h hk) j hj
  · split
    · exact okC_bd (by rw [List.length_take, List.length_drop]; omega) (okRow_left h ho hk) j hj
    · exact num_zeros 7 j
theorem cellI_num {xs : List Int} (hl : xs.length = 174) (h : okRow xs = true) (q : Nat) (o k : Int) (j : Nat) (hj : j < 7) : Num ((cellI xs q o k).1.getD j 0) := by
  unfold cellI
  split
  · rename_i h'
    have h1 := inK_true.1 h'.1
    have h2 := inK_true.1 h'.2
    exact cellV_num hl h (by omega) (by omega) j hj
  · exact num_zeros 7 j
theorem bestC_num {bs : List Int} (h : BookOk bs) (o k : Int) (i : Nat) (hi : i < 7) : ∀ {j : Nat}, j ≤ 5 → Num ((bestC bs o k j).1.getD i 0)
  | 0, _ => num_zeros 7 i
  | j + 1, hj => by
    rw [bestC]
    split
    · exact cellI_num (rowB_length h.len (by omega)) (h.ok j (by omega)) _ _ _ i hi
    · exact bestC_num h o k i hi (by omega)
theorem cellB_length {bs : List Int} (hl : bs.length = 870) (o k : Int) : (cellB bs o k).length = 7 := bestC_length hl o k (Nat.le_refl 5)
/-- The first so many cells, one behind the other. -/
def cellsU (bs : List Int) (k : Int) : Nat → List Int
  | 0 => []
  | j + 1 => cellsU bs k j ++ cellB bs (j : Int) k
def cellsB (bs : List Int) (k : Int) : List Int := cellsU bs k 5
theorem cellsU_length {bs : List Int} (hl : bs.length = 870) (k : Int) : ∀ j, (cellsU bs k j).length = j * 7
  | 0 => rfl
  | j + 1 => by rw [cellsU, List.length_append, cellsU_length hl k j, cellB_length hl]; omega
theorem cellsU_at {bs : List Int} (hl : bs.length = 870) (k : Int) {i : Nat} : ∀ {j : Nat}, i < j → ((cellsU bs k j).drop (i * 7)).take 7 = cellB bs (i : Int) k
  | 0, h => by omega
  | j + 1, h => by
    rw [cellsU]
    by_cases e : i = j
    · subst e
      rw [List.drop_append, List.drop_of_length_le (by rw [cellsU_length hl]; omega), List.nil_append, cellsU_length hl, Nat.sub_self, List.drop_zero, List.take_of_length_le (by rw [cellB_length hl]; omega)]
    · rw [List.drop_append_of_le_length (by rw [cellsU_length hl]; omega), List.take_append_of_le_length (by rw [List.length_drop, cellsU_length hl]; omega), cellsU_at hl k (by omega)]
/-- Five cells of numbers. -/
structure Cells5 (cs : List Int) : Prop where
  len : cs.length = 35
  num : ∀ i j, i < 5 → j < 7 → Num (cs.getD (i * 7 + j) 0)
theorem cellsB_ok {bs : List Int} (h : BookOk bs) (k : Int) : Cells5 (cellsB bs k) := by
  refine ⟨by rw [cellsB, cellsU_length h.len], fun i j hi hj => ?_⟩
  have := getD_part (cellsB bs k) (i * 7) 7 j hj
  rw [← this, cellsB, cellsU_at h.len k hi]
  exact bestC_num h _ _ j hj (Nat.le_refl 5)
theorem fill_next {U c : List Int} {n m : Nat} (hU : U.length = n) (hc : c.length = 7) : (U ++ zeros (7 + m)).take n ++ c ++ (U ++ zeros (7 + m)).drop (n + c.length) = U ++ c ++ zeros m := by
  subst hU
  rw [List.take_left, hc, ← List.drop_drop, List.drop_left]
  congr 1
  simp [zeros]

/-! ### cells -/
attribute [local go_sem ↓] storeCellF_fold allocC5F_fold loadC5F_fold storeC5F_fold
attribute [local go_sem] storeCellF_has allocC5F_run loadC5F_has storeC5F_has
set_option maxRecDepth 100000 in
set_option maxHeartbeats 3200000 in
theorem cells_any {w : World} {b : Nat} {t : TypeId} {bs : List Int} (hl : bs.length = 870) (hw : wf64 bs) (hb : IBlk w b t bs) (k : Int) :
    Calls Try.prog 22 #[.pointer (some ⟨b, 0, none⟩), .int .i64 k] w fun e w' => e = .returned (.agg (iA (cellsB bs k))) ∧ Below w.heap.size w w' := by
  have hbl := hb.lt
  have hb2 : IBlk ((w.alloc (.cells (iA (zeros 35)) 58)).alloc (.cells (iA (zeros 35)) 58)) b t bs := (hb.alloc _).alloc _
  have hJ2 : IBlk ((w.alloc (.cells (iA (zeros 35)) 58)).alloc (.cells (iA (zeros 35)) 58)) w.heap.size 58 (zeros 35) := (IBlk.new _ _ _).alloc _
  have hL2 : IBlk ((w.alloc (.cells (iA (zeros 35)) 58)).alloc (.cells (iA (zeros 35)) 58)) (w.heap.size + 1) 58 (zeros 35) := by
    have := IBlk.new (w.alloc (.cells (iA (zeros 35)) 58)) 58 (zeros 35)
    simpa using this
  have hB2 : Below w.heap.size w ((w.alloc (.cells (iA (zeros 35)) 58)).alloc (.cells (iA (zeros 35)) 58)) := ((Below.refl _ _).alloc (Nat.le_refl _) _).alloc (by simp) _
  have hi35 := Try.infoC5
  have HL := hide hl
  have HC := hide (fun (j : Nat) {w : World} (h : IBlk w b t bs) => cellB_any hl hw h (j : Int) k)
  have HCL := hide (fun (j : Nat) => cellB_length hl (j : Int) k)
  have HUL := hide (fun (j : Nat) => cellsU_length hl k j)
  clear hl hw hb
  go_enter Try.func22, Try.ntmps22
  go_upto_region 2 with fail
  generalize (w.alloc (.cells (iA (zeros 35)) 58)).alloc (.cells (iA (zeros 35)) 58) = w2 at hb2 hJ2 hL2 hB2
  go_wp2_with fail
  go_loopw [7] (fun s7 wr => ∃ j : Nat, j ≤ 5 ∧ s7 = .int .i64 j ∧ IBlk wr b t bs ∧ IBlk wr w.heap.size 58 (zeros 35) ∧ IBlk wr (w.heap.size + 1) 58 (cellsU bs k j ++ zeros (35 - j * 7)) ∧ Below w.heap.size w wr) (fun s7 _ => 5 - (intOf s7).toNat)
  case atStart => exact ⟨0, by omega, rfl, hb2, hJ2, hL2, hB2⟩
  case round =>
    clear hb2 hJ2 hL2 hB2
    obtain ⟨j, hj, rfl, hb4, hJ4, hL4, hB4⟩ := hrel
    by_cases hlt : j < 5
    · have HCj := HC.out j hb4
      have hcl := HCL.out j
      have HT : Hid (cellsU bs k (j + 1) = cellsU bs k j ++ cellB bs (j : Int) k) := hide rfl
      have hul := HUL.out j
      generalize cellB bs (j : Int) k = c at HCj hcl HT
      generalize cellsU bs k j = U at hL4 HT hul
      have hci : Is 7 c := hcl
      have hj5 : (j : Int) < 5 := by go_light; omega
      go_wp2_with fail
      (with_reducible refine HCj.mono ?_)
      rintro e w5 ⟨rfl, hx⟩
      have hb5 := hb4.below hx hb4.lt
      have hJ5 := hJ4.below hx hJ4.lt
      have hL5 := hL4.below hx hL4.lt
      have hB5 := hB4.trans (hx.mono hB4.size)
      have hll : (U ++ zeros (35 - j * 7)).length = 35 := by go_light; rw [List.length_append, zeros_length, hul]; omega
      have hrm := hL5.room (j * 7) 7 (by go_light; omega)
      have hO6 := only_cells w5 (w.heap.size + 1) (j * 7) (iV c)
      have hL6 := hL5.setN (o := j * 7) (xs := c) (by go_light; omega)
      rw [show 35 - j * 7 = 7 + (35 - (j + 1) * 7) by go_light; omega, fill_next hul hcl] at hL6
      have hJ6 := hJ5.only hO6 (by go_light; omega)
      have hb6 := hb5.only hO6 (by go_light; omega)
      have hB6 := below_only hB5 hO6 (fun i (e : i = w.heap.size + 1) => by go_light; omega) hB5.size
      clear hll
      go_wp2_with fail
      go_roundw
      case rel => go_light; exact ⟨j + 1, by omega, by go_num, hb6, hJ6, by rw [HT.out]; exact hL6, hB6⟩
      case measure => go_light; simp [intOf]; omega
    · obtain rfl : j = 5 := by omega
      have hV : Hid (cellsU bs k 5 ++ zeros (35 - 5 * 7) = cellsB bs k) := hide (by rw [cellsB]; exact List.append_nil _)
      have hfl : (cellsB bs k).length = 35 := HUL.out 5
      rw [hV.out] at hL4
      generalize hfe : cellsB bs k = fin at *
      have HFE := hide hfe
      clear hfe hV
      obtain ⟨r1, h1⟩ := hL4.whole hfl
      have hbi : Is 35 fin := hfl
      have hrm := hJ4.room 0 35 (by rw [zeros_length]; decide)
      have f1 := hJ4.fill (ys := fin) (by rw [hfl, zeros_length])
      have f2 := below_only hB4 (only_cells wr w.heap.size 0 (iV fin)) (fun i (e : i = w.heap.size) => by omega) hB4.size
      go_wp2_with fail
      refine bodyPost_ret (results_i rfl rfl f1 Try.underlying58 rfl (by rw [hfl]; exact hi35)) rfl ⟨by rw [HFE.out], f2⟩
end Go.Proofs.Ytlegcjniakocoaa
