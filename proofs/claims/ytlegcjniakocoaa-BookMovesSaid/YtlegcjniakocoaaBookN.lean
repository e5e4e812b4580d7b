/- Plain facts of books: keys and machines that are none; rights as a sum over machines. -/
import Derived.Test.YtlegcjniakocoaaBookK
namespace Go.Proofs.Ytlegcjniakocoaa
open Go.RowKit

/-! ### none -/
theorem bestC_out {bs : List Int} {o k : Int} (h : inK o 5 = false ∨ inK k 4 = false) : ∀ j, bestC bs o k j = (zeros 7, -1)
  | 0 => rfl
  | j + 1 => by
    have e : cellI (rowB bs j) j o k = (zeros 7, -1) := by
      rw [cellI, if_neg]
      rintro ⟨h1, h2⟩
      rcases h with h | h
      · rw [h] at h1; cases h1
      · rw [h] at h2; cases h2
    rw [bestC, bestC_out h j, e]
    rfl
theorem cellB_out {bs : List Int} {o k : Int} (h : inK o 5 = false ∨ inK k 4 = false) : cellB bs o k = zeros 7 := by rw [cellB, bestC_out h]
theorem zeros_add (a b : Nat) : zeros a ++ zeros b = zeros (a + b) := by simp [zeros]
theorem cellsU_out {bs : List Int} {k : Int} (h : inK k 4 = false) : ∀ j, cellsU bs k j = zeros (j * 7)
  | 0 => rfl
  | j + 1 => by rw [cellsU, cellsU_out h j, cellB_out (.inr h), zeros_add]; congr 1; omega
theorem cellsB_out {bs : List Int} {k : Int} (h : inK k 4 = false) : cellsB bs k = zeros 35 := by rw [cellsB, cellsU_out h]
theorem getD_zeros (n j : Nat) : (zeros n).getD j 0 = 0 := by
  unfold zeros
  rw [List.getD, List.getElem?_replicate]
  split <;> rfl
theorem valU_zeros (n : Nat) : ∀ j, valU (zeros n) j = 0
  | 0 => rfl
  | j + 1 => by rw [valU, valU_zeros n j, getD_zeros, getD_zeros]; rfl
theorem rgtU_zeros (n i : Nat) : ∀ j, rgtU (zeros n) i j = 0
  | 0 => by rw [rgtU, getD_zeros, getD_zeros]; rfl
  | j + 1 => by rw [rgtU, rgtU_zeros n i j, getD_zeros, getD_zeros]; rfl
theorem rgtsL_zeros (n : Nat) : ∀ l : List Int, rgtsL (zeros n) l = 0
  | [] => rfl
  | z :: l => by
    have := rgtsL_zeros n l
    rw [rgtsL] at this ⊢
    rw [List.map_cons, List.sum_cons, this, rgtU_zeros]; rfl
theorem valueV_out {bs : List Int} {k : Int} (h : inK k 4 = false) : valueV bs k = 0 := by rw [valueV, cellsB_out h, valU_zeros]
theorem rightsV_out {bs : List Int} {who k : Int} (h : inK who 5 = false ∨ inK k 4 = false) : rightsV bs who k = 0 := by
  unfold rightsV
  split
  · rename_i h1
    rcases h with h | h
    · rw [h] at h1; cases h1
    · rw [cellsB_out h, rgtsL_zeros]
  · rfl

/-! ### rights, machine by machine -/
def ownSum (cs : List Int) (b : Nat → Bool) (q : Nat) : Nat → Int
  | 0 => 0
  | i + 1 => ownSum cs b q i + (if (i == q || b i) = true then rgtU cs i 5 else 0)
theorem rgtsL_filter (cs : List Int) (b : Nat → Bool) (q : Nat) : ∀ n, rgtsL cs (((List.range n).filter fun i => i == q || b i).map fun i : Nat => (i : Int)) = ownSum cs b q n
  | 0 => rfl
  | n + 1 => by
    rw [List.range_succ, List.filter_append, List.map_append, rgtsL, List.map_append, List.sum_append, ownSum, ← rgtsL_filter cs b q n, rgtsL]
    congr 1
    by_cases h : (n == q || b n) = true
    · rw [if_pos h]; simp [h]
    · rw [if_neg h]; simp [h]
theorem rgtsL_own (cs : List Int) (b : Nat → Bool) (q : Nat) : rgtsL cs (sortedL b q) = ownSum cs b q 5 := rgtsL_filter cs b q 5
theorem ownSum_bd {cs : List Int} (h : Cells5 cs) (b : Nat → Bool) (q : Nat) : ∀ {i : Nat}, i ≤ 5 → -(6597069766656 * i) ≤ ownSum cs b q i ∧ ownSum cs b q i ≤ 6597069766656 * i
  | 0, _ => by simp [ownSum]
  | i + 1, hi => by
    have h1 := ownSum_bd h b q (i := i) (by omega)
    have h2 := rgtU_bd h (i := i) (by omega) (Nat.le_refl 5)
    rw [ownSum]
    split <;> push_cast at h2 ⊢ <;> omega
theorem rightsV_in (bs : List Int) {q : Nat} (hq : q < 5) (k : Int) : rightsV bs (q : Int) k = ownSum (cellsB bs k) (heirB (rowB bs q)) q 5 := by
  rw [rightsV, if_pos (inK_true.2 ⟨by omega, by omega⟩)]
  exact rgtsL_own _ _ _
/-- A cell of a book, by its place in the five. -/
theorem cellB_at {bs : List Int} (hl : bs.length = 870) (k : Int) {i : Nat} (hi : i < 5) : ((cellsB bs k).drop (i * 7)).take 7 = cellB bs (i : Int) k := cellsU_at hl k hi
theorem cellB_getD {bs : List Int} (hl : bs.length = 870) (k : Int) {i j : Nat} (hi : i < 5) (hj : j < 7) : (cellB bs (i : Int) k).getD j 0 = (cellsB bs k).getD (i * 7 + j) 0 := by
  rw [← cellB_at hl k hi, getD_part _ _ _ _ hj]
theorem run_field_agg {P : Program} {t : TypeId} {fs : Array Field} {f : Field} {j s : Nat} {d : TypeDesc} (ht : P.underlying t = some (.struct fs)) (hf : fs[j]? = some f) (hu : P.underlying f.type = some d) (hd : d.isRow = true) (hi : (P.info? f.type).map (·.size) = some s) (zs : List Int) (w : World) :
    (Instr.field t (.agg (iA zs)) j).run P w = .ok (.agg (iA ((zs.drop f.offset).take s))) w := by
  cases hq : P.info? f.type with
  | none => simp [hq] at hi
  | some i =>
    have hs : i.size = s := by simpa [hq] using hi
    have hp := run_part_agg (w := w) hu hd hq (iA zs) f.offset
    rw [hs] at hp
    have he : (iA zs).extract f.offset (f.offset + s) = iA ((zs.drop f.offset).take s) := by
      apply Array.ext'
      rw [Array.toList_extract, iA_toList, iA_toList, ← iV_chunk]
      simp [List.extract]
    simp [Instr.field, run_underlying ht, hf, asAgg, hp, he]
def fieldCellF (x : Value) (i : Nat) : Sem Value := Instr.field 27 x i
theorem fieldCellF_fold (x : Value) (i : Nat) : Instr.field 27 x i = fieldCellF x i := rfl
theorem fieldCellF_given (c : List Int) (w : World) : (fieldCellF (.agg (iA c)) 2).run Try.prog w = .ok (.agg (iA ((c.drop 2).take 5))) w :=
  run_field_agg (j := 2) Try.underlying27 rfl Try.underlying25 rfl Try.infoInts c w
end Go.Proofs.Ytlegcjniakocoaa
