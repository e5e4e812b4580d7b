/- Plain facts for BookSums: rows that came into none; rights together are the value. Slices of rows that are made. -/
import Derived.Test.YtlegcjniakocoaaBookN
namespace Go.Proofs.Ytlegcjniakocoaa
open Go.RowKit

/-- A row as if it came into none. -/
def sR (xs : List Int) : List Int := xs.take 29 ++ zeros 145
theorem sR_length {xs : List Int} (hl : xs.length = 174) : (sR xs).length = 174 := by rw [sR, List.length_append, List.length_take, zeros_length]; omega
theorem sR_wf {xs : List Int} (hw : wf64 xs) : wf64 (sR xs) := fun z hz => by
  rcases List.mem_append.1 hz with h | h
  · exact hw z (List.mem_of_mem_take h)
  · exact wf_zeros 145 z h
theorem sR_heir {xs : List Int} (hl : xs.length = 174) {i : Nat} (hi : i < 5) : (sR xs).getD (29 + i) 0 = 0 := by
  have : (xs.take 29).length = 29 := by rw [List.length_take]; omega
  rw [sR, List.getD, List.getElem?_append_right (by omega)]
  exact getD_zeros 145 _
theorem sR_put {xs : List Int} (hl : xs.length = 174) :
    (xs.take 29 ++ zeros 5 ++ xs.drop (29 + (zeros 5).length)).take 34 ++ zeros 140 ++ (xs.take 29 ++ zeros 5 ++ xs.drop (29 + (zeros 5).length)).drop (34 + (zeros 140).length) = sR xs := by
  have h29 : (xs.take 29).length = 29 := by rw [List.length_take]; omega
  have e1 : (xs.take 29 ++ zeros 5).length = 34 := by rw [List.length_append, h29, zeros_length]
  rw [zeros_length, zeros_length, List.take_append_of_le_length (by omega), List.take_of_length_le (by omega), List.drop_of_length_le (by rw [List.length_append, List.length_append, h29, zeros_length, List.length_drop]; omega), List.append_nil, List.append_assoc, zeros_add]
  rfl
theorem fill_nextN {U c : List Int} {n s m : Nat} (hU : U.length = n) (hc : c.length = s) : (U ++ zeros (s + m)).take n ++ c ++ (U ++ zeros (s + m)).drop (n + c.length) = U ++ c ++ zeros m := by
  subst hU
  rw [List.take_left, hc, ← List.drop_drop, List.drop_left]
  congr 1
  simp [zeros]
/-- The first so many rows, each as if it came into none. -/
def strU (zs : List Int) : Nat → List Int
  | 0 => []
  | j + 1 => strU zs j ++ sR (rowB zs j)
theorem strU_length {zs : List Int} {n : Nat} (hl : zs.length = n * 174) : ∀ {j : Nat}, j ≤ n → (strU zs j).length = j * 174
  | 0, _ => by simp [strU]
  | j + 1, h => by rw [strU, List.length_append, strU_length hl (by omega), sR_length (rowB_len hl (by omega))]; omega
theorem strU_wf {zs : List Int} (hw : wf64 zs) : ∀ j, wf64 (strU zs j)
  | 0 => by simp [strU, wf64]
  | j + 1 => fun z hz => by
    rcases List.mem_append.1 hz with h | h
    · exact strU_wf hw j z h
    · exact sR_wf (wf64_chunk hw _ _) z h
theorem strU_at {zs : List Int} {n : Nat} (hl : zs.length = n * 174) {i : Nat} : ∀ {j : Nat}, i < j → j ≤ n → rowB (strU zs j) i = sR (rowB zs i)
  | 0, h, _ => by omega
  | j + 1, h, hj => by
    have hL := strU_length hl (j := j) (by omega)
    rw [strU, rowB]
    by_cases e : i = j
    · subst e
      rw [List.drop_append, List.drop_of_length_le (by omega), List.nil_append, hL, Nat.sub_self, List.drop_zero, List.take_of_length_le (by rw [sR_length (rowB_len hl (by omega))]; omega)]
    · have : (i + 1) * 174 ≤ j * 174 := Nat.mul_le_mul_right _ (by omega)
      rw [List.drop_append_of_le_length (by omega), List.take_append_of_le_length (by rw [List.length_drop]; omega)]
      exact strU_at hl (by omega) (by omega)
/-- No row of a book came into others. -/
def NoHeir (bs : List Int) : Prop := ∀ q, q < 5 → ∀ i, i < 5 → (rowB bs q).getD (29 + i) 0 = 0
theorem noHeir_zeros : NoHeir (zeros 870) := fun q hq i hi => by
  rw [rowB_zeros ⟨q, hq⟩]; exact getD_zeros 174 _
theorem noHeir_fill {zs : List Int} {n : Nat} (hl : zs.length = n * 174) (hw : wf64 zs) : ∀ {j : Nat}, j ≤ n → NoHeir (fillM (strU zs n) j)
  | 0, _ => noHeir_zeros
  | j + 1, hj => by
    have ih := noHeir_fill hl hw (j := j) (by omega)
    have hsl := strU_length hl (Nat.le_refl n)
    have hok := fillM_ok hsl (strU_wf hw n) (i := j) (by omega)
    intro q hq i hi
    rw [fillM, mergeB]
    split
    · rename_i hn
      have hrl : (rowB (strU zs n) j).length = 174 := rowB_len hsl (by omega)
      rw [show (((j % 5 : Nat) : Int)).toNat = j % 5 from rfl, rowB_put hok.len hrl (Nat.mod_lt _ (by omega)) hq]
      split
      · rw [strU_at hl (by omega) (Nat.le_refl n)]
        exact sR_heir (rowB_len hl (by omega)) hi
      · exact ih q hq i hi
    · exact ih q hq i hi
theorem ownSum_self (cs : List Int) {b : Nat → Bool} (hb : ∀ i, i < 5 → b i = false) {q : Nat} : ∀ {j : Nat}, j ≤ 5 → ownSum cs b q j = if q < j then rgtU cs q 5 else 0
  | 0, _ => by rw [ownSum, if_neg (by omega)]
  | j + 1, hj => by
    rw [ownSum, ownSum_self cs hb (by omega), hb j (by omega)]
    by_cases e : j = q
    · subst e
      rw [if_neg (by omega), if_pos (by simp), if_pos (by omega)]; omega
    · rw [if_neg (show ¬ ((j == q || false) = true) by simpa using e)]
      by_cases h : q < j
      · rw [if_pos h, if_pos (by omega)]; omega
      · rw [if_neg h, if_neg (by omega)]; rfl
theorem rightsV_no {bs : List Int} (h : NoHeir bs) {q : Nat} (hq : q < 5) (k : Int) : rightsV bs (q : Int) k = rgtU (cellsB bs k) q 5 := by
  rw [rightsV_in bs hq, ownSum_self _ (fun i hi => by rw [heirB, h q hq i hi]; rfl) (Nat.le_refl 5), if_pos hq]
def sumR (cs : List Int) : Nat → Int
  | 0 => 0
  | i + 1 => sumR cs i + rgtU cs i 5
theorem sumR_all (cs : List Int) : sumR cs 5 = valU cs 5 := by
  simp only [sumR, rgtU, valU, Nat.zero_mul, Nat.zero_add, Nat.one_mul, Nat.reduceMul, Nat.reduceAdd]
  omega
theorem sumR_bd {cs : List Int} (h : Cells5 cs) : ∀ {i : Nat}, i ≤ 5 → -(6597069766656 * i) ≤ sumR cs i ∧ sumR cs i ≤ 6597069766656 * i
  | 0, _ => by simp [sumR]
  | i + 1, hi => by
    have h1 := sumR_bd h (i := i) (by omega)
    have h2 := rgtU_bd h (i := i) (by omega) (Nat.le_refl 5)
    rw [sumR]
    push_cast at h2 ⊢
    omega

/-! ### A slice of rows that is made -/
theorem Try.infoRow3 : (Try.prog.info? 31).map (fun i => (i.zero, i.size, i.bytes)) = some (some (.agg (iA (zeros 174))), 174, 1392) := by kernel_rfl
theorem made_zeros (s m : Nat) (hs : 0 < s) : madeCells (iA (zeros s)) m = iA (zeros m) := by
  have hz : ∀ i, i < s → (iA (zeros s))[i]! = .int .i64 0 := fun i hi => by
    simp [iA, iV, zeros, hi]
  have hsz : (iA (zeros s)).size = s := by rw [iA_size, zeros_length]
  unfold madeCells
  apply Array.ext
  · simp [iA_size, zeros_length]
  · intro i h1 h2
    rw [Array.getElem_map, Array.getElem_range, hsz, hz _ (Nat.mod_lt _ hs)]
    simp [iA, iV, zeros]
def makeRowsF (x y : Value) : Sem Value := Instr.makeSlice 22 x y
theorem makeRowsF_fold (x y : Value) : Instr.makeSlice 22 x y = makeRowsF x y := rfl
def buildInts5F (x : Array (Nat × Value)) : Sem Value := Instr.build 25 x
theorem buildInts5F_fold (x : Array (Nat × Value)) : Instr.build 25 x = buildInts5F x := rfl
theorem buildInts5F_none (w : World) : (buildInts5F #[]).run Try.prog w = .ok (.agg (iA (zeros 5))) w := run_build w _ _ _ (by kernel_rfl)
def buildLeftsF (x : Array (Nat × Value)) : Sem Value := Instr.build 29 x
theorem buildLeftsF_fold (x : Array (Nat × Value)) : Instr.build 29 x = buildLeftsF x := rfl
theorem buildLeftsF_none (w : World) : (buildLeftsF #[]).run Try.prog w = .ok (.agg (iA (zeros 140))) w := run_build w _ _ _ (by kernel_rfl)
def Few (n : Nat) : Prop := n ≤ 1000
theorem makeRowsF_run {n : Nat} (hn : Few n) (w : World) : (makeRowsF (.int .i64 (n : Int)) (.int .i64 (n : Int))).run Try.prog w = .ok (.slice (some ⟨w.heap.size, 0, none⟩) n n) (w.alloc (.cells (iA (zeros (n * 174))) 31)) := by
  obtain ⟨i, hi, hz, hs, hb⟩ := info_parts Try.infoRow3
  have hn' : n ≤ 1000 := hn
  have := run_makeSlice (P := Try.prog) (w := w) 22 31 i _ Try.underlying22 hi hz .i64 .i64 n n (by omega) (by omega) (by rw [hs]; omega) (by rw [hb]; omega) (by omega)
  unfold makeRowsF
  rw [this]
  congr 1
  rw [show (Value.agg (iA (zeros 174))).cells = iA (zeros 174) from rfl, hs, Int.toNat_natCast, made_zeros _ _ (by omega)]
theorem rowsIn_blk {w : World} {g n : Nat} {t : TypeId} {zs : List Int} (h : IBlk w g t zs) (hl : zs.length = n * 174) (hw : wf64 zs) : RowsIn w w.heap.size (some ⟨g, 0, none⟩) n zs :=
  ⟨hl, hw, fun _ => ⟨g, 0, rfl, h.lt, fun j hj => by rw [Nat.zero_add]; exact h.cell (by omega)⟩⟩
end Go.Proofs.Ytlegcjniakocoaa
