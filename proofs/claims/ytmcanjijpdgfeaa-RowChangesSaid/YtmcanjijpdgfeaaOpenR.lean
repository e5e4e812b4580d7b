/- An argument that is made of integers alone, whatever its shape: opened to its integers. -/
import Derived.Test.YtmcanjijpdgfeaaFlat
import Derived.ChangeArms
namespace Go.Proofs.Ytmcanjijpdgfeaa
open Go.ChangeShapes Go.WideShapes Go.ChangeAt Go.RowKit

section
variable {H : Type} {enc : TypeId × Value → H} {P : Program} {w : World} {base : Nat} {spare : Nat → Bool} {held : Bool}
def AllInts (cs : List Value) : Prop := ∀ v ∈ cs, ∃ z, v = .int .i64 z ∧ (Lit.int .i64 z).wf = true
theorem allInts_list : ∀ {cs : List Value}, AllInts cs → ∃ zs, cs = iV zs ∧ wf64 zs
  | [], _ => ⟨[], rfl, by simp [wf64]⟩
  | v :: cs, h => by
    obtain ⟨z, rfl, hz⟩ := h v (by simp)
    obtain ⟨zs, rfl, hw⟩ := allInts_list (cs := cs) fun u hu => h u (by simp [hu])
    refine ⟨z :: zs, rfl, fun y hy => ?_⟩
    rcases List.mem_cons.1 hy with rfl | hy
    · exact hz
    · exact hw y hy
/-- Whatever is read as such a type is integers. -/
def Opens (enc : TypeId × Value → H) (P : Program) (w : World) (base : Nat) (spare : Nat → Bool) (held : Bool) (t : TypeId) : Prop :=
  ∀ (fuel : Nat) (cs : List Value) (x : DataW H × List MemPlace), DataW.trod enc P w base spare held fuel t cs = some x → AllInts cs
theorem opens_int {t : TypeId} (h : P.underlying t = some (.int .i64)) : Opens enc P w base spare held t := by
  intro fuel cs x hx
  obtain ⟨n, rfl, _, hw⟩ := DataW.trod_int h hx
  intro v hv
  simp at hv
  exact ⟨n, hv, hw⟩
theorem opens_array {t e : TypeId} {n : Nat} (h : P.underlying t = some (.array n e)) (hc : P.cellsOf t = n * P.cellsOf e) (he : Opens enc P w base spare held e) : Opens enc P w base spare held t := by
  intro fuel cs x hx
  obtain ⟨xs, m, _, _, hl, hxl, hi⟩ := DataW.trod_array h hx
  intro v hv
  obtain ⟨i, hil, rfl⟩ := List.mem_iff_getElem.1 hv
  have hpos : 0 < P.cellsOf e := by
    rcases Nat.eq_zero_or_pos (P.cellsOf e) with h0 | h0
    · rw [hl, hc, h0] at hil; omega
    · exact h0
  have hq : i / P.cellsOf e < n := by rw [Nat.div_lt_iff_lt_mul hpos, ← hc, ← hl]; exact hil
  have h1 := hi _ hq
  rw [List.getElem?_eq_getElem (by omega)] at h1
  refine he _ _ _ h1 _ ?_
  have hdm := Nat.div_add_mod i (P.cellsOf e)
  have hmod := Nat.mod_lt i hpos
  rw [List.mem_iff_getElem?]
  refine ⟨i % P.cellsOf e, ?_⟩
  rw [List.getElem?_take, if_pos hmod, List.getElem?_drop, Nat.mul_comm, hdm, List.getElem?_eq_getElem hil]
theorem contig_at {fs : List Field} : ∀ {o n i : Nat}, contig P o fs = some n → o ≤ i → i < n → ∃ (j : Nat) (f : Field), fs[j]? = some f ∧ f.offset ≤ i ∧ i < f.offset + P.cellsOf f.type := by
  induction fs with
  | nil => intro o n i h h1 h2; simp [contig] at h; omega
  | cons f fs ih =>
    intro o n i h h1 h2
    rw [contig] at h
    split at h
    · rename_i ho
      by_cases hi : i < o + P.cellsOf f.type
      · exact ⟨0, f, rfl, by omega, by omega⟩
      · obtain ⟨j, g, hj, h3, h4⟩ := ih h (by omega) h2
        exact ⟨j + 1, g, by simpa using hj, h3, h4⟩
    · cases h
theorem opens_struct {t : TypeId} {fs : Array Field} (h : P.underlying t = some (.struct fs)) (hc : contig P 0 fs.toList = some (P.cellsOf t)) (he : ∀ f ∈ fs.toList, Opens enc P w base spare held f.type) : Opens enc P w base spare held t := by
  intro fuel cs x hx
  obtain ⟨xs, m, _, _, hl, hxl, hi⟩ := DataW.trod_struct h hx
  intro v hv
  obtain ⟨i, hil, rfl⟩ := List.mem_iff_getElem.1 hv
  obtain ⟨j, f, hj, h3, h4⟩ := contig_at hc (Nat.zero_le i) (by omega)
  have hf : fs[j]? = some f := by simpa using hj
  have h1 := hi j f hf
  have hjl : j < fs.size := (Array.getElem?_eq_some_iff.1 hf).1
  rw [List.getElem?_eq_getElem (by omega)] at h1
  refine he f (List.mem_of_getElem? hj) _ _ _ h1 _ ?_
  rw [List.mem_iff_getElem?]
  refine ⟨i - f.offset, ?_⟩
  rw [List.getElem?_take, if_pos (by omega), List.getElem?_drop, show f.offset + (i - f.offset) = i by omega, List.getElem?_eq_getElem hil]
/-- An argument of such a type. -/
theorem open_flat {r : Reach} {b0 : Nat} {t : TypeId} {fs : Array Field} {v : Value} {d : DataW H} {p : List MemPlace} {n : Nat} (hs : P.underlying t = some (.struct fs)) (ho : Opens enc P w base spare held t) (hn : P.cellsOf t = n) (hv : Value.okWide P w r b0 t v) (h : DataW.Trod enc P w base spare held t v d p) :
    ∃ zs, v = .agg (iA zs) ∧ zs.length = n ∧ wf64 zs := by
  obtain ⟨cs, rfl, hsz⟩ := okWide_struct hs hv
  obtain ⟨fuel, hf⟩ := h
  have := ho fuel _ _ hf
  obtain ⟨zs, e, hw⟩ := allInts_list this
  refine ⟨zs, ?_, ?_, hw⟩
  · congr 1
    apply Array.ext'
    rw [iA_toList]; simpa [Value.cells] using e
  · have h1 := congrArg List.length e
    rw [iV_length] at h1
    rw [← h1, ← hn, ← hsz]
    simp [Value.cells]
end

/-! ### The types of the laws -/
section
variable {H : Type} {enc : TypeId × Value → H} {w : World} {base : Nat} {spare : Nat → Bool} {held : Bool}
theorem Try.opensInts : Opens enc Try.prog w base spare held 22 := opens_array Try.underlying22 (by kernel_rfl) (opens_int Try.underlying3)
theorem Try.opensCell : Opens enc Try.prog w base spare held 24 := opens_struct Try.underlying24 (by kernel_rfl) (by intro f hf; simp at hf; rcases hf with rfl | rfl | rfl; exact opens_int Try.underlying3; exact opens_int Try.underlying3; exact Try.opensInts)
theorem Try.opensCells : Opens enc Try.prog w base spare held 25 := opens_array Try.underlying25 (by kernel_rfl) Try.opensCell
theorem Try.opensLefts : Opens enc Try.prog w base spare held 26 := opens_array Try.underlying26 (by kernel_rfl) Try.opensCells
theorem Try.opensRow : Opens enc Try.prog w base spare held 28 := opens_struct Try.underlying28 (by kernel_rfl) (by intro f hf; simp at hf; rcases hf with rfl | rfl | rfl | rfl; exact opens_int Try.underlying3; exact Try.opensCells; exact Try.opensInts; exact Try.opensLefts)
end

/-! ### Held against one another -/
theorem Try.intsInts (d : Nat) : Ints Try.prog (d + 2) 22 := ints_array Try.underlying22 (by kernel_rfl) (ints_int d Try.underlying3 (by kernel_rfl))
theorem Try.intsCell (d : Nat) : Ints Try.prog (d + 3) 24 := ints_struct Try.underlying24 (by kernel_rfl) (by kernel_rfl) (by intro f hf; simp at hf; rcases hf with rfl | rfl | rfl; exact ints_int (d + 1) Try.underlying3 (by kernel_rfl); exact ints_int (d + 1) Try.underlying3 (by kernel_rfl); exact Try.intsInts d)
theorem Try.intsCells (d : Nat) : Ints Try.prog (d + 4) 25 := ints_array Try.underlying25 (by kernel_rfl) (Try.intsCell d)
theorem Try.intsLefts (d : Nat) : Ints Try.prog (d + 5) 26 := ints_array Try.underlying26 (by kernel_rfl) (Try.intsCells d)
theorem Try.intsRow : Ints Try.prog 6 28 := ints_struct Try.underlying28 (by kernel_rfl) (by kernel_rfl) (by intro f hf; simp at hf; rcases hf with rfl | rfl | rfl | rfl; exact ints_int 4 Try.underlying3 (by kernel_rfl); exact Try.intsCells 1; exact Try.intsInts 3; exact Try.intsLefts 0)
set_option maxRecDepth 100000 in
theorem Try.eqRow {xs ys : List Int} (hx : xs.length = 174) (hy : ys.length = 174) (wx : wf64 xs) (wy : wf64 ys) (w : World) : (Op.equalIn 10000 28 (.agg (iA xs)) (.agg (iA ys))).run Try.prog w = .ok (decide (xs = ys)) w :=
  eq_ints (m := 8) (by kernel_rfl) (by omega) Try.intsRow (fun zs hz => by
    have h : Try.prog.cellsOf 28 = 174 := by kernel_rfl
    rw [h] at hz
    simp [Value.formed, Try.underlying28, h, iA_size, hz]) (by rw [hx]; kernel_rfl) (by rw [hy]; kernel_rfl) wx wy w
set_option maxRecDepth 100000 in
theorem Try.eqCells {xs ys : List Int} (hx : xs.length = 28) (hy : ys.length = 28) (wx : wf64 xs) (wy : wf64 ys) (w : World) : (Op.equalIn 10000 25 (.agg (iA xs)) (.agg (iA ys))).run Try.prog w = .ok (decide (xs = ys)) w :=
  eq_ints (m := 8) (by kernel_rfl) (by omega) (Try.intsCells 0) (fun zs hz => by
    have h : Try.prog.cellsOf 25 = 28 := by kernel_rfl
    rw [h] at hz
    simp [Value.formed, Try.underlying25, h, iA_size, hz]) (by rw [hx]; kernel_rfl) (by rw [hy]; kernel_rfl) wx wy w
set_option maxRecDepth 100000 in
theorem Try.eqCell {xs ys : List Int} (hx : xs.length = 7) (hy : ys.length = 7) (wx : wf64 xs) (wy : wf64 ys) (w : World) : (Op.equalIn 10000 24 (.agg (iA xs)) (.agg (iA ys))).run Try.prog w = .ok (decide (xs = ys)) w :=
  eq_ints (m := 8) (by kernel_rfl) (by omega) (Try.intsCell 0) (fun zs hz => by
    have h : Try.prog.cellsOf 24 = 7 := by kernel_rfl
    rw [h] at hz
    simp [Value.formed, Try.underlying24, h, iA_size, hz]) (by rw [hx]; kernel_rfl) (by rw [hy]; kernel_rfl) wx wy w
end Go.Proofs.Ytmcanjijpdgfeaa
