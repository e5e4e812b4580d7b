/- An argument that is made of integers alone, whatever its shape: opened to its integers. -/
import Derived.Test.YtoknodkgmeinmaaFlat
import Derived.ChangeArms
namespace Go.Proofs.Ytoknodkgmeinmaa
open Go.ChangeShapes Go.WideShapes Go.ChangeAt Go.RowKit

section
variable {H : Type} {enc : TypeId × Value → H} {P : Program} {w : World} {base : Nat} {spare : Nat → Bool} {held : Bool}
def AllInts (cs : List Value) : Prop := ∀ v ∈ cs, ∃ z, v = .int .i64 z ∧ (Lit.int .i64 z).wf = true
theorem allInts_list : ∀ {cs : List Value}, AllInts cs → ∃ zs, cs = iV zs ∧ wf64 zs
  | [], _ => ⟨[], rfl, by simp [wf64]⟩
  | v :: cs, h => by
    obtain ⟨z, rfl, hz⟩ := h v (by simp)
    obtain ⟨zs, rfl, hw⟩ := allInts_list (cs := cs) fun u hu => h u (by simp [hu])
    refine ⟨z :: zs, rfl, fun y hy => ?_⟩
    rcases List.mem_cons.1 hy with rfl | hy
    · exact hz
    · exact hw y hy
/-- Whatever is read as such a type is integers. -/
def Opens (enc : TypeId × Value → H) (P : Program) (w : World) (base : Nat) (spare : Nat → Bool) (held : Bool) (t : TypeId) : Prop :=
  ∀ (fuel : Nat) (cs : List Value) (x : DataW H × List MemPlace), DataW.trod enc P w base spare held fuel t cs = some x → AllInts cs
theorem opens_int {t : TypeId} (h : P.underlying t = some (.int .i64)) : Opens enc P w base spare held t := by
  intro fuel cs x hx
  obtain ⟨n, rfl, _, hw⟩ := DataW.trod_int h hx
  intro v hv
  simp at hv
  exact ⟨n, hv, hw⟩
theorem opens_array {t e : TypeId} {n : Nat} (h : P.underlying t = some (.array n e)) (hc : P.cellsOf t = n * P.cellsOf e) (he : Opens enc P w base spare held e) : Opens enc P w base spare held t := by
  intro fuel cs x hx
  obtain ⟨xs, m, _, _, hl, hxl, hi⟩ := DataW.trod_array h hx
  intro v hv
  obtain ⟨i, hil, rfl⟩ := List.mem_iff_getElem.1 hv
  have hpos : 0 < P.cellsOf e := by
    rcases Nat.eq_zero_or_pos (P.cellsOf e) with h0 | h0
    · rw [hl, hc, h0] at hil; omega
    · exact h0
  have hq : i / P.cellsOf e < n := by rw [Nat.div_lt_iff_lt_mul hpos, ← hc, ← hl]; exact hil
  have h1 := hi _ hq
  rw [List.getElem?_eq_getElem (by omega)] at h1
  refine he _ _ _ h1 _ ?_
  have hdm := Nat.div_add_mod i (P.cellsOf e)
  have hmod := Nat.mod_lt i hpos
  rw [List.mem_iff_getElem?]
  refine ⟨i % P.cellsOf e, ?_⟩
  rw [List.getElem?_take, if_pos hmod, List.getElem?_drop, Nat.mul_comm, hdm, List.getElem?_eq_getElem hil]
theorem contig_at {fs : List Field} : ∀ {o n i : Nat}, contig P o fs = some n → o ≤ i → i < n → ∃ (j : Nat) (f : Field), fs[j]? = some f ∧ f.offset ≤ i ∧ i < f.offset + P.cellsOf f.type := by
  induction fs with
  | nil => intro o n i h h1 h2; simp [contig] at h; omega
  | cons f fs ih =>
    intro o n i h h1 h2
    rw [contig] at h
    split at h
    · rename_i ho
      by_cases hi : i < o + P.cellsOf f.type
      · exact ⟨0, f, rfl, by omega, by omega⟩
      · obtain ⟨j, g, hj, h3, h4⟩ := ih h (by omega) h2
        exact ⟨j + 1, g, by simpa using hj, h3, h4⟩
    · cases h
theorem opens_struct {t : TypeId} {fs : Array Field} (h : P.underlying t = some (.struct fs)) (hc : contig P 0 fs.toList = some (P.cellsOf t)) (he : ∀ f ∈ fs.toList, Opens enc P w base spare held f.type) : Opens enc P w base spare held t := by
  intro fuel cs x hx
  obtain ⟨xs, m, _, _, hl, hxl, hi⟩ := DataW.trod_struct h hx
  intro v hv
  obtain ⟨i, hil, rfl⟩ := List.mem_iff_getElem.1 hv
  obtain ⟨j, f, hj, h3, h4⟩ := contig_at hc (Nat.zero_le i) (by omega)
  have hf : fs[j]? = some f := by simpa using hj
  have h1 := hi j f hf
  have hjl : j < fs.size := (Array.getElem?_eq_some_iff.1 hf).1
  rw [List.getElem?_eq_getElem (by omega)] at h1
  refine he f (List.mem_of_getElem? hj) _ _ _ h1 _ ?_
  rw [List.mem_iff_getElem?]
  refine ⟨i - f.offset, ?_⟩
  rw [List.getElem?_take, if_pos (by omega), List.getElem?_drop, show f.offset + (i - f.offset) = i by omega, List.getElem?_eq_getElem hil]
/-- An argument of such a type. -/
theorem open_flat {r : Reach} {b0 : Nat} {t : TypeId} {fs : Array Field} {v : Value} {d : DataW H} {p : List MemPlace} {n : Nat} (hs : P.underlying t = some (.struct fs)) (ho : Opens enc P w base spare held t) (hn : P.cellsOf t = n) (hv : Value.okWide P w r b0 t v) (h : DataW.Trod enc P w base spare held t v d p) :
    ∃ zs, v = .agg (iA zs) ∧ zs.length = n ∧ wf64 zs := by
  obtain ⟨cs, rfl, hsz⟩ := okWide_struct hs hv
  obtain ⟨fuel, hf⟩ := h
  have := ho fuel _ _ hf
  obtain ⟨zs, e, hw⟩ := allInts_list this
  refine ⟨zs, ?_, ?_, hw⟩
  · congr 1
    apply Array.ext'
    rw [iA_toList]; simpa [Value.cells] using e
  · have h1 := congrArg List.length e
    rw [iV_length] at h1
    rw [← h1, ← hn, ← hsz]
    simp [Value.cells]
end

end Go.Proofs.Ytoknodkgmeinmaa
