/- An argument that is an array of integers: opened to its integers. -/
import Derived.Test.YtoknodkgmeinmaaOpens
namespace Go.Proofs.Ytoknodkgmeinmaa
open Go.ChangeShapes Go.WideShapes Go.ChangeAt Go.RowKit

section
variable {H : Type} {enc : TypeId × Value → H} {P : Program} {w : World} {base : Nat} {spare : Nat → Bool} {held : Bool}
theorem open_arr {r : Reach} {b0 : Nat} {t e : TypeId} {m : Nat} {v : Value} {d : DataW H} {p : List MemPlace} {n : Nat} (hs : P.underlying t = some (.array m e)) (ho : Opens enc P w base spare held t) (hn : P.cellsOf t = n) (hv : Value.okWide P w r b0 t v) (h : DataW.Trod enc P w base spare held t v d p) :
    ∃ zs, v = .agg (iA zs) ∧ zs.length = n ∧ wf64 zs := by
  simp only [Value.okWide, hs] at hv
  obtain ⟨cs, rfl, hsz, _⟩ := hv
  obtain ⟨fuel, hf⟩ := h
  have := ho fuel _ _ hf
  obtain ⟨zs, e, hw⟩ := allInts_list this
  refine ⟨zs, ?_, ?_, hw⟩
  · congr 1
    apply Array.ext'
    rw [iA_toList]; simpa [Value.cells] using e
  · have h1 := congrArg List.length e
    rw [iV_length] at h1
    rw [← h1, ← hn, ← hsz]
    simp [Value.cells]
end
end Go.Proofs.Ytoknodkgmeinmaa
