/- A byte's place. -/
import Derived.Test.YteiaiicdemmcoaaDoorBase
import Derived.OpenShut
import Derived.ProofKit
namespace Go.Proofs.YteiaiicdemmcoaaDoor
open Go.RowKit
theorem Tryd.infoByte : (Tryd.prog.info? 5).map (fun i => (i.zero, i.size, i.bytes)) = some (some (.int .u8 0), 1, 1) := by kernel_rfl
theorem own_nil (w : World) (base : Nat) (e : TypeId) (size : Nat) : w.ownsRow base e size (.slice none 0 0) 0 [] := ⟨by simp, .inl ⟨rfl, rfl⟩⟩
theorem bytes_bd {zs : List Int} (h : ∀ z ∈ zs, (Lit.int .u8 z).wf = true) : ∀ z ∈ zs, 0 ≤ z ∧ z < 256 := fun z hz => by
  have := bounds_u8 (h z hz); omega
end Go.Proofs.YteiaiicdemmcoaaDoor
