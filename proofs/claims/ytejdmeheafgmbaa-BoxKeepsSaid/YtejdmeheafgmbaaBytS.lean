/- A string's bytes in new memory. -/
import Derived.Test.YtejdmeheafgmbaaSlOk
import Derived.Test.YtejdmeheafgmbaaStrB
import Derived.Lib.ConvBytes
namespace Go.Proofs.Ytejdmeheafgmbaa
open Go.RowKit

/-- What converting a string to bytes makes. -/
structure BytesNew (w w' : World) (n c : Nat) (zs : List Int) : Prop where
  sl : SlIn w' w'.heap.size ⟨some ⟨w.heap.size, 0, none⟩, n, c, zs⟩
  size : w'.heap.size = w.heap.size + 1
  below : Below w.heap.size w w'
  free : ∀ j, j < n → w'.frozen? ⟨w.heap.size, j, none⟩ = false
theorem conv_bytes (w : World) (zs : List Int) (hz : ∀ z ∈ zs, (Lit.int .u8 z).wf = true) (hl : zs.length ≤ 100000) :
    ∃ c w', (convert 9 27 (.string (strOfNums zs))).run Try.prog w = .ok (.slice (some ⟨w.heap.size, 0, none⟩) zs.length c) w' ∧ BytesNew w w' zs.length c zs := by
  have hrun := Lib.run_convert_string_bytes (P := Try.prog) w 9 27 5 (strOfNums zs) Try.underlying9 Try.underlying27 Try.underlying5
  rw [strOfNums_size] at hrun
  have hsz := Lib.bytesWorld_size w 5 (strOfNums zs)
  refine ⟨_, _, hrun, ⟨⟨⟨by rw [u8V_length]; simp, fun _ => ⟨_, rfl, by rw [hsz]; exact Nat.lt_succ_self _, fun j u hu => ?_⟩⟩, grownCap_ge _ _ _ _, grownCap_le_maxLen _ _ _ _ (by unfold maxLen; omega), hz⟩, hsz, ?_, fun j hj => ?_⟩⟩
  · rw [Go.WideShapes.add_plain, Nat.zero_add]
    have hj : j < zs.length := by
      have := (List.getElem?_eq_some_iff.1 hu).1
      rwa [u8V_length] at this
    rw [Lib.bytesWorld_cell w _ _ j (by rw [strOfNums_size]; exact hj)]
    rw [strOfNums_data]
    unfold u8V at hu
    simp only [List.getElem?_map, List.getElem?_eq_getElem hj, Option.map_some, Option.some.injEq] at hu
    subst hu
    have hb := bounds_u8 (hz zs[j] (List.getElem_mem _))
    simp only [List.getD_eq_getElem?_getD, List.getElem?_map, List.getElem?_eq_getElem hj, Option.map_some, Option.getD_some, UInt8.toNat_ofNat']
    congr 2
    omega
  · refine ⟨rfl, rfl, rfl, by rw [hsz]; exact Nat.le_succ _, fun k hk => Lib.bytesWorld_at_old w _ _ k hk⟩
  · have hc := Lib.bytesWorld_at_new w 5 (strOfNums zs)
    have hs : j < (Lib.bytesCells w 5 (strOfNums zs)).size := by
      have e : (strOfNums zs).data.size = zs.length := strOfNums_size zs
      simp [Lib.bytesCells, e]
      omega
    simp [World.frozen?, hc]
    omega
end Go.Proofs.Ytejdmeheafgmbaa
