/- A slice of bytes outside of some blocks. -/
import Derived.Test.YtfcoeopemgcjlaaOpenB
namespace Go.Proofs.Ytfcoeopemgcjlaa
open Go.RowKit

abbrev slV (s : Sl) : Value := .slice s.A s.n s.c
theorem slV_one (Fs : List Sl) : ∀ v ∈ Fs.map slV, v.oneCell' = true := by
  intro v hv
  obtain ⟨s, _, rfl⟩ := List.mem_map.1 hv
  rfl
def zsOf (Fs : List Sl) : List (List Int) := Fs.map Sl.zs
theorem zsOf_len (Fs : List Sl) : (zsOf Fs).length = Fs.length := by simp [zsOf]
theorem zsOf_snoc (Fs : List Sl) (s : Sl) : zsOf (Fs ++ [s]) = zsOf Fs ++ [s.zs] := by simp [zsOf]
/-- Such slices are read from here, outside of some blocks. -/
structure SlOk (w : World) (Q : Nat → Prop) (s : Sl) : Prop where
  in_ : SlIn w w.heap.size s
  at_ : 0 < s.n → ∀ ad, s.A = some ad → Q ad.block
theorem SlOk.only {w w' : World} {Q T : Nat → Prop} {s : Sl} (h : SlOk w Q s) (k : Only T w w') (hQ : ∀ b, b < w.heap.size → Q b → ¬ T b) : SlOk w' Q s :=
  ⟨⟨(reads_only h.in_.reads k (Nat.le_refl _) (fun h0 ad ha hb => hQ _ hb (h.at_ h0 ad ha))).more k.size, h.in_.n_le, h.in_.c_le, h.in_.wf⟩, h.at_⟩
theorem SlOk.mono {w : World} {Q Q' : Nat → Prop} {s : Sl} (h : SlOk w Q s) (hQ : ∀ b, b < w.heap.size → Q b → Q' b) : SlOk w Q' s :=
  ⟨h.in_, fun h0 ad ha => by
    obtain ⟨ad', e, hb, _⟩ := h.in_.reads.2 h0
    rw [ha] at e
    injection e with e
    subst e
    exact hQ _ hb (h.at_ h0 ad ha)⟩
/-- A constant's bytes. -/
theorem const_slIn {w : World} (e : TypeId) (fr : Nat × Nat) {zs : List Int} {c : Nat} (hz : ∀ z ∈ zs, (Lit.int .u8 z).wf = true) (hc : zs.length ≤ c) (hm : c ≤ maxLen) :
    SlIn (w.alloc (.cells (u8V zs).toArray e fr)) (w.alloc (.cells (u8V zs).toArray e fr)).heap.size ⟨some ⟨w.heap.size, 0, none⟩, zs.length, c, zs⟩ := by
  refine ⟨⟨by rw [u8V_length]; simp, fun _ => ⟨_, rfl, by simp, fun j u hu => ?_⟩⟩, hc, hm, hz⟩
  rw [Go.WideShapes.add_plain, World.cell?_alloc_mark, Nat.zero_add]
  simpa using hu
end Go.Proofs.Ytfcoeopemgcjlaa
