/- sum.Of at no part, at one, at three. -/
import Derived.Test.YteiaiicdemmcoaaDoorSumOf
import Derived.Test.YteiaiicdemmcoaaDoorInfo8
import Derived.Deep.DeepMust
import Derived.Lib.SlBytesConst
import Derived.OpenShut
namespace Go.Proofs.YteiaiicdemmcoaaDoor
open Go.RowKit

theorem Reads.three (w : World) (x y z : Value) (e : TypeId) : Reads (w.alloc (.cells #[x, y, z] e)) (w.heap.size + 1) 1 (some ⟨w.heap.size, 0, none⟩) 3 [x, y, z] := by
  refine ⟨rfl, fun _ => ⟨_, rfl, by simp, fun j u hu => ?_⟩⟩
  rw [Go.WideShapes.add_plain]
  match j, hu with
  | 0, hu => simp at hu; subst hu; rw [World.cell?_alloc_at _ _ _ _ rfl]; rfl
  | 1, hu => simp at hu; subst hu; rw [World.cell?_alloc_at _ _ _ _ rfl]; rfl
  | 2, hu => simp at hu; subst hu; rw [World.cell?_alloc_at _ _ _ _ rfl]; rfl

theorem Part.Fit.alloc {w : World} {p : Part} (h : p.Fit w) (o : Obj) : p.Fit (w.alloc o) :=
  ⟨(h.1.alloc (Nat.le_refl _) o).more (by simp), h.2⟩
theorem Part.Fit.below {w w' : World} {p : Part} (h : p.Fit w) (hb : Below w.heap.size w w') : p.Fit w' :=
  ⟨(h.1.below hb).more hb.size, h.2⟩
/-- One part. -/
theorem of_one (g : Nat) (A : Option Addr) (n c : Nat) (zs : List Int) (w : World) (hg : g = w.heap.size) (hl : Laid w) (hp : Part.Fit w ⟨A, n, c, zs⟩) :
    Calls Tryd.prog 15 #[.slice (some ⟨g, 0, none⟩) 1 1] (w.alloc (.cells #[.slice A n c] 23)) fun e w' =>
      e = .returned (.int .u32 (crcOf zs)) ∧ w.alloc (.cells #[.slice A n c] 23) = w' := by
  subst hg
  have h := of_any (some ⟨w.heap.size, 0, none⟩) 1 1 [⟨A, n, c, zs⟩] (w.alloc (.cells #[.slice A n c] 23)) (hl.alloc _)
    (by simpa [Part.v] using reads_one w (.slice A n c) 23) (by omega) (by intro p h; simp at h; subst h; exact hp.alloc _)
  rw [show partsL [⟨A, n, c, zs⟩] = zs by simp [partsL]] at h
  exact h
theorem of_three (g : Nat) (A B C : Option Addr) (n m k c d f : Nat) (xs ys zs : List Int) (w : World) (hg : g = w.heap.size) (hl : Laid w) (h1 : Part.Fit w ⟨A, n, c, xs⟩) (h2 : Part.Fit w ⟨B, m, d, ys⟩) (h3 : Part.Fit w ⟨C, k, f, zs⟩) :
    Calls Tryd.prog 15 #[.slice (some ⟨g, 0, none⟩) 3 3] (w.alloc (.cells #[.slice A n c, .slice B m d, .slice C k f] 23)) fun e w' =>
      e = .returned (.int .u32 (crcOf (xs ++ (ys ++ zs)))) ∧ w.alloc (.cells #[.slice A n c, .slice B m d, .slice C k f] 23) = w' := by
  subst hg
  have h := of_any (some ⟨w.heap.size, 0, none⟩) 3 3 [⟨A, n, c, xs⟩, ⟨B, m, d, ys⟩, ⟨C, k, f, zs⟩] (w.alloc (.cells #[.slice A n c, .slice B m d, .slice C k f] 23)) (hl.alloc _)
    (by simpa [Part.v] using Reads.three w (.slice A n c) (.slice B m d) (.slice C k f) 23) (by omega)
    (by intro p h; simp at h; rcases h with rfl | rfl | rfl
        · exact h1.alloc _
        · exact h2.alloc _
        · exact h3.alloc _)
  rw [show partsL [⟨A, n, c, xs⟩, ⟨B, m, d, ys⟩, ⟨C, k, f, zs⟩] = xs ++ (ys ++ zs) by simp [partsL]] at h
  exact h
theorem crcOf_nil : crcOf [] = 0 := by decide +kernel
theorem of_none (w : World) (hl : Laid w) :
    Calls Tryd.prog 15 #[.slice none 0 0] w fun e w' => e = .returned (.int .u32 0) ∧ w = w' := by
  have h := of_any none 0 0 [] w hl Reads.none_ (by omega) (by simp)
  rw [show partsL [] = [] from rfl, crcOf_nil] at h
  exact h

end Go.Proofs.YteiaiicdemmcoaaDoor
