/- A box that a law puts a constant in. -/
import Derived.Test.YteiaiicdemmcoaaDoorBoxT
import Derived.Test.YteiaiicdemmcoaaDoorStrB
import Derived.Lib.SlBytesConst
namespace Go.Proofs.YteiaiicdemmcoaaDoor
open Go.RowKit Go.Conc

def allQ (_ : Nat) : Prop := True
abbrev oneW (w : World) (z : Int) : World := w.alloc (.cells #[.int .u8 z] 5 (1, 2))
abbrev oneS (w : World) (z : Int) : Sl := ⟨some ⟨w.heap.size, 0, none⟩, 1, 1, [z]⟩
theorem one_slIn {w : World} (z : Int) (hz : (Lit.int .u8 z).wf = true) : SlIn (oneW w z) (oneW w z).heap.size (oneS w z) :=
  const_slIn (w := w) 5 (1, 2) (zs := [z]) (c := 1) (by simpa using hz) (Nat.le_refl 1) (by unfold maxLen; omega)
theorem conv_one (w : World) (z : Int) : (convert 23 23 (.slice (some ⟨w.heap.size, 0, none⟩) 1 1)).run Tryd.prog (w.alloc (.cells #[.int .u8 z] 5)) = .ok (.slice (some ⟨w.heap.size, 0, none⟩) 1 1) (oneW w z) :=
  Lib.run_convert_bytes_const (P := Tryd.prog) w 23 5 #[.int .u8 z] 1 1 Tryd.underlying23 Tryd.underlying5
theorem below_all {w0 w w' : World} (h : Below w0.heap.size w0 w) {c : Nat} (hc : w0.heap.size ≤ c) (k : Only (· = c) w w') : Below w0.heap.size w0 w' := below_only h k (fun i e => by rw [e]; exact hc) h.size
/-- A constant is put. -/
theorem put_one {w : World} {p c N : Nat} {Fs : List Sl} (h : BoxAt w allQ p c N Fs) (z : Int) (hz : (Lit.int .u8 z).wf = true) (hl : Fs.length < N) :
    Calls Tryd.prog 21 #[.pointer (some ⟨p, 0, none⟩), .slice (some ⟨w.heap.size, 0, none⟩) 1 1] (oneW w z) fun e w' => e = .returned (.bool true) ∧ (∃ t : Sl, t.zs = [z] ∧ BoxAt w' allQ p c N (Fs ++ [t])) ∧ Only (· = c) w w' := by
  have hb : Below w.heap.size w (oneW w z) := (Below.refl _ _).alloc (Nat.le_refl _) _
  refine (Put_runs (oneW w z) allQ p c N _ Fs (oneS w z) (h.below hb) (one_slIn z hz) (Nat.le_refl _) (Nat.le_trans (Nat.le_refl 1) (by omega)) (fun _ _ => trivial)).mono ?_
  intro e w' hx
  unfold PutIs at hx
  rw [if_pos hl] at hx
  obtain ⟨rfl, ⟨t, t1, _, t3⟩, k⟩ := hx
  exact ⟨rfl, ⟨t, t1, t3⟩, (only_of_below hb _).trans_ k⟩
theorem len_one {w : World} {Q : Nat → Prop} {s : Sl} {z : Int} (h : SlOk w Q s) (hz : s.zs = [z]) : s.n = 1 := by have := h.in_.len; rw [hz] at this; exact this.symm
theorem str_one (z : Int) (b : UInt8) (h : UInt8.ofNat z.toNat = b) : (strOfNums [z]).toList = [b] := by
  rw [Lib.strOfNums_toList, ← h]
  rfl
end Go.Proofs.YteiaiicdemmcoaaDoor
