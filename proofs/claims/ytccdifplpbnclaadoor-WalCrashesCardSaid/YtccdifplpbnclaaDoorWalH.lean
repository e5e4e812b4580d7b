/- What the laws of the log share. -/
import Derived.Test.YtccdifplpbnclaaDoorWalT
namespace Go.Proofs.YtccdifplpbnclaaDoor
open Go.RowKit Go.Maps

/-- The first so many of an argument's slices, as bytes. -/
def zsL (F : Nat → Sl) (j : Nat) : List (List Int) := zsOf ((List.range j).map F)
theorem zsL_succ (F : Nat → Sl) (j : Nat) : zsL F (j + 1) = zsL F j ++ [(F j).zs] := by simp [zsL, zsOf, List.range_succ]
theorem zsL_len (F : Nat → Sl) (j : Nat) : (zsL F j).length = j := by simp [zsL, zsOf]
theorem SlIn.up {w0 w : World} {s : Sl} (h : SlIn w0 w0.heap.size s) (k : Below w0.heap.size w0 w) : SlIn w w.heap.size s := by
  have := h.keep k
  exact ⟨this.reads.more k.size, this.n_le, this.c_le, this.wf⟩
theorem Sls.up {w0 w : World} {A : Option Addr} {n : Nat} {F : Nat → Sl} (h : Sls w0 w0.heap.size A n F) (k : Below w0.heap.size w0 w) {j : Nat} (hj : j ≤ n) : SlL w A ((List.range j).map F) := (h.keep k).read k.size hj
section
variable {w0 w w' : World} {L : Nat → Prop} {d K l : Nat} {R : List (List Int)} {ar : Bool}
theorem LogSt.log (h : LogSt w0 L w d K l R ar) : LogIs w l d R.length (used R) := by
  obtain ⟨f, lf, h1, _⟩ := h
  exact h1.log
theorem LogSt.len (h : LogSt w0 L w d K l R ar) : Calls Tryd.prog 16 #[.pointer (some ⟨l, 0, none⟩)] w fun x w' => x = .returned (.int .i64 (R.length : Int)) ∧ w = w' := Len_runs w l d _ _ h.log
theorem LogSt.room (h : LogSt w0 L w d K l R ar) : Calls Tryd.prog 19 #[.pointer (some ⟨l, 0, none⟩)] w fun x w' => x = .returned (.int .i64 ((2048 - used R : Nat) : Int)) ∧ w = w' := Room_runs w l d _ _ h.log h.fits
/-- The disk of an open log, whose own block stays. -/
theorem LogSt.diskL (h : LogSt w0 L w d K l R false) : DiskSt w0 (fun b => L b ∨ b = l) w d K R := by
  obtain ⟨f, lf, h1, h2, h3⟩ := h
  obtain ⟨B, hD, hB, hn⟩ := h1.ex
  have hl := VBlk.lt h1.log
  exact ⟨f, lf, ⟨B, hD, fun b hb => ⟨(hB b hb).1, fun e => e.elim (hB b hb).2 (fun e => hn (e ▸ hb))⟩, h1.below, fun b hb => hb.elim (h1.inn b) (fun e => by rw [e]; exact hl)⟩, h2.fin h3, h2.opened⟩
theorem Kept.log {k e : Nat} (h : Kept L w w') (hL : LogIs w l d k e) (hl : L l) : LogIs w' l d k e := VBlk.only hL h fun e => e hl
theorem Kept.recs {base : Nat} {Q : Nat → Prop} {v : Value} {Fs : List Sl} (h : Kept L w w') (hR : Recs w base Q v Fs) (hQ : ∀ b, Q b → L b) : Recs w' base Q v Fs := hR.only h fun b _ hb e => e (hQ b hb)
end
end Go.Proofs.YtccdifplpbnclaaDoor
