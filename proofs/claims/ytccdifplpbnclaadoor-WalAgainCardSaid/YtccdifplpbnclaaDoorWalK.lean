/- What a law has had: slices of its argument, laid behind one another. -/
import Derived.Test.YtccdifplpbnclaaDoorWalJ
import Derived.Test.YtccdifplpbnclaaDoorOpenB3
namespace Go.Proofs.YtccdifplpbnclaaDoor
open Go.RowKit Go.Maps

def HadSt (w wr : World) (L : Nat → Prop) (v : Value) (R : List (List Int)) : Prop :=
  ∃ Hs : List Sl, zsOf Hs = R ∧ wr.ownsRow w.heap.size 33 1 v Hs.length (Hs.map slV) ∧ (∀ g, v.ownBlock = some g → L g) ∧ ∀ s ∈ Hs, SlIn w w.heap.size s
section
variable {w wr w' : World} {L L' : Nat → Prop} {v : Value} {R : List (List Int)}
theorem HadSt.nil (w wr : World) (L : Nat → Prop) : HadSt w wr L (.slice none 0 0) [] := ⟨[], rfl, World.ownsRow_nil _ _ _ _, fun g hg => by simp [Value.ownBlock] at hg, by simp⟩
theorem HadSt.kept (h : HadSt w wr L v R) (kp : Kept L wr w') : HadSt w w' L v R := by
  obtain ⟨Hs, h1, h2, h3, h4⟩ := h
  exact ⟨Hs, h1, own_only h2 kp (fun g hg e => e (h3 g hg)), h3, h4⟩
theorem HadSt.below (h : HadSt w wr L v R) (k : Below wr.heap.size wr w') : HadSt w w' L v R := h.kept (only_of_below k _)
theorem HadSt.more (h : HadSt w wr L v R) (hL : ∀ b, L b → L' b) : HadSt w wr L' v R := by
  obtain ⟨Hs, h1, h2, h3, h4⟩ := h
  exact ⟨Hs, h1, h2, fun g hg => hL g (h3 g hg), h4⟩
theorem HadSt.recs (h : HadSt w wr L v R) (hB : Below w.heap.size w wr) : ∃ Hs, zsOf Hs = R ∧ Recs wr w.heap.size anyQ v Hs := by
  obtain ⟨Hs, h1, h2, h3, h4⟩ := h
  exact ⟨Hs, h1, h2, fun _ _ => trivial, fun s hs => ((h4 s hs).up hB).ok, fun s hs => sep_new (h4 s hs) (own_base h2)⟩
theorem HadSt.snoc {s : Sl} (h : HadSt w wr L v R) (hB : Below w.heap.size w wr) (hs : SlIn w w.heap.size s) (hl : R.length ≤ 90000) :
    HasAppL (wr.alloc (.cells #[.slice s.A s.n s.c] 33)) v (.slice (some ⟨wr.heap.size, 0, none⟩) 1 1) ∧ ∀ p, appLP (wr.alloc (.cells #[.slice s.A s.n s.c] 33)) v (.slice (some ⟨wr.heap.size, 0, none⟩) 1 1) = p →
      HadSt w p.2 (fun b => L b ∨ p.1.ownBlock = some b) p.1 (R ++ [s.zs]) ∧ (wr.alloc (.cells #[.slice s.A s.n s.c] 33)).grownBy p.2 v.ownBlock ∧ (∀ b, v.ownBlock = some b → L b ∧ w.heap.size ≤ b) ∧ (∀ b, p.1.ownBlock = some b → (L b ∨ wr.heap.size + 1 ≤ b) ∧ b < p.2.heap.size) := by
  obtain ⟨Hs, h1, h2, h3, h4⟩ := h
  have hlen : Hs.length = R.length := by rw [← h1, zsOf_len]
  have hsz : (wr.alloc (.cells #[.slice s.A s.n s.c] 33)).heap.size = wr.heap.size + 1 := by simp
  have hs0 := hB.size
  obtain ⟨g1, g2⟩ := appL_any (c := 1) (h2.alloc (.cells #[.slice s.A s.n s.c] 33)) (reads_one wr (.slice s.A s.n s.c) 33) (by intro u hu; simp at hu; subst hu; rfl) (by omega) (by omega)
  refine ⟨g1, fun p hp => ?_⟩
  obtain ⟨p1, p2, p3⟩ := g2 p hp
  rw [hsz] at p3
  refine ⟨⟨Hs ++ [s], by rw [zsOf_snoc, h1], by rw [List.length_append, List.map_append]; exact p1, fun g hg => .inr hg, fun t ht => ?_⟩, p2, fun b hb => ⟨h3 b hb, own_base h2 b hb⟩, fun b hb => ⟨?_, own_lt p1 b hb⟩⟩
  · rcases List.mem_append.1 ht with ht | ht
    · exact h4 t ht
    · obtain rfl := List.mem_singleton.1 ht; exact hs
  · rcases p3 with p3 | p3
    · exact .inl (h3 b (by rw [← p3]; exact hb))
    · rw [p3] at hb; injection hb with hb; exact .inr (by omega)
end
theorem LogSt.own {w0 w w' : World} {L : Nat → Prop} {d K l : Nat} {R : List (List Int)} {ar : Bool} {v v' : Value} (h : LogSt w0 L w d K l R ar) (hg : w.grownBy w' v.ownBlock) (hT : ∀ b, v.ownBlock = some b → L b ∧ w0.heap.size ≤ b) (hv : ∀ b, v'.ownBlock = some b → (L b ∨ w.heap.size ≤ b) ∧ b < w'.heap.size) : LogSt w0 (fun b => L b ∨ v'.ownBlock = some b) w' d K l R ar :=
  h.step (only_grown hg) (fun b hb => hT b hb) (fun b hb => hb.elim (fun e => ⟨.inl e, Nat.lt_of_lt_of_le (h.inn b e) hg.size⟩) (hv b))
theorem DiskSt.fits {w0 w : World} {L : Nat → Prop} {d K : Nat} {R : List (List Int)} (h : DiskSt w0 L w d K R) : used R ≤ 2048 := by
  obtain ⟨f, lf, _, h2, h3⟩ := h
  exact h3.fits h2
theorem CrSt.drew {w0 w : World} {L : Nat → Prop} {d K : Nat} {R : List (List Int)} (h : CrSt w0 L w d K R) : CrSt w0 L w.drew d K R := h.grow (Below.refl _ _).drew
end Go.Proofs.YtccdifplpbnclaaDoor
