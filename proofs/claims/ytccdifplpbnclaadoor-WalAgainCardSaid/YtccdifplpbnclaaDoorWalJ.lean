/- Slices of slices that a law lays behind one another. -/
import Derived.Test.YtccdifplpbnclaaDoorWalI
namespace Go.Proofs.YtccdifplpbnclaaDoor
open Go.RowKit Go.Maps

theorem Recs.adds {w w' : World} {base : Nat} {Q : Nat → Prop} {v v' : Value} {Fs Gs : List Sl} (h : Recs w base Q v Fs) (hG : ∀ s ∈ Gs, SlOk w Q s) (hsep : ∀ s ∈ Gs, 0 < s.n → ∀ ad, s.A = some ad → v.ownBlock ≠ some ad.block)
    (hown : w'.ownsRow base 33 1 v' (Fs.length + Gs.length) (Fs.map slV ++ Gs.map slV)) (hg : w.grownBy w' v.ownBlock) (hb : v'.ownBlock = v.ownBlock ∨ v'.ownBlock = some w.heap.size) (hQ : Q w.heap.size) : Recs w' base Q v' (Fs ++ Gs) := by
  have k := only_grown hg
  have keep : ∀ t, SlOk w Q t → (0 < t.n → ∀ ad, t.A = some ad → v.ownBlock ≠ some ad.block) → SlOk w' Q t ∧ (0 < t.n → ∀ ad, t.A = some ad → v'.ownBlock ≠ some ad.block) := fun t h' hn =>
    ⟨⟨⟨(reads_only h'.in_.reads k (Nat.le_refl _) (fun h0 ad ha _ => hn h0 ad ha)).more k.size, h'.in_.n_le, h'.in_.c_le, h'.in_.wf⟩, h'.at_⟩, fun h0 ad ha => by
      rcases hb with hb | hb
      · rw [hb]; exact hn h0 ad ha
      · rw [hb]
        obtain ⟨ad', e, hlt, _⟩ := h'.in_.reads.2 h0
        rw [ha] at e
        injection e with e
        subst e
        intro e
        injection e with e
        omega⟩
  have all : ∀ t ∈ Fs ++ Gs, SlOk w' Q t ∧ (0 < t.n → ∀ ad, t.A = some ad → v'.ownBlock ≠ some ad.block) := fun t ht => by
    rcases List.mem_append.1 ht with ht | ht
    · exact keep t (h.each t ht) (h.sep t ht)
    · exact keep t (hG t ht) (hsep t ht)
  refine ⟨by rw [List.length_append, List.map_append]; exact hown, fun g hg => ?_, fun t ht => (all t ht).1, fun t ht => (all t ht).2⟩
  rcases hb with hb | hb
  · exact h.at_ g (by rw [← hb]; exact hg)
  · rw [hb] at hg; injection hg with hg; rw [← hg]; exact hQ
def anyQ (_ : Nat) : Prop := True
theorem SlIn.ok {w : World} {s : Sl} (h : SlIn w w.heap.size s) : SlOk w anyQ s := ⟨h, fun _ _ _ => trivial⟩
theorem Recs.any {w : World} {base : Nat} {Q : Nat → Prop} {v : Value} {Fs : List Sl} (h : Recs w base Q v Fs) : Recs w base anyQ v Fs := h.mono fun _ _ _ => trivial
/-- Such a slice is laid anew, behind none. -/
theorem app_nil {w : World} {base : Nat} {Q : Nat → Prop} {A : Option Addr} {n c : Nat} {Fs : List Sl} (h : Recs w base Q (.slice A n c) Fs) (hn : Fs.length = n) (hl : n ≤ 90000) :
    HasAppL w (.slice none 0 0) (.slice A n c) ∧ ∀ p, appLP w (.slice none 0 0) (.slice A n c) = p → Recs p.2 w.heap.size anyQ p.1 Fs ∧ Below w.heap.size w p.2 := by
  subst hn
  obtain ⟨h1, h2⟩ := appL_any (w := w) (base := w.heap.size) (World.ownsRow_nil _ _ _ _) (c := c) (Reads.of_own h.own) (slV_one Fs) (by omega) (Nat.le_refl _)
  refine ⟨h1, fun p hp => ?_⟩
  obtain ⟨p1, p2, p3⟩ := h2 p hp
  refine ⟨?_, (Below.refl _ _).grown p2 (Nat.le_refl _) (fun k e => by simp [Value.ownBlock] at e)⟩
  exact (Recs.nil w w.heap.size anyQ).adds (Gs := Fs) (fun s hs => (h.each s hs).in_.ok) (fun s _ _ ad _ => by simp [Value.ownBlock]) p1 p2 p3 trivial
/-- One slice more behind those. -/
theorem app_snoc {w : World} {base : Nat} {Q : Nat → Prop} {v : Value} {Fs : List Sl} {s : Sl} (h : Recs w base Q v Fs) (hs : SlOk w Q s) (hsep : 0 < s.n → ∀ ad, s.A = some ad → v.ownBlock ≠ some ad.block) (hl : Fs.length ≤ 90000) (hb : base ≤ w.heap.size) (hQ : Q (w.heap.size + 1)) :
    HasAppL (w.alloc (.cells #[.slice s.A s.n s.c] 33)) v (.slice (some ⟨w.heap.size, 0, none⟩) 1 1) ∧ ∀ p, appLP (w.alloc (.cells #[.slice s.A s.n s.c] 33)) v (.slice (some ⟨w.heap.size, 0, none⟩) 1 1) = p →
      Recs p.2 base Q p.1 (Fs ++ [s]) ∧ (w.alloc (.cells #[.slice s.A s.n s.c] 33)).grownBy p.2 v.ownBlock ∧ (p.1.ownBlock = v.ownBlock ∨ p.1.ownBlock = some (w.heap.size + 1)) := by
  have B1 := (Below.refl w.heap.size w).alloc (Nat.le_refl _) (.cells #[.slice s.A s.n s.c] 33)
  have h' := h.below B1
  have hs' := hs.only (only_of_below B1 (fun _ => False)) (fun _ _ _ e => e)
  have hsz : (w.alloc (.cells #[.slice s.A s.n s.c] 33)).heap.size = w.heap.size + 1 := by simp
  obtain ⟨h1, h2⟩ := appL_any (c := 1) h'.own (reads_one w (.slice s.A s.n s.c) 33) (by intro u hu; simp at hu; subst hu; rfl) (by omega) (by omega)
  refine ⟨h1, fun p hp => ?_⟩
  obtain ⟨p1, p2, p3⟩ := h2 p hp
  rw [hsz] at p3
  exact ⟨h'.snoc hs' p1 p2 (by rw [hsz]; exact p3) (by rw [hsz]; exact hQ) hsep, p2, p3⟩
/-- No block that is new holds a slice that was there. -/
theorem sep_new {w : World} {s : Sl} {v : Value} {base : Nat} (hs : SlIn w base s) (hv : ∀ g, v.ownBlock = some g → base ≤ g) : 0 < s.n → ∀ ad, s.A = some ad → v.ownBlock ≠ some ad.block := fun h0 ad ha e => by
  obtain ⟨ad', e', hlt, _⟩ := hs.reads.2 h0
  rw [ha] at e'
  injection e' with e'
  subst e'
  have := hv _ e
  omega
def moreZ : List Int := [109, 111, 114, 101]
end Go.Proofs.YtccdifplpbnclaaDoor
