/- A disk beside a law's own blocks: its calls. -/
import Derived.Test.YtccdifplpbnclaaDoorOpenB
namespace Go.Proofs.YtccdifplpbnclaaDoor
open Go.RowKit Go.Maps

/-- The disk d holds S, in no block of the law's (L), nor in one that was there when the law began. -/
def AtL (w0 : World) (L : Nat → Prop) (w : World) (d K : Nat) (S : DS) : Prop :=
  ∃ B, DiskAt w B d K S ∧ (∀ b, B b → w0.heap.size ≤ b ∧ ¬ L b) ∧ Below w0.heap.size w0 w ∧ ∀ b, L b → b < w.heap.size
/-- The law's blocks, and what was there, are as they were. -/
def Kept (L : Nat → Prop) (w w' : World) : Prop := Only (fun b => ¬ L b) w w'
section
variable {w0 w w' : World} {L : Nat → Prop} {d K : Nat} {S : DS}
theorem AtL.below (h : AtL w0 L w d K S) : Below w0.heap.size w0 w := by obtain ⟨_, _, _, h, _⟩ := h; exact h
theorem AtL.wrs (h : AtL w0 L w d K S) : Wrs S.ws := by obtain ⟨_, h, _⟩ := h; exact h.wrs
theorem AtL.sure (h : AtL w0 L w d K S) : ∀ y, Sect (S.f y) := by obtain ⟨_, h, _⟩ := h; exact h.sure
theorem AtL.left0 (h : AtL w0 L w d K S) : 0 ≤ S.left := by obtain ⟨_, h, _⟩ := h; exact h.left0
theorem AtL.grow (h : AtL w0 L w d K S) (k : Below w.heap.size w w') : AtL w0 L w' d K S := by
  obtain ⟨B, h1, h2, h3, h4⟩ := h
  exact ⟨B, h1.below k, h2, h3.trans (k.mono h3.size), fun b hb => Nat.lt_of_lt_of_le (h4 b hb) k.size⟩
/-- The law turns blocks of its own. -/
theorem AtL.turn {T : Nat → Prop} (h : AtL w0 L w d K S) (k : Only T w w') (hT : ∀ b, T b → L b ∧ w0.heap.size ≤ b) : AtL w0 L w' d K S := by
  obtain ⟨B, h1, h2, h3, h4⟩ := h
  exact ⟨B, h1.only k (fun b hb e => (h2 b hb).2 (hT b e).1), h2, below_only h3 k (fun i e => (hT i e).2) h3.size, fun b hb => Nat.lt_of_lt_of_le (h4 b hb) k.size⟩
/-- The law has other blocks. -/
theorem AtL.own {L' : Nat → Prop} (h : AtL w0 L w d K S) (k : Below w.heap.size w w') (hL : ∀ b, L' b → (L b ∨ w.heap.size ≤ b) ∧ b < w'.heap.size) : AtL w0 L' w' d K S := by
  obtain ⟨B, h1, h2, h3, h4⟩ := h
  exact ⟨B, h1.below k, fun b hb => ⟨(h2 b hb).1, fun e => (hL b e).1.elim (h2 b hb).2 (fun e => by have := h1.lt b hb; omega)⟩, h3.trans (k.mono h3.size), fun b hb => (hL b hb).2⟩
theorem AtL.step {T L' : Nat → Prop} (h : AtL w0 L w d K S) (k : Only T w w') (hT : ∀ b, T b → L b ∧ w0.heap.size ≤ b) (hL : ∀ b, L' b → (L b ∨ w.heap.size ≤ b) ∧ b < w'.heap.size) : AtL w0 L' w' d K S := by
  obtain ⟨B, h1, h2, h3, h4⟩ := h
  exact ⟨B, h1.only k (fun b hb e => (h2 b hb).2 (hT b e).1), fun b hb => ⟨(h2 b hb).1, fun e => (hL b e).1.elim (h2 b hb).2 (fun e => by have := h1.lt b hb; omega)⟩, below_only h3 k (fun i e => (hT i e).2) h3.size, fun b hb => (hL b hb).2⟩
theorem Kept.of_below (k : Below w.heap.size w w') : Kept L w w' := only_of_below k _
theorem atL_new (hb : Below w0.heap.size w0 w) (hL : ∀ b, L b → b < w.heap.size) : Calls Tryd.prog 11 #[] w fun e w' => ∃ d, e = .returned (.pointer (some ⟨d, 0, none⟩)) ∧ AtL w0 L w' d 0 newS ∧ Below w.heap.size w w' :=
  (New_runs w).mono fun _ _ ⟨d, B, h1, h2, h3, h4⟩ => ⟨d, h1, ⟨B, h2, fun b hb' => ⟨Nat.le_trans hb.size (h3 b hb'), fun e => by have := hL b e; have := h3 b hb'; omega⟩, hb.trans (h4.mono hb.size), fun b e => Nat.lt_of_lt_of_le (hL b e) h4.size⟩, h4⟩
theorem AtL.write (h : AtL w0 L w d K S) (hK : K < 50000) (x : Int) (l : -9223372036854775808 ≤ x) (u : x ≤ 9223372036854775807) {s : Sl} (hs : SlIn w w0.heap.size s) :
    Calls Tryd.prog 20 #[.pointer (some ⟨d, 0, none⟩), .int .i64 x, .slice s.A s.n s.c] w fun e w' => e = .returned (.int .i64 (wrtS x s.zs S).1) ∧ AtL w0 L w' d (K + 1) (wrtS x s.zs S).2 ∧ Kept L w w' := by
  obtain ⟨B, h1, h2, h3, h4⟩ := h
  refine (Write_runs w B d K S x s.A s.n s.c w0.heap.size s.zs h1 hK l u hs.reads h3.size (fun _ ad _ hb hB => by have := (h2 _ hB).1; omega) (Nat.le_trans hs.n_le hs.c_le) hs.wf).mono ?_
  rintro e w' ⟨e1, B', h5, h6, h7⟩
  refine ⟨e1, ⟨B', h5, fun b hb => (h6 b hb).elim (h2 b) (fun e => ⟨Nat.le_trans h3.size e, fun hL => by have := h4 b hL; omega⟩), below_only h3 h7 (fun i hi => (h2 i hi).1) h3.size, fun b hb => Nat.lt_of_lt_of_le (h4 b hb) h7.size⟩, h7.mono fun i _ hi => (h2 i hi).2⟩
theorem AtL.keep {B : Nat → Prop} {K' : Nat} {S' : DS} (h2 : ∀ b, B b → w0.heap.size ≤ b ∧ ¬ L b) (h3 : Below w0.heap.size w0 w) (h4 : ∀ b, L b → b < w.heap.size) (h : DiskAt w' B d K' S') (k : Only B w w') : AtL w0 L w' d K' S' ∧ Kept L w w' :=
  ⟨⟨B, h, h2, below_only h3 k (fun i hi => (h2 i hi).1) h3.size, fun b hb => Nat.lt_of_lt_of_le (h4 b hb) k.size⟩, k.mono fun i _ hi => (h2 i hi).2⟩
theorem AtL.sync (h : AtL w0 L w d K S) (hK : K < 50000) : Calls Tryd.prog 21 #[.pointer (some ⟨d, 0, none⟩)] w fun e w' => e = .returned (.int .i64 (synS S).1) ∧ AtL w0 L w' d K (synS S).2 ∧ Kept L w w' := by
  obtain ⟨B, h1, h2, h3, h4⟩ := h
  exact (Sync_runs w B d K S h1 hK).mono fun e w' ⟨e1, h5, h6⟩ => ⟨e1, AtL.keep h2 h3 h4 h5 h6⟩
theorem AtL.arm (h : AtL w0 L w d K S) (n : Int) (l : -9223372036854775808 ≤ n) (u : n ≤ 9223372036854775807) : Calls Tryd.prog 13 #[.pointer (some ⟨d, 0, none⟩), .int .i64 n] w fun e w' => (∃ v, e = .returned v) ∧ AtL w0 L w' d K (armS n S) ∧ Kept L w w' := by
  obtain ⟨B, h1, h2, h3, h4⟩ := h
  exact (Arm_runs w B d K S n h1 l u).mono fun e w' ⟨e1, h5, h6⟩ => ⟨e1, AtL.keep h2 h3 h4 h5 h6⟩
theorem AtL.crash (h : AtL w0 L w d K S) (hK : K < 50000) (mask torn cut : Int) (l1 : -9223372036854775808 ≤ mask) (u1 : mask ≤ 9223372036854775807) (l2 : -9223372036854775808 ≤ torn) (u2 : torn ≤ 9223372036854775807) (l3 : -9223372036854775808 ≤ cut) (u3 : cut ≤ 9223372036854775807) :
    Calls Tryd.prog 15 #[.pointer (some ⟨d, 0, none⟩), .int .i64 mask, .int .i64 torn, .int .i64 cut] w fun e w' => (∃ v, e = .returned v) ∧ AtL w0 L w' d K (craS mask torn cut S) ∧ Kept L w w' := by
  obtain ⟨B, h1, h2, h3, h4⟩ := h
  exact (Crash_runs w B d K S mask torn cut h1 hK l1 u1 l2 u2 l3 u3).mono fun e w' ⟨e1, h5, h6⟩ => ⟨e1, AtL.keep h2 h3 h4 h5 h6⟩
theorem AtL.read (h : AtL w0 L w d K S) (hK : K < 50000) {x : Int} (hx : Key x) : Calls Tryd.prog 29 #[.pointer (some ⟨d, 0, none⟩), .int .i64 x] w fun e w' => e = .returned (secV (readF S.f S.ws x)) ∧ AtL w0 L w' d K S ∧ Below w.heap.size w w' := by
  have h' := h
  obtain ⟨B, h1, h2, h3, h4⟩ := h
  exact (Read_runs w B d K S x h1 hK hx).mono fun e w' ⟨e1, h5⟩ => ⟨e1, h'.grow h5, h5⟩
theorem AtL.sureR (h : AtL w0 L w d K S) (hK : K < 50000) {x : Int} (hx : Key x) : Calls Tryd.prog 33 #[.pointer (some ⟨d, 0, none⟩), .int .i64 x] w fun e w' => e = .returned (secV (S.f x)) ∧ AtL w0 L w' d K S ∧ Below w.heap.size w w' := by
  have h' := h
  obtain ⟨B, h1, h2, h3, h4⟩ := h
  exact (Sure_runs w B d K S x h1 hK hx).mono fun e w' ⟨e1, h5⟩ => ⟨e1, h'.grow h5, h5⟩
end
theorem SlIn.sect {w : World} {Bd : Nat} {s : Sl} (hs : SlIn w Bd s) (hn : s.n ≤ 64) : Sect (padB s.zs) := padB_sect (by rw [hs.len]; exact hn) hs.wf
end Go.Proofs.YtccdifplpbnclaaDoor
