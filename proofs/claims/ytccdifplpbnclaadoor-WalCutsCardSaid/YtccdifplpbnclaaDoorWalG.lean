/- The law's own few; a log on a disk beside a law's own blocks. -/
import Derived.Test.YtccdifplpbnclaaDoorWalF
import Derived.Test.YtccdifplpbnclaaDoorDskA
namespace Go.Proofs.YtccdifplpbnclaaDoor
open Go.RowKit Go.Maps

set_option maxRecDepth 100000 in
set_option maxHeartbeats 4000000 in
theorem few_runs (w : World) (A : Option Addr) (n c B : Nat) (F : Nat → Sl) (h : Sls w B A n F) (hn : n ≤ 9223372036854775807) :
    Calls Tryd.prog 10 #[.slice A n c] w fun e w' => (e = .returned (.bool false) ∨ (e = .returned (.bool true) ∧ n ≤ 100)) ∧ w = w' := by
  go_enter Tryd.func10, Tryd.ntmps10
  go_wp2_with fail
  go_loop [3, 5, 8] (fun s3 _ s8 => ∃ (j : Nat) (x : Int), j ≤ n ∧ s8 = .int .i64 j ∧ s3 = .int .i64 x) (fun _ _ s8 => n - (intOf s8).toNat)
  case atStart => exact ⟨0, 0, Nat.zero_le _, rfl, rfl⟩
  case round =>
    obtain ⟨j, x, hj, rfl, rfl⟩ := hrel
    by_cases hlt : j < n
    · obtain ⟨b, off, rfl, hb, hc⟩ := h.at_ (by omega)
      have k1 := hc j hlt
      have dl : (j : Int) < (n : Int) := by omega
      clear hc
      go_wp2_with fail
      go_round
      case rel => exact ⟨j + 1, _, by omega, by go_num, rfl⟩
      case measure => simp [intOf]; omega
    · have dl : ¬ (j : Int) < (n : Int) := by omega
      by_cases h1 : x ≤ 40000
      · by_cases h2 : (n : Int) ≤ 100
        · go_wp2_with fail
          go_ret
          exact ⟨.inr ⟨rfl, by go_light; omega⟩, rfl⟩
        · go_wp2_with fail
          go_ret
          exact ⟨.inl rfl, rfl⟩
      · go_wp2_with fail
        go_ret
        exact ⟨.inl rfl, rfl⟩

/-! ### a log on a disk, beside a law's own blocks -/
structure AtG (w0 : World) (L : Nat → Prop) (w : World) (d K : Nat) (S : DS) (l k e : Nat) : Prop where
  ex : ∃ B, DiskAt w B d K S ∧ (∀ b, B b → w0.heap.size ≤ b ∧ ¬ L b) ∧ ¬ B l
  log : LogIs w l d k e
  out : ¬ L l
  new : w0.heap.size ≤ l
  below : Below w0.heap.size w0 w
  inn : ∀ b, L b → b < w.heap.size
section
variable {w0 w w' : World} {L L' T : Nat → Prop} {d K l k e : Nat} {S : DS}
theorem AtG.atL (h : AtG w0 L w d K S l k e) : AtL w0 L w d K S := by
  obtain ⟨B, h1, h2, _⟩ := h.ex
  exact ⟨B, h1, h2, h.below, h.inn⟩
theorem AtG.step (h : AtG w0 L w d K S l k e) (c : Only T w w') (hT : ∀ b, T b → L b ∧ w0.heap.size ≤ b) (hL : ∀ b, L' b → (L b ∨ w.heap.size ≤ b) ∧ b < w'.heap.size) : AtG w0 L' w' d K S l k e := by
  obtain ⟨B, h1, h2, h3⟩ := h.ex
  have hl := VBlk.lt h.log
  exact ⟨⟨B, h1.only c (fun b hb e => (h2 b hb).2 (hT b e).1), fun b hb => ⟨(h2 b hb).1, fun e => (hL b e).1.elim (h2 b hb).2 (fun e => by have := h1.lt b hb; omega)⟩, h3⟩,
    VBlk.only h.log c (fun e => h.out (hT l e).1), fun e => (hL l e).1.elim h.out (fun e => by omega), h.new, below_only h.below c (fun i e => (hT i e).2) h.below.size, fun b hb => (hL b hb).2⟩
theorem AtG.grow (h : AtG w0 L w d K S l k e) (c : Below w.heap.size w w') : AtG w0 L w' d K S l k e :=
  h.step (only_of_below c fun _ => False) (fun _ e => e.elim) (fun b hb => ⟨.inl hb, Nat.lt_of_lt_of_le (h.inn b hb) c.size⟩)
theorem AtL.step0 (h : AtL w0 L w d K S) (c : Only T w w') (hT : ∀ b, T b → L b ∧ w0.heap.size ≤ b) (hL : ∀ b, L' b → (L b ∨ w.heap.size ≤ b) ∧ b < w'.heap.size) : AtL w0 L' w' d K S := h.step c hT hL
theorem AtL.opens {f : Sects} {lf : Int} (h : AtL w0 L w d K (idleS f lf)) (hK : K + 2048 < 50000) (hF : FinF f) (hT : Laid w0) :
    Calls Tryd.prog 12 #[.pointer (some ⟨d, 0, none⟩)] w fun x w' => ∃ l v Fs f' L', x = .returned (.tuple #[.pointer (some ⟨l, 0, none⟩), v, .int .i64 0]) ∧ AtG w0 L' w' d (K + 2048) (idleS f' lf) l Fs.length (used (zsOf Fs)) ∧
      (∀ b, L b → L' b) ∧ (∀ b, L' b → L b ∨ w.heap.size ≤ b) ∧ Recs w' w.heap.size (fun b => w.heap.size ≤ b ∧ L' b) v Fs ∧ Opened f (zsOf Fs) ∧ LogF f' (zsOf Fs) ∧ Kept L w w' := by
  obtain ⟨B, h1, h2, h3, h4⟩ := h
  refine (Open_runs w B d K f lf h1 hK hF (hT.below h3 hT.lt)).mono ?_
  rintro x w' ⟨l, v, Fs, B', f', rfl, D, M, G, hl, hn, R, O, F⟩
  have hs := M.2.size
  have hB' : ∀ b, B' b → w0.heap.size ≤ b ∧ ¬ L b := fun b hb => (M.1 b hb).elim (h2 b) (fun e => ⟨Nat.le_trans h3.size e, fun e' => by have := h4 b e'; omega⟩)
  refine ⟨l, v, Fs, f', fun b => L b ∨ (w.heap.size ≤ b ∧ b < w'.heap.size ∧ b ≠ l ∧ ¬ B' b), rfl, ⟨⟨B', D, fun b hb => ⟨(hB' b hb).1, fun e => e.elim (hB' b hb).2 (fun e => e.2.2.2 hb)⟩, hn⟩, G, fun e => e.elim (fun e => by have := h4 l e; omega) (fun e => e.2.2.1 rfl), Nat.le_trans h3.size hl, below_only h3 M.2 (fun i hi => (h2 i hi).1) h3.size, fun b hb => hb.elim (fun e => Nat.lt_of_lt_of_le (h4 b e) hs) (fun e => e.2.1)⟩,
    fun b hb => .inl hb, fun b hb => hb.elim .inl (fun e => .inr e.1), R.mono fun b hb hQ => ⟨hQ.1, .inr ⟨hQ.1, hb, hQ.2⟩⟩, O, F, M.2.mono fun i _ hi => (h2 i hi).2⟩
theorem AtG.puts {f : Sects} {ar : Bool} {lf : Int} {s : Sl} (h : AtG w0 L w d K ⟨f, [], ar, lf, false⟩ l k e) (hK : K + 64 < 50000) (hT : Laid w0) (hs : SlIn w w.heap.size s) (hk : k ≤ 10000) (he : e ≤ 2048) :
    Calls Tryd.prog 14 #[.pointer (some ⟨l, 0, none⟩), .slice s.A s.n s.c] w fun x w' => Kept L w w' ∧
     ((x = .returned (.int .i64 2) ∧ 3000 < s.n ∧ AtG w0 L w' d K ⟨f, [], ar, lf, false⟩ l k e) ∨
      (x = .returned (.int .i64 3) ∧ s.n ≤ 3000 ∧ 2048 < e + pcs s.n ∧ AtG w0 L w' d K ⟨f, [], ar, lf, false⟩ l k e) ∨
      (x = .returned (.int .i64 4) ∧ s.n ≤ 3000 ∧ e + pcs s.n ≤ 2048 ∧ ar = true ∧ lf < pcs s.n ∧ AtG w0 L w' d (K + pcs s.n) ⟨f, putWs (k + 1) e s.zs lf.toNat, true, 0, true⟩ l k e) ∨
      (x = .returned (.int .i64 0) ∧ s.n ≤ 3000 ∧ e + pcs s.n ≤ 2048 ∧ AtG w0 L w' d (K + pcs s.n) ⟨syncF f (putWs (k + 1) e s.zs (pcs s.n)), [], ar, lfJ ar lf (pcs s.n), false⟩ l (k + 1) (e + pcs s.n))) := by
  obtain ⟨B, h1, h2, h3⟩ := h.ex
  have hsl := hs.len
  refine (Put_runs w B d K l k e s.n s.c f ar lf s.A s.zs h1 hK h.log h3 (hT.below h.below hT.lt) hs.reads hs.n_le hs.c_le hs.bd hk he).mono ?_
  rintro x w' ⟨B', b1, b2, hc⟩
  rw [hsl] at hc
  have hll := VBlk.lt h.log
  have hsz := b2.size
  have hB : Below w0.heap.size w0 w' := below_only h.below b2 (fun i hi => hi.elim (fun e => (h2 i e).1) (fun e => by rw [e]; exact h.new)) h.below.size
  have hx : ∀ b, B' b → w0.heap.size ≤ b ∧ ¬ L b := fun b hb => (b1 b hb).elim (h2 b) (fun e => ⟨Nat.le_trans h.below.size e, fun e' => by have := h.inn b e'; omega⟩)
  have hn : ¬ B' l := fun e => (b1 l e).elim h3 (fun e => by omega)
  have mk : ∀ {K' S' k' e'}, DiskAt w' B' d K' S' → LogIs w' l d k' e' → AtG w0 L w' d K' S' l k' e' := fun D G => ⟨⟨B', D, hx, hn⟩, G, h.out, h.new, hB, fun b hb => Nat.lt_of_lt_of_le (h.inn b hb) hsz⟩
  refine ⟨b2.mono fun i _ hi => hi.elim (fun e => (h2 i e).2) (fun e => by rw [e]; exact h.out), ?_⟩
  rcases hc with ⟨rfl, c1, c2, c3⟩ | ⟨rfl, c1, c2, c3, c4⟩ | ⟨rfl, c1, c2, c3, c4, c5, c6⟩ | ⟨rfl, c1, c2, c3, c4, c5⟩
  · exact .inl ⟨rfl, c1, mk c2 c3⟩
  · exact .inr (.inl ⟨rfl, c1, c2, mk c3 c4⟩)
  · exact .inr (.inr (.inl ⟨rfl, c1, c2, c3, c4, mk c5 c6⟩))
  · exact .inr (.inr (.inr ⟨rfl, c1, c2, mk c4 c5⟩))
theorem AtG.arms (h : AtG w0 L w d K S l k e) (n : Int) (h1 : -9223372036854775808 ≤ n) (h2 : n ≤ 9223372036854775807) : Calls Tryd.prog 13 #[.pointer (some ⟨d, 0, none⟩), .int .i64 n] w fun x w' => (∃ v, x = .returned v) ∧ AtG w0 L w' d K (armS n S) l k e ∧ Kept L w w' := by
  obtain ⟨B, D, hB, hn⟩ := h.ex
  refine (Arm_runs w B d K S n D h1 h2).mono ?_
  rintro x w' ⟨hx, D', O⟩
  exact ⟨hx, ⟨⟨B, D', hB, hn⟩, VBlk.only h.log O hn, h.out, h.new, below_only h.below O (fun i hi => (hB i hi).1) h.below.size, fun b hb => Nat.lt_of_lt_of_le (h.inn b hb) O.size⟩, O.mono fun i _ hi => (hB i hi).2⟩
end

/-! ### the states that a law knows -/
/-- An open log that has these records. -/
def LogSt (w0 : World) (L : Nat → Prop) (w : World) (d K l : Nat) (R : List (List Int)) (ar : Bool) : Prop := ∃ f lf, AtG w0 L w d K ⟨f, [], ar, lf, false⟩ l R.length (used R) ∧ LogF f R ∧ used R ≤ 2048
/-- A disk that is up, and on which an Open finds these. -/
def DiskSt (w0 : World) (L : Nat → Prop) (w : World) (d K : Nat) (R : List (List Int)) : Prop := ∃ f lf, AtL w0 L w d K (idleS f lf) ∧ FinF f ∧ Opened f R
/-- A disk of which every crash leaves these. -/
def CrSt (w0 : World) (L : Nat → Prop) (w : World) (d K : Nat) (R : List (List Int)) : Prop := ∃ S, AtL w0 L w d K S ∧ ∀ mask torn cut, Opened (craS mask torn cut S).f R ∧ FinF (craS mask torn cut S).f
section
variable {w0 w w' : World} {L L' T : Nat → Prop} {d K l : Nat} {R : List (List Int)} {ar : Bool}
theorem LogSt.step (h : LogSt w0 L w d K l R ar) (c : Only T w w') (hT : ∀ b, T b → L b ∧ w0.heap.size ≤ b) (hL : ∀ b, L' b → (L b ∨ w.heap.size ≤ b) ∧ b < w'.heap.size) : LogSt w0 L' w' d K l R ar := by
  obtain ⟨f, lf, h1, h2⟩ := h
  exact ⟨f, lf, h1.step c hT hL, h2⟩
theorem DiskSt.step (h : DiskSt w0 L w d K R) (c : Only T w w') (hT : ∀ b, T b → L b ∧ w0.heap.size ≤ b) (hL : ∀ b, L' b → (L b ∨ w.heap.size ≤ b) ∧ b < w'.heap.size) : DiskSt w0 L' w' d K R := by
  obtain ⟨f, lf, h1, h2⟩ := h
  exact ⟨f, lf, h1.step0 c hT hL, h2⟩
theorem CrSt.step (h : CrSt w0 L w d K R) (c : Only T w w') (hT : ∀ b, T b → L b ∧ w0.heap.size ≤ b) (hL : ∀ b, L' b → (L b ∨ w.heap.size ≤ b) ∧ b < w'.heap.size) : CrSt w0 L' w' d K R := by
  obtain ⟨S, h1, h2⟩ := h
  exact ⟨S, h1.step0 c hT hL, h2⟩
theorem LogSt.inn (h : LogSt w0 L w d K l R ar) : ∀ b, L b → b < w.heap.size := by obtain ⟨f, lf, h1, _⟩ := h; exact h1.inn
theorem LogSt.below (h : LogSt w0 L w d K l R ar) : Below w0.heap.size w0 w := by obtain ⟨f, lf, h1, _⟩ := h; exact h1.below
theorem LogSt.fits (h : LogSt w0 L w d K l R ar) : used R ≤ 2048 := by obtain ⟨f, lf, _, _, h1⟩ := h; exact h1
theorem DiskSt.below (h : DiskSt w0 L w d K R) : Below w0.heap.size w0 w := by obtain ⟨f, lf, h1, _⟩ := h; exact h1.below
theorem DiskSt.inn (h : DiskSt w0 L w d K R) : ∀ b, L b → b < w.heap.size := by obtain ⟨f, lf, ⟨_, _, _, _, h1⟩, _⟩ := h; exact h1
theorem CrSt.below (h : CrSt w0 L w d K R) : Below w0.heap.size w0 w := by obtain ⟨S, h1, _⟩ := h; exact h1.below
theorem CrSt.inn (h : CrSt w0 L w d K R) : ∀ b, L b → b < w.heap.size := by obtain ⟨S, ⟨_, _, _, _, h1⟩, _⟩ := h; exact h1
theorem LogSt.grow (h : LogSt w0 L w d K l R ar) (c : Below w.heap.size w w') : LogSt w0 L w' d K l R ar :=
  h.step (only_of_below c fun _ => False) (fun _ e => e.elim) (fun b hb => ⟨.inl hb, Nat.lt_of_lt_of_le (h.inn b hb) c.size⟩)
theorem DiskSt.grow (h : DiskSt w0 L w d K R) (c : Below w.heap.size w w') : DiskSt w0 L w' d K R :=
  h.step (only_of_below c fun _ => False) (fun _ e => e.elim) (fun b hb => ⟨.inl hb, Nat.lt_of_lt_of_le (h.inn b hb) c.size⟩)
theorem CrSt.grow (h : CrSt w0 L w d K R) (c : Below w.heap.size w w') : CrSt w0 L w' d K R :=
  h.step (only_of_below c fun _ => False) (fun _ e => e.elim) (fun b hb => ⟨.inl hb, Nat.lt_of_lt_of_le (h.inn b hb) c.size⟩)
theorem LogSt.more (h : LogSt w0 L w d K l R ar) {K' : Nat} (hK : K ≤ K') : LogSt w0 L w d K' l R ar := by
  obtain ⟨f, lf, h1, h2⟩ := h
  obtain ⟨B, h3, h4⟩ := h1.ex
  exact ⟨f, lf, ⟨⟨B, h3.more hK, h4⟩, h1.log, h1.out, h1.new, h1.below, h1.inn⟩, h2⟩
theorem CrSt.more (h : CrSt w0 L w d K R) {K' : Nat} (hK : K ≤ K') : CrSt w0 L w d K' R := by
  obtain ⟨S, ⟨B, h3, h4⟩, h2⟩ := h
  exact ⟨S, ⟨B, h3.more hK, h4⟩, h2⟩
theorem DiskSt.more (h : DiskSt w0 L w d K R) {K' : Nat} (hK : K ≤ K') : DiskSt w0 L w d K' R := by
  obtain ⟨f, lf, ⟨B, h3, h4⟩, h2⟩ := h
  exact ⟨f, lf, ⟨B, h3.more hK, h4⟩, h2⟩
theorem LogSt.disk (h : LogSt w0 L w d K l R false) : DiskSt w0 L w d K R := by
  obtain ⟨f, lf, h1, h2, h3⟩ := h
  exact ⟨f, lf, h1.atL, h2.fin h3, h2.opened⟩
theorem LogSt.cr (h : LogSt w0 L w d K l R ar) : CrSt w0 L w d K R := by
  obtain ⟨f, lf, h1, h2, h3⟩ := h
  exact ⟨_, h1.atL, fun mask torn cut => ⟨h2.opened, h2.fin h3⟩⟩
theorem disk_new (hb : Below w0.heap.size w0 w) (hL : ∀ b, L b → b < w.heap.size) : Calls Tryd.prog 11 #[] w fun e w' => ∃ d, e = .returned (.pointer (some ⟨d, 0, none⟩)) ∧ DiskSt w0 L w' d 0 [] ∧ Below w.heap.size w w' :=
  (atL_new hb hL).mono fun _ _ ⟨d, h1, h2, h3⟩ => ⟨d, h1, ⟨_, 0, h2, fun _ _ => rfl, logF_nil.opened⟩, h3⟩
theorem DiskSt.opens (h : DiskSt w0 L w d K R) (hK : K + 2048 < 50000) (hT : Laid w0) :
    Calls Tryd.prog 12 #[.pointer (some ⟨d, 0, none⟩)] w fun x w' => ∃ l v Fs L', x = .returned (.tuple #[.pointer (some ⟨l, 0, none⟩), v, .int .i64 0]) ∧ zsOf Fs = R ∧ LogSt w0 L' w' d (K + 2048) l R false ∧
      (∀ b, L b → L' b) ∧ (∀ b, L' b → L b ∨ w.heap.size ≤ b) ∧ Recs w' w.heap.size (fun b => w.heap.size ≤ b ∧ L' b) v Fs ∧ Kept L w w' := by
  obtain ⟨f, lf, h1, h2, h3⟩ := h
  refine (h1.opens hK h2 hT).mono ?_
  rintro x w' ⟨l, v, Fs, f', L', rfl, G, i1, i2, Rc, O, F, kp⟩
  obtain rfl := O.one h3
  refine ⟨l, v, Fs, L', rfl, rfl, ⟨f', lf, by rw [zsOf_len]; exact G, F, h3.fits h2⟩, i1, i2, Rc, kp⟩
theorem LogSt.puts {s : Sl} (h : LogSt w0 L w d K l R ar) (hK : K + 64 < 50000) (hT : Laid w0) (hs : SlIn w w.heap.size s) :
    Calls Tryd.prog 14 #[.pointer (some ⟨l, 0, none⟩), .slice s.A s.n s.c] w fun x w' => Kept L w w' ∧
     ((x = .returned (.int .i64 2) ∧ 3000 < s.n ∧ LogSt w0 L w' d K l R ar) ∨
      (x = .returned (.int .i64 3) ∧ s.n ≤ 3000 ∧ 2048 < used R + pcs s.n ∧ LogSt w0 L w' d K l R ar) ∨
      (x = .returned (.int .i64 4) ∧ s.n ≤ 3000 ∧ ar = true ∧ CrSt w0 L w' d (K + 64) R) ∨
      (x = .returned (.int .i64 0) ∧ s.n ≤ 3000 ∧ used R + pcs s.n ≤ 2048 ∧ LogSt w0 L w' d (K + pcs s.n) l (R ++ [s.zs]) ar)) := by
  obtain ⟨f, lf, h1, h2, h3⟩ := h
  have hge := used_ge R
  have hl0 := h1.atL.left0
  have hsl := hs.len
  refine (h1.puts hK hT hs (by omega) h3).mono ?_
  rintro x w' ⟨kp, hc⟩
  refine ⟨kp, ?_⟩
  rcases hc with ⟨rfl, c1, c2⟩ | ⟨rfl, c1, c2, c3⟩ | ⟨rfl, c1, c2, c3, c4, c5⟩ | ⟨rfl, c1, c2, c3⟩
  · exact .inl ⟨rfl, c1, f, lf, c2, h2, h3⟩
  · exact .inr (.inl ⟨rfl, c1, c2, f, lf, c3, h2, h3⟩)
  · have hp := pcs_le c1
    obtain ⟨B, D, D2⟩ := c5.atL
    refine .inr (.inr (.inl ⟨rfl, c1, c3, _, ⟨B, D.more (by omega), D2⟩, fun mask torn cut => ?_⟩))
    have hq := cutN_le cut
    have e : (craS mask torn cut ⟨f, putWs (R.length + 1) (used R) s.zs lf.toNat, true, 0, true⟩).f = crashF mask torn (cutN cut) (putWs (R.length + 1) (used R) s.zs lf.toNat) f lf.toNat := by
      unfold craS
      simp only [putWs_len]
    have hl0 : 0 ≤ lf := hl0
    rw [e]
    exact ⟨h2.crashed s.zs (by rw [hsl]; omega) lf.toNat (by rw [hsl]; omega) mask torn _ hq, h2.crashFin s.zs lf.toNat (by omega) mask torn _⟩
  · have hp := pcs_le c1
    have hpu := h2.put s.zs (by rw [hsl]; omega)
    rw [hsl] at hpu
    have c4 : AtG w0 L w' d (K + pcs s.n) ⟨syncF f (putWs (R.length + 1) (used R) s.zs (pcs s.n)), [], ar, lfJ ar lf (pcs s.n), false⟩ l (R ++ [s.zs]).length (used (R ++ [s.zs])) := by
      rw [used_one, hsl, List.length_append]
      exact c3
    exact .inr (.inr (.inr ⟨rfl, c1, c2, _, _, c4, hpu, by rw [used_one, hsl]; exact c2⟩))
theorem LogSt.arms (h : LogSt w0 L w d K l R ar) (n : Int) (h1 : -9223372036854775808 ≤ n) (h2 : n ≤ 9223372036854775807) : Calls Tryd.prog 13 #[.pointer (some ⟨d, 0, none⟩), .int .i64 n] w fun x w' => (∃ v, x = .returned v) ∧ LogSt w0 L w' d K l R true ∧ Kept L w w' := by
  obtain ⟨f, lf, g1, g2⟩ := h
  refine (g1.arms n h1 h2).mono ?_
  rintro x w' ⟨hx, g3, kp⟩
  exact ⟨hx, ⟨f, _, g3, g2⟩, kp⟩
theorem CrSt.crash (h : CrSt w0 L w d K R) (hK : K < 50000) (mask torn cut : Int) (l1 : -9223372036854775808 ≤ mask) (u1 : mask ≤ 9223372036854775807) (l2 : -9223372036854775808 ≤ torn) (u2 : torn ≤ 9223372036854775807) (l3 : -9223372036854775808 ≤ cut) (u3 : cut ≤ 9223372036854775807) :
    Calls Tryd.prog 15 #[.pointer (some ⟨d, 0, none⟩), .int .i64 mask, .int .i64 torn, .int .i64 cut] w fun x w' => (∃ v, x = .returned v) ∧ DiskSt w0 L w' d K R ∧ Kept L w w' := by
  obtain ⟨S, h1, h2⟩ := h
  refine (h1.crash hK mask torn cut l1 u1 l2 u2 l3 u3).mono ?_
  rintro x w' ⟨hx, h3, kp⟩
  exact ⟨hx, ⟨(craS mask torn cut S).f, S.left, h3, (h2 mask torn cut).2, (h2 mask torn cut).1⟩, kp⟩
end
end Go.Proofs.YtccdifplpbnclaaDoor
