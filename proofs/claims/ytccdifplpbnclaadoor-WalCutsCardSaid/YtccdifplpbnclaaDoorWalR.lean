/- Records in memory: slices of slices of bytes. -/
import Derived.Test.YtccdifplpbnclaaDoorWalW
import Derived.Test.YtccdifplpbnclaaDoorOpenB
namespace Go.Proofs.YtccdifplpbnclaaDoor
open Go.RowKit Go.Maps

abbrev slV (s : Sl) : Value := .slice s.A s.n s.c
theorem slV_one (Fs : List Sl) : ∀ v ∈ Fs.map slV, v.oneCell' = true := by
  intro v hv
  obtain ⟨s, _, rfl⟩ := List.mem_map.1 hv
  rfl
def zsOf (Fs : List Sl) : List (List Int) := Fs.map Sl.zs
theorem zsOf_len (Fs : List Sl) : (zsOf Fs).length = Fs.length := by simp [zsOf]
theorem zsOf_snoc (Fs : List Sl) (s : Sl) : zsOf (Fs ++ [s]) = zsOf Fs ++ [s.zs] := by simp [zsOf]
/-- Such slices are read from here, outside of some blocks. -/
structure SlOk (w : World) (Q : Nat → Prop) (s : Sl) : Prop where
  in_ : SlIn w w.heap.size s
  at_ : 0 < s.n → ∀ ad, s.A = some ad → Q ad.block
theorem SlOk.only {w w' : World} {Q T : Nat → Prop} {s : Sl} (h : SlOk w Q s) (k : Only T w w') (hQ : ∀ b, b < w.heap.size → Q b → ¬ T b) : SlOk w' Q s :=
  ⟨⟨(reads_only h.in_.reads k (Nat.le_refl _) (fun h0 ad ha hb => hQ _ hb (h.at_ h0 ad ha))).more k.size, h.in_.n_le, h.in_.c_le, h.in_.wf⟩, h.at_⟩
theorem SlOk.mono {w : World} {Q Q' : Nat → Prop} {s : Sl} (h : SlOk w Q s) (hQ : ∀ b, b < w.heap.size → Q b → Q' b) : SlOk w Q' s :=
  ⟨h.in_, fun h0 ad ha => by
    obtain ⟨ad', e, hb, _⟩ := h.in_.reads.2 h0
    rw [ha] at e
    injection e with e
    subst e
    exact hQ _ hb (h.at_ h0 ad ha)⟩
/-- A slice of slices that is owned. -/
structure Recs (w : World) (base : Nat) (Q : Nat → Prop) (v : Value) (Fs : List Sl) : Prop where
  own : w.ownsRow base 33 1 v Fs.length (Fs.map slV)
  at_ : ∀ g, v.ownBlock = some g → Q g
  each : ∀ s ∈ Fs, SlOk w Q s
  sep : ∀ s ∈ Fs, 0 < s.n → ∀ ad, s.A = some ad → v.ownBlock ≠ some ad.block
theorem own_lt {w : World} {base n size : Nat} {e : TypeId} {v : Value} {xs : List Value} (h : w.ownsRow base e size v n xs) : ∀ g, v.ownBlock = some g → g < w.heap.size := by
  intro g hg
  rcases h.2 with ⟨rfl, _⟩ | ⟨g', cap, cur, rfl, _, hh, _⟩
  · simp [Value.ownBlock] at hg
  · have : g' = g := by simpa [Value.ownBlock] using hg
    subst this
    exact (Array.getElem?_eq_some_iff.1 hh).1
section
variable {w w' : World} {base : Nat} {Q Q' T : Nat → Prop} {v : Value} {Fs : List Sl}
theorem Recs.nil (w : World) (base : Nat) (Q : Nat → Prop) : Recs w base Q (.slice none 0 0) [] := ⟨World.ownsRow_nil _ _ _ _, fun g hg => by simp [Value.ownBlock] at hg, by simp, by simp⟩
theorem Recs.only (h : Recs w base Q v Fs) (k : Only T w w') (hQ : ∀ b, b < w.heap.size → Q b → ¬ T b) : Recs w' base Q v Fs :=
  ⟨own_only h.own k (fun g hg => hQ g (own_lt h.own g hg) (h.at_ g hg)), h.at_, fun s hs => (h.each s hs).only k hQ, h.sep⟩
theorem Recs.below (h : Recs w base Q v Fs) (k : Below w.heap.size w w') : Recs w' base Q v Fs := h.only (only_of_below k fun _ => False) (fun _ _ _ e => e)
theorem Recs.mono (h : Recs w base Q v Fs) (hQ : ∀ b, b < w.heap.size → Q b → Q' b) : Recs w base Q' v Fs :=
  ⟨h.own, fun g hg => hQ g (own_lt h.own g hg) (h.at_ g hg), fun s hs => (h.each s hs).mono hQ, h.sep⟩
theorem Recs.form (h : Recs w base Q v Fs) : ∃ A c, v = .slice A Fs.length c ∧ Fs.length ≤ c ∧ c ≤ maxLen := own_form h.own
end
theorem only_grown {w w' : World} {row : Option Nat} (h : w.grownBy w' row) : Only (fun b => row = some b) w w' := (Only.refl _ w).grown h fun _ e => .inl e
theorem Tryd.infoSl : (Tryd.prog.info? 33).map (fun i => (i.zero, i.size, i.bytes)) = some (some (.slice none 0 0), 1, 24) := by kernel_rfl
/-! append of a slice of bytes, as a function of the world -/
def appLF (x : Array Value) : Sem Value := Builtin.append_ #[22, 22] 22 x
theorem appLF_fold (x : Array Value) : Builtin.append_ #[22, 22] 22 x = appLF x := rfl
def HasAppL (w : World) (v x : Value) : Prop := ∃ p : Value × World, (appLF #[v, x]).run Tryd.prog w = .ok p.1 p.2
open Classical in
noncomputable def appLP (w : World) (v x : Value) : Value × World := if h : HasAppL w v x then Classical.choose h else (v, w)
theorem appLF_has {w : World} {v x : Value} (h : HasAppL w v x) : (appLF #[v, x]).run Tryd.prog w = .ok (appLP w v x).1 (appLP w v x).2 := by
  unfold appLP
  rw [dif_pos h]
  exact Classical.choose_spec h
theorem appL_any {w : World} {base n : Nat} {v : Value} {xs : List Value} (hown : w.ownsRow base 33 1 v n xs) {B : Nat} {A : Option Addr} {m c : Nat} {us : List Value} (hr : Reads w B 1 A m us) (ho : ∀ u ∈ us, u.oneCell' = true) (h1 : n + m ≤ 100000) (hb : base ≤ w.heap.size) :
    HasAppL w v (.slice A m c) ∧ ∀ p, appLP w v (.slice A m c) = p → p.2.ownsRow base 33 1 p.1 (n + m) (xs ++ us) ∧ w.grownBy p.2 v.ownBlock ∧ (p.1.ownBlock = v.ownBlock ∨ p.1.ownBlock = some w.heap.size) := by
  obtain ⟨i, hi, hz, hsz, hby⟩ := info_parts Tryd.infoSl
  obtain ⟨v', w', hrun, h2, h3, h4⟩ := run_append_any (P := Tryd.prog) w base 22 22 33 i _ 1 24 Tryd.underlying22 hi hz hsz hby rfl (by decide) v n xs hown B A m c us hr ho (by unfold maxLen; omega) (by omega) hb
  have hh : HasAppL w v (.slice A m c) := ⟨(v', w'), hrun⟩
  refine ⟨hh, ?_⟩
  rintro p rfl
  have e := (appLF_has hh).symm.trans (show (appLF #[v, .slice A m c]).run Tryd.prog w = .ok v' w' from hrun)
  generalize appLP w v (.slice A m c) = p at e
  obtain ⟨a, w2⟩ := p
  simp only [Result.ok.injEq] at e
  obtain ⟨rfl, rfl⟩ := e
  exact ⟨h2, h3, h4⟩
/-- One more behind. -/
theorem Recs.snoc {w w' : World} {base : Nat} {Q : Nat → Prop} {v v' : Value} {Fs : List Sl} {s : Sl} (h : Recs w base Q v Fs) (hs : SlOk w Q s) (hown : w'.ownsRow base 33 1 v' (Fs.length + 1) (Fs.map slV ++ [slV s])) (hg : w.grownBy w' v.ownBlock)
    (hb : v'.ownBlock = v.ownBlock ∨ v'.ownBlock = some w.heap.size) (hQ : Q w.heap.size) (hne : 0 < s.n → ∀ ad, s.A = some ad → v.ownBlock ≠ some ad.block) : Recs w' base Q v' (Fs ++ [s]) := by
  have k := only_grown hg
  have keep : ∀ t, SlOk w Q t → (0 < t.n → ∀ ad, t.A = some ad → v.ownBlock ≠ some ad.block) → SlOk w' Q t ∧ (0 < t.n → ∀ ad, t.A = some ad → v'.ownBlock ≠ some ad.block) := fun t h' hn =>
    ⟨⟨⟨(reads_only h'.in_.reads k (Nat.le_refl _) (fun h0 ad ha _ => hn h0 ad ha)).more k.size, h'.in_.n_le, h'.in_.c_le, h'.in_.wf⟩, h'.at_⟩, fun h0 ad ha => by
      rcases hb with hb | hb
      · rw [hb]; exact hn h0 ad ha
      · rw [hb]
        obtain ⟨ad', e, hlt, _⟩ := h'.in_.reads.2 h0
        rw [ha] at e
        injection e with e
        subst e
        intro e
        injection e with e
        omega⟩
  have all : ∀ t ∈ Fs ++ [s], SlOk w' Q t ∧ (0 < t.n → ∀ ad, t.A = some ad → v'.ownBlock ≠ some ad.block) := fun t ht => by
    rcases List.mem_append.1 ht with ht | ht
    · exact keep t (h.each t ht) (h.sep t ht)
    · obtain rfl := List.mem_singleton.1 ht
      exact keep t hs hne
  refine ⟨by rw [List.length_append, List.map_append]; exact hown, fun g hg => ?_, fun t ht => (all t ht).1, fun t ht => (all t ht).2⟩
  rcases hb with hb | hb
  · exact h.at_ g (by rw [← hb]; exact hg)
  · rw [hb] at hg; injection hg with hg; rw [← hg]; exact hQ
end Go.Proofs.YtccdifplpbnclaaDoor
