/- Slices of strings that a law makes. -/
import Derived.Test.YthbgmcbhldhejaaStrB
import Derived.Test.YthbgmcbhldhejaaBoxQ
namespace Go.Proofs.Ythbgmcbhldhejaa
open Go.RowKit

abbrev stV (zs : List Int) : Value := .string (strOfNums zs)
theorem stV_one (M : List (List Int)) : ∀ u ∈ M.map stV, u.oneCell' = true := by
  intro u hu
  obtain ⟨z, _, rfl⟩ := List.mem_map.1 hu
  rfl
theorem Try.infoStr : (Try.prog.info? 9).map (fun i => (i.zero, i.size, i.bytes)) = some (some (.string ByteArray.empty), 1, 16) := by kernel_rfl
/-- Strings that a slice of the law's own holds. -/
def StrO (w : World) (base : Nat) (v : Value) (M : List (List Int)) : Prop := w.ownsRow base 9 1 v M.length (M.map stV)
/-- Strings that are read. -/
def StrL (w : World) (A : Option Addr) (n : Nat) (M : List (List Int)) : Prop := Reads w w.heap.size 1 A n (M.map stV)
theorem StrL.len {w : World} {A : Option Addr} {n : Nat} {M : List (List Int)} (h : StrL w A n M) : M.length = n := by have := h.1; simpa using this
theorem StrO.read {w : World} {base : Nat} {v : Value} {M : List (List Int)} (h : StrO w base v M) : ∃ A c, v = .slice A M.length c ∧ M.length ≤ c ∧ c ≤ maxLen ∧ StrL w A M.length M := by
  obtain ⟨A, c, rfl, h1, h2⟩ := own_form h
  exact ⟨A, c, rfl, h1, h2, Reads.of_own h⟩
theorem StrO.nil (w : World) (base : Nat) : StrO w base (.slice none 0 0) [] := World.ownsRow_nil _ _ _ _
theorem StrO.only {w w' : World} {base : Nat} {v : Value} {M : List (List Int)} {S : Nat → Prop} (h : StrO w base v M) (k : Only S w w') (hn : ∀ g, v.ownBlock = some g → ¬ S g) : StrO w' base v M := own_only h k hn
theorem StrO.below {w w' : World} {base : Nat} {v : Value} {M : List (List Int)} (h : StrO w base v M) (k : Below w.heap.size w w') : StrO w' base v M := h.only (only_of_below k fun _ => False) (fun _ _ e => e)
theorem StrL.below {w w' : World} {A : Option Addr} {n : Nat} {M : List (List Int)} (h : StrL w A n M) (k : Below w.heap.size w w') : StrL w' A n M := (Reads.below h k).more k.size
/-- The cell of one of them. -/
theorem StrL.at_ {w : World} {A : Option Addr} {n : Nat} {M : List (List Int)} (h : StrL w A n M) (hn : 0 < n) : ∃ b off, A = some ⟨b, off, none⟩ ∧ b < w.heap.size ∧ ∀ i (hi : i < M.length), w.cell? ⟨b, off + i, none⟩ = some (stV M[i]) := by
  obtain ⟨b, off, e, hb, hc⟩ := Reads.plain h hn
  exact ⟨b, off, e, hb, fun i hi => hc i _ (by simp [hi])⟩
/-! ### append of strings, as a function of the world -/
def appTF (x : Array Value) : Sem Value := Builtin.append_ #[26, 26] 26 x
theorem appTF_fold (x : Array Value) : Builtin.append_ #[26, 26] 26 x = appTF x := rfl
def HasAppT (w : World) (v x : Value) : Prop := ∃ p : Value × World, (appTF #[v, x]).run Try.prog w = .ok p.1 p.2
open Classical in
noncomputable def appTP (w : World) (v x : Value) : Value × World := if h : HasAppT w v x then Classical.choose h else (v, w)
theorem appTF_has {w : World} {v x : Value} (h : HasAppT w v x) : (appTF #[v, x]).run Try.prog w = .ok (appTP w v x).1 (appTP w v x).2 := by
  unfold appTP
  rw [dif_pos h]
  exact Classical.choose_spec h
theorem appT_any {w : World} {base n : Nat} {v : Value} {xs : List Value} (hown : w.ownsRow base 9 1 v n xs) {B : Nat} {A : Option Addr} {m c : Nat} {us : List Value} (hr : Reads w B 1 A m us) (ho : ∀ u ∈ us, u.oneCell' = true) (h1 : n + m ≤ 100000) (hb : base ≤ w.heap.size) :
    HasAppT w v (.slice A m c) ∧ ∀ p, appTP w v (.slice A m c) = p → p.2.ownsRow base 9 1 p.1 (n + m) (xs ++ us) ∧ w.grownBy p.2 v.ownBlock ∧ (p.1.ownBlock = v.ownBlock ∨ p.1.ownBlock = some w.heap.size) := by
  obtain ⟨i, hi, hz, hsz, hby⟩ := info_parts Try.infoStr
  obtain ⟨v', w', hrun, h2, h3, h4⟩ := run_append_any (P := Try.prog) w base 26 26 9 i _ 1 16 Try.underlying26 hi hz hsz hby rfl (by decide) v n xs hown B A m c us hr ho (by unfold maxLen; omega) (by omega) hb
  have hh : HasAppT w v (.slice A m c) := ⟨(v', w'), hrun⟩
  refine ⟨hh, ?_⟩
  rintro p rfl
  have e := (appTF_has hh).symm.trans (show (appTF #[v, .slice A m c]).run Try.prog w = .ok v' w' from hrun)
  generalize appTP w v (.slice A m c) = p at e
  obtain ⟨a, w2⟩ := p
  simp only [Result.ok.injEq] at e
  obtain ⟨rfl, rfl⟩ := e
  exact ⟨h2, h3, h4⟩
/-- One string more behind those. -/
theorem appT_snoc {w : World} {base : Nat} {v : Value} {M : List (List Int)} (h : StrO w base v M) (zs : List Int) (hl : M.length ≤ 90000) (hb : base ≤ w.heap.size) :
    HasAppT (w.alloc (.cells #[stV zs] 9)) v (.slice (some ⟨w.heap.size, 0, none⟩) 1 1) ∧ ∀ p, appTP (w.alloc (.cells #[stV zs] 9)) v (.slice (some ⟨w.heap.size, 0, none⟩) 1 1) = p →
      StrO p.2 base p.1 (M ++ [zs]) ∧ Only (fun b => v.ownBlock = some b) w p.2 ∧ (p.1.ownBlock = v.ownBlock ∨ p.1.ownBlock = some (w.heap.size + 1)) := by
  have B1 := (Below.refl w.heap.size w).alloc (Nat.le_refl _) (.cells #[stV zs] 9)
  obtain ⟨h1, h2⟩ := appT_any (c := 1) (h.below B1) (reads_one w (stV zs) 9) (by intro u hu; simp at hu; subst hu; rfl) (by omega) (by simp; omega)
  refine ⟨h1, fun p hp => ?_⟩
  obtain ⟨p1, p2, p3⟩ := h2 p hp
  refine ⟨?_, ?_, by simpa using p3⟩
  · unfold StrO
    rw [List.length_append, List.map_append]
    exact p1
  · exact (only_of_below B1 _).trans (only_grown p2) fun i e => .inl e
/-- Strings are laid anew, behind none. -/
theorem appT_nil {w : World} {A : Option Addr} {n c B : Nat} {M : List (List Int)} (h : Reads w B 1 A n (M.map stV)) (hl : n ≤ 90000) :
    HasAppT w (.slice none 0 0) (.slice A n c) ∧ ∀ p, appTP w (.slice none 0 0) (.slice A n c) = p → StrO p.2 w.heap.size p.1 M ∧ Below w.heap.size w p.2 := by
  have hlen : M.length = n := by have := h.1; simpa using this
  obtain ⟨h1, h2⟩ := appT_any (w := w) (base := w.heap.size) (World.ownsRow_nil _ _ _ _) (c := c) h (stV_one M) (by omega) (Nat.le_refl _)
  refine ⟨h1, fun p hp => ?_⟩
  obtain ⟨p1, p2, p3⟩ := h2 p hp
  refine ⟨?_, (Below.refl _ _).grown p2 (Nat.le_refl _) (fun k e => by simp [Value.ownBlock] at e)⟩
  rw [Nat.zero_add, List.nil_append] at p1
  unfold StrO
  rw [hlen]
  exact p1
/-- A string that lies somewhere more behind those. -/
theorem appT_cell {w : World} {base g : Nat} {v : Value} {M : List (List Int)} (h : StrO w base v M) (zs : List Int) (hg : w.cell? ⟨g, 0, none⟩ = some (stV zs)) (hl : M.length ≤ 90000) (hb : base ≤ w.heap.size) :
    HasAppT w v (.slice (some ⟨g, 0, none⟩) 1 1) ∧ ∀ p, appTP w v (.slice (some ⟨g, 0, none⟩) 1 1) = p → StrO p.2 base p.1 (M ++ [zs]) ∧ Only (fun b => v.ownBlock = some b) w p.2 := by
  have hr : Reads w (g + 1) 1 (some ⟨g, 0, none⟩) 1 [stV zs] := ⟨rfl, fun _ => ⟨_, rfl, Nat.lt_succ_self g, fun j u hu => by
    cases j with
    | zero => simp at hu; subst hu; exact hg
    | succ j => simp at hu⟩⟩
  obtain ⟨h1, h2⟩ := appT_any (c := 1) h hr (by intro u hu; simp at hu; subst hu; rfl) (by omega) hb
  refine ⟨h1, fun p hp => ?_⟩
  obtain ⟨p1, p2, p3⟩ := h2 p hp
  refine ⟨?_, only_grown p2⟩
  unfold StrO
  rw [List.length_append, List.map_append]
  exact p1
/-- Strings laid anew, and one behind them, whichever is made first. -/
theorem appT_two {w : World} {A : Option Addr} {n c B : Nat} {M : List (List Int)} (h : Reads w B 1 A n (M.map stV)) (hB : B ≤ w.heap.size) (hl : n ≤ 1000) (zs : List Int) :
    ∃ v1 w1 v2 w2 v3 w3 v4 w4,
      (HasAppT w.drew (.slice none 0 0) (.slice A n c) ∧ appTP w.drew (.slice none 0 0) (.slice A n c) = (v1, w1)) ∧
      (HasAppT (w1.alloc (.cells #[stV zs] 9)) v1 (.slice (some ⟨w1.heap.size, 0, none⟩) 1 1) ∧ appTP (w1.alloc (.cells #[stV zs] 9)) v1 (.slice (some ⟨w1.heap.size, 0, none⟩) 1 1) = (v2, w2)) ∧
      (HasAppT (w.alloc (.cells #[stV zs] 9)).drew (.slice none 0 0) (.slice A n c) ∧ appTP (w.alloc (.cells #[stV zs] 9)).drew (.slice none 0 0) (.slice A n c) = (v3, w3)) ∧
      (HasAppT w3 v3 (.slice (some ⟨w.heap.size, 0, none⟩) 1 1) ∧ appTP w3 v3 (.slice (some ⟨w.heap.size, 0, none⟩) 1 1) = (v4, w4)) ∧
      (Below w.heap.size w w1 ∧ Below w.heap.size w w3) ∧
      Hid ((StrO w2 w.heap.size v2 (M ++ [zs]) ∧ Below w.heap.size w w2) ∧ (StrO w4 w.heap.size v4 (M ++ [zs]) ∧ Below w.heap.size w w4)) := by
  have hlen : M.length = n := by have := h.1; simpa using this
  obtain ⟨a1, a2⟩ := appT_nil (w := w.drew) (c := c) h.drew (by omega)
  generalize appTP w.drew (.slice none 0 0) (.slice A n c) = p1 at a2
  obtain ⟨v1, w1⟩ := p1
  obtain ⟨s1, b1⟩ := a2 _ rfl
  have b1 : Below w.heap.size w w1 := Below.undrew b1
  have s1 : StrO w1 w.heap.size v1 M := s1
  obtain ⟨a3, a4⟩ := appT_snoc s1 zs (by omega) b1.size
  generalize hp2 : appTP (w1.alloc (.cells #[stV zs] 9)) v1 (.slice (some ⟨w1.heap.size, 0, none⟩) 1 1) = p2 at a4
  obtain ⟨v2, w2⟩ := p2
  obtain ⟨s2, b2, _⟩ := a4 _ rfl
  have b2 := below_only b1 b2 (own_base s1) b1.size
  have hba : Below w.heap.size w (w.alloc (.cells #[stV zs] 9)).drew := Below.drewR ((Below.refl w.heap.size w).alloc (Nat.le_refl _) _)
  have hsz : (w.alloc (.cells #[stV zs] 9)).drew.heap.size = w.heap.size + 1 := by simp
  obtain ⟨a5, a6⟩ := appT_nil (w := (w.alloc (.cells #[stV zs] 9)).drew) (c := c) ((h.alloc hB _).drew) (by omega)
  generalize appTP (w.alloc (.cells #[stV zs] 9)).drew (.slice none 0 0) (.slice A n c) = p3 at a6
  obtain ⟨v3, w3⟩ := p3
  obtain ⟨s3, b3⟩ := a6 _ rfl
  have hc3 : w3.cell? ⟨w.heap.size, 0, none⟩ = some (stV zs) := by
    rw [b3.cell (p := ⟨w.heap.size, 0, none⟩) (by rw [hsz]; exact Nat.lt_succ_self _)]
    show (w.alloc (.cells #[stV zs] 9)).cell? ⟨w.heap.size, 0, none⟩ = _
    rw [World.cell?_alloc_at _ _ _ _ rfl]
    rfl
  obtain ⟨a7, a8⟩ := appT_cell s3 zs hc3 (by omega) b3.size
  generalize hp4 : appTP w3 v3 (.slice (some ⟨w.heap.size, 0, none⟩) 1 1) = p4 at a8
  obtain ⟨v4, w4⟩ := p4
  obtain ⟨s4, k4⟩ := a8 _ rfl
  have b3' : Below w.heap.size w w3 := hba.trans (b3.mono (by rw [hsz]; exact Nat.le_succ _))
  have b4 := below_only b3' k4 (fun i e => by have := own_base s3 i e; omega) b3'.size
  have s4 : StrO w4 w.heap.size v4 (M ++ [zs]) := ⟨s4.1, s4.2.elim .inl fun ⟨g, cap, cur, e, hg, r⟩ => .inr ⟨g, cap, cur, e, by omega, r⟩⟩
  exact ⟨v1, w1, v2, w2, v3, w3, v4, w4, ⟨a1, rfl⟩, ⟨a3, hp2⟩, ⟨a5, rfl⟩, ⟨a7, hp4⟩, ⟨b1, b3'⟩, ⟨⟨s2, b2⟩, ⟨s4, b4⟩⟩⟩
/-- Outside of a slice's own block. -/
def apartV (v : Value) (b : Nat) : Prop := v.ownBlock ≠ some b
theorem BoxAt.app {w w5 : World} {base p c N : Nat} {Fs : List Sl} {v v' : Value} {M : List (List Int)} (h : BoxAt w (apartV v) p c N Fs) (ho : StrO w base v M) (k : Only (fun b => v.ownBlock = some b) w w5)
    (hv : v'.ownBlock = v.ownBlock ∨ v'.ownBlock = some (w.heap.size + 1)) : BoxAt w5 (apartV v') p c N Fs := by
  refine (h.lim.only k (own_blk_ne ho h.ptr.blk (by decide)) (fun e => own_noChan ho h.chan c e rfl) (fun b _ hq => hq.1)).mono fun b hb hq => ?_
  unfold apartV at *
  rcases hv with e | e
  · rw [e]; exact hq.1
  · rw [e]; intro e'; injection e' with e'; have := hq.2; omega
end Go.Proofs.Ythbgmcbhldhejaa
