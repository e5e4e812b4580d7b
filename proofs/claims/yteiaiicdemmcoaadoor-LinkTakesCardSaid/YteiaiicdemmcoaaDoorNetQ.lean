/- A network in memory; New. -/
import Derived.Test.YteiaiicdemmcoaaDoorBoxT
import Derived.Deep.RegionWith
namespace Go.Proofs.YteiaiicdemmcoaaDoor
open Go.RowKit Go.Conc

/-- A function but for one place. -/
def upd {α : Type} (f : Nat → α) (k : Nat) (x : α) : Nat → α := fun l => if l = k then x else f l
theorem upd_at {α : Type} (f : Nat → α) (k : Nat) (x : α) : upd f k x k = x := if_pos rfl
theorem upd_ne {α : Type} (f : Nat → α) {k l : Nat} (x : α) (h : l ≠ k) : upd f k x l = f l := if_neg h
theorem upd_upd {α : Type} (f : Nat → α) (k : Nat) (x y : α) : upd (upd f k x) k y = upd f k y := by
  funext l
  unfold upd
  split <;> rfl
/-- What behind a call of one box stays of another one. -/
theorem BoxAt.chan_ {w w' : World} {Q : Nat → Prop} {p c c' N N' : Nat} {Fs : List Sl} {vs : List Value} (h : BoxAt w Q p c N Fs) (hc : ChanIs w c' N' vs) (hne : c ≠ c') (k : Only (· = c') w w') : BoxAt w' Q p c N Fs :=
  ⟨h.ptr.only k (hc.ne h.ptr), h.chan.only k hne, h.le, fun s hs => (h.each s hs).chan hc k⟩
/-- The cell of a way, of which the first so many are there; no way leads from one to itself. -/
def wayV (P : Nat → Nat) (k l : Nat) : Value := if l < k ∧ l % 6 ≠ 0 then .pointer (some ⟨P l, 0, none⟩) else .pointer none
def netV (P : Nat → Nat) (k : Nat) : List Value := (List.range 25).map (wayV P k)
theorem netV_length (P : Nat → Nat) (k : Nat) : (netV P k).length = 25 := by simp [netV]
theorem netV_at (P : Nat → Nat) (k : Nat) {l : Nat} (h : l < 25) : (netV P k)[l]? = some (wayV P k l) := by simp [netV, h]
theorem netV_one (P : Nat → Nat) (k : Nat) : ∀ v ∈ netV P k, v.oneCell' = true := by
  intro v hv
  obtain ⟨l, _, rfl⟩ := List.mem_map.1 hv
  unfold wayV
  split <;> rfl
theorem netV_zero (P : Nat → Nat) : netV P 0 = List.replicate 25 (.pointer none) := by
  rfl
theorem netV_skip (P : Nat → Nat) {k : Nat} (h : k % 6 = 0) : netV P (k + 1) = netV P k := by
  unfold netV
  apply List.map_congr_left
  intro l _
  unfold wayV
  by_cases e : l < k ∧ l % 6 ≠ 0
  · rw [if_pos e, if_pos ⟨by omega, e.2⟩]
  · rw [if_neg e, if_neg (by rintro ⟨h1, h2⟩; exact e ⟨by have : l ≠ k := by rintro rfl; exact h2 h
                                                          omega, h2⟩)]
theorem netV_set (P : Nat → Nat) {k p : Nat} (h : k % 6 ≠ 0) : (netV P k).set k (.pointer (some ⟨p, 0, none⟩)) = netV (upd P k p) (k + 1) := by
  apply List.ext_getElem
  · simp [netV]
  · intro l h1 h2
    have hl : l < 25 := by simpa [netV] using h1
    rw [List.getElem_set]
    simp only [netV, List.getElem_map, List.getElem_range]
    by_cases e : k = l
    · subst e
      rw [if_pos rfl]
      unfold wayV
      rw [if_pos ⟨by omega, h⟩, upd_at]
    · rw [if_neg e]
      unfold wayV
      rw [upd_ne _ _ (Ne.symm e)]
      by_cases e2 : l < k ∧ l % 6 ≠ 0
      · rw [if_pos e2, if_pos ⟨by omega, e2.2⟩]
      · rw [if_neg e2, if_neg (by rintro ⟨h1, h2⟩; exact e2 ⟨by omega, h2⟩)]
/-- A network: its block, and of the first so many ways the boxes. -/
structure NetAt (w : World) (Q : Nat → Prop) (B b : Nat) (P C : Nat → Nat) (k : Nat) (Fs : Nat → List Sl) : Prop where
  blk : VBlk w b 49 (netV P k)
  box : ∀ l, l < k → l % 6 ≠ 0 → BoxAt w Q (P l) (C l) 8 (Fs l)
  low : ∀ l, l < k → l % 6 ≠ 0 → B ≤ C l
  one : ∀ l m, l < k → m < k → l % 6 ≠ 0 → m % 6 ≠ 0 → C l = C m → l = m
section
variable {w w' : World} {Q T : Nat → Prop} {B b k : Nat} {P C : Nat → Nat} {Fs : Nat → List Sl}
theorem NetAt.below (h : NetAt w Q B b P C k Fs) (hb : Below w.heap.size w w') : NetAt w' Q B b P C k Fs :=
  ⟨h.blk.below hb h.blk.lt, fun l hl hd => (h.box l hl hd).below hb, h.low, h.one⟩
theorem NetAt.drewN (h : NetAt w Q B b P C k Fs) (n : Nat) : NetAt (w.drewN n) Q B b P C k Fs := ⟨h.blk, fun l hl hd => (h.box l hl hd).drewN n, h.low, h.one⟩
theorem NetAt.drew (h : NetAt w Q B b P C k Fs) : NetAt w.drew Q B b P C k Fs := h.drewN 1
theorem NetAt.only (h : NetAt w Q B b P C k Fs) (hk : Only T w w') (hb : ¬ T b) (hp : ∀ l, l < k → l % 6 ≠ 0 → ¬ T (P l)) (hc : ∀ l, l < k → l % 6 ≠ 0 → ¬ T (C l)) (hQ : ∀ b, b < w.heap.size → Q b → ¬ T b) : NetAt w' Q B b P C k Fs :=
  ⟨h.blk.only hk hb, fun l hl hd => (h.box l hl hd).only hk (hp l hl hd) (hc l hl hd) hQ, h.low, h.one⟩
theorem NetAt.skip (h : NetAt w Q B b P C k Fs) (hk : k % 6 = 0) : NetAt w Q B b P C (k + 1) Fs :=
  have hs : ∀ l, l < k + 1 → l % 6 ≠ 0 → l < k := fun l h1 h2 => by
    have : l ≠ k := by rintro rfl; exact h2 hk
    omega
  ⟨by rw [netV_skip P hk]; exact h.blk, fun l hl hd => h.box l (hs l hl hd) hd, fun l hl hd => h.low l (hs l hl hd) hd, fun l m hl hm hd he => h.one l m (hs l hl hd) (hs m hm he) hd he⟩
theorem NetAt.lower {B' : Nat} (h : NetAt w Q B b P C k Fs) (hB : B' ≤ B) : NetAt w Q B' b P C k Fs := ⟨h.blk, h.box, fun l hl hd => Nat.le_trans hB (h.low l hl hd), h.one⟩
/-- A new way. -/
theorem NetAt.grow {p c : Nat} (h : NetAt w Q B b P C k fun _ => []) (hb : Below w.heap.size w w') (hx : BoxAt w' Q p c 8 []) (hcl : w.heap.size ≤ c) (hB : B ≤ w.heap.size) (hk : k % 6 ≠ 0) :
    NetAt (w'.setCell ⟨b, k, none⟩ (.pointer (some ⟨p, 0, none⟩))) Q B b (upd P k p) (upd C k c) (k + 1) fun _ => [] := by
  have hblk := h.blk.below hb h.blk.lt
  have k1 := only_cell w' b k (.pointer (some ⟨p, 0, none⟩))
  have hk' : ∀ l, l < k + 1 → l ≠ k → l < k := fun l h1 h2 => by omega
  have hne : ∀ {p' c' : Nat}, BoxAt w' Q p' c' 8 [] → BoxAt (w'.setCell ⟨b, k, none⟩ (.pointer (some ⟨p, 0, none⟩))) Q p' c' 8 [] := fun g =>
    ⟨g.ptr.only k1 (Blk.ne_ g.ptr.blk hblk.blk (by decide)), g.chan.only k1 (fun e => g.chan.ne hblk e.symm), g.le, by simp⟩
  refine ⟨?_, fun l hl hd => ?_, fun l hl hd => ?_, fun l m hl hm hd he e => ?_⟩
  · rw [← netV_set P hk]
    exact hblk.set k _
  · by_cases e : l = k
    · subst e
      rw [upd_at, upd_at]
      exact hne hx
    · rw [upd_ne _ _ e, upd_ne _ _ e]
      exact hne ((h.box l (hk' l hl e) hd).below hb)
  · by_cases e : l = k
    · subst e
      rw [upd_at]
      omega
    · rw [upd_ne _ _ e]
      exact h.low l (hk' l hl e) hd
  · by_cases e1 : l = k
    · by_cases e2 : m = k
      · omega
      · subst e1
        rw [upd_at, upd_ne _ _ e2] at e
        have := (h.box m (hk' m hm e2) he).chan.lt
        omega
    · by_cases e2 : m = k
      · subst e2
        rw [upd_at, upd_ne _ _ e1] at e
        have := (h.box l (hk' l hl e1) hd).chan.lt
        omega
      · rw [upd_ne _ _ e1, upd_ne _ _ e2] at e
        exact h.one l m (hk' l hl e1) (hk' m hm e2) hd he e
/-- What behind a call of one way's box is there. -/
theorem NetAt.turn {Gs : List Sl} {l : Nat} (h : NetAt w Q B b P C k Fs) (hl : l < k) (hd : l % 6 ≠ 0) (hx : BoxAt w' Q (P l) (C l) 8 Gs) (k1 : Only (· = C l) w w') : NetAt w' Q B b P C k (upd Fs l Gs) := by
  have hc := (h.box l hl hd).chan
  refine ⟨h.blk.only k1 (hc.ne h.blk), fun m hm he => ?_, h.low, h.one⟩
  by_cases e : m = l
  · subst e
    rw [upd_at]
    exact hx
  · rw [upd_ne _ _ e]
    exact (h.box m hm he).chan_ hc (fun e' => e (h.one m l hm hl he hd e')) k1
end
end Go.Proofs.YteiaiicdemmcoaaDoor
