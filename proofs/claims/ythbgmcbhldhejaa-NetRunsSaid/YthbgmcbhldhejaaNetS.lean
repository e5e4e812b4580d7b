/- Law 9's own table of strings, beside a network. -/
import Derived.Test.YthbgmcbhldhejaaCall09
namespace Go.Proofs.Ythbgmcbhldhejaa
open Go.RowKit Go.Conc

def tabV (V : Nat → Value) : List Value := (List.range 25).map V
theorem tabV_length (V : Nat → Value) : (tabV V).length = 25 := by simp [tabV]
theorem tabV_at (V : Nat → Value) {l : Nat} (h : l < 25) : (tabV V)[l]? = some (V l) := by simp [tabV, h]
theorem tabV_set (V : Nat → Value) (k : Nat) (v : Value) : (tabV V).set k v = tabV (upd V k v) := by
  apply List.ext_getElem
  · simp [tabV]
  · intro l h1 h2
    rw [List.getElem_set]
    simp only [tabV, List.getElem_map, List.getElem_range]
    by_cases e : k = l
    · subst e
      rw [if_pos rfl, upd_at]
    · rw [if_neg e, upd_ne _ _ (Ne.symm e)]
def nilV : Nat → Value := fun _ => .slice none 0 0
def allocM (b : Bool) (x : Value) : Sem Value := Instr.alloc 28 b x
theorem allocM_fold (b : Bool) (x : Value) : Instr.alloc 28 b x = allocM b x := rfl
theorem allocM_run (w : World) : (allocM true (.tuple #[])).run Try.prog w = .ok (.pointer (some ⟨w.heap.size, 0, none⟩)) (w.alloc (.cells (tabV nilV).toArray 28)) := by
  rw [show tabV nilV = List.replicate 25 (.slice none 0 0) from rfl]
  kernel_rfl
/-- Only slices lie there. -/
def Slices (V : Nat → Value) : Prop := ∀ l, ∃ A n c, V l = .slice A n c
theorem Slices.mem {V : Nat → Value} (h : Slices V) : ∀ v ∈ tabV V, ∃ A n c, v = .slice A n c := by
  intro v hv
  obtain ⟨l, _, rfl⟩ := List.mem_map.1 hv
  exact h l
theorem Slices.upd {V : Nat → Value} (h : Slices V) (l : Nat) (A : Option Addr) (n c : Nat) : Slices (upd V l (.slice A n c)) := fun m => by
  unfold Go.Proofs.Ythbgmcbhldhejaa.upd
  split
  · exact ⟨A, n, c, rfl⟩
  · exact h m
/-- What is read as no slice lies elsewhere. -/
theorem Reads.noTab {w : World} {B n g : Nat} {A : Option Addr} {xs vs : List Value} {t : TypeId} (h : Reads w B 1 A n xs) (hx : ∀ v ∈ xs, ¬ ∃ A n c, v = .slice A n c) (hb : VBlk w g t vs) (hv : ∀ v ∈ vs, ∃ A n c, v = .slice A n c) : 0 < n → ∀ ad, A = some ad → ad.block ≠ g := fun h0 ad ha e => by
  obtain ⟨b, off, e', _, hc⟩ := h.plain h0
  rw [ha] at e'
  injection e' with e'
  subst e'
  simp only at e
  subst e
  have hl : 0 < xs.length := by have := h.1; omega
  have h1 := hc 0 _ (List.getElem?_eq_getElem hl)
  rw [Blk.cell hb.blk] at h1
  simp only [List.getElem?_toArray] at h1
  exact hx _ (List.getElem_mem hl) (hv _ (List.mem_of_getElem? h1))
section
variable {w wr wx wy : World} {b g : Nat} {P C : Nat → Nat} {Fs : Nat → List Sl} {V : Nat → Value}
theorem StrL.tab {A : Option Addr} {n : Nat} {M : List (List Int)} {vs : List Value} {t : TypeId} (h : StrL wr A n M) (hb : VBlk wr g t vs) (hv : ∀ v ∈ vs, ∃ A n c, v = .slice A n c) (k : Only (· = g) wr wx) : StrL wx A n M :=
  (reads_only h k (Nat.le_refl _) (fun h0 ad ha _ => Reads.noTab h (by
    intro v hv ⟨_, _, _, e⟩
    obtain ⟨z, _, rfl⟩ := List.mem_map.1 hv
    cases e) hb hv h0 ad ha)).more k.size
theorem SlOk.tab {Q : Nat → Prop} {s : Sl} {vs : List Value} {t : TypeId} (h : SlOk wr Q s) (hb : VBlk wr g t vs) (hv : ∀ v ∈ vs, ∃ A n c, v = .slice A n c) (k : Only (· = g) wr wx) : SlOk wx Q s :=
  ⟨⟨(reads_only h.in_.reads k (Nat.le_refl _) (fun h0 ad ha _ => Reads.noTab h.in_.reads (by
    intro v hv ⟨_, _, _, e⟩
    obtain ⟨z, _, rfl⟩ := List.mem_map.1 hv
    cases e) hb hv h0 ad ha)).more k.size, h.in_.n_le, h.in_.c_le, h.in_.wf⟩, h.at_⟩
theorem NetAt.tab {Q : Nat → Prop} {B k : Nat} {vs : List Value} (h : NetAt wr Q B b P C k Fs) (hb : VBlk wr g 28 vs) (hv : ∀ v ∈ vs, ∃ A n c, v = .slice A n c) (k1 : Only (· = g) wr wx) : NetAt wx Q B b P C k Fs :=
  ⟨h.blk.only k1 (Blk.ne_ h.blk.blk hb.blk (by decide)), fun l hl hd =>
    have hx := h.box l hl hd
    ⟨hx.ptr.only k1 (Blk.ne_ hx.ptr.blk hb.blk (by decide)), hx.chan.only k1 (fun e => hx.chan.ne hb e.symm), hx.le, fun s hs => (hx.each s hs).tab hb hv k1⟩, h.low, h.one⟩
/-- What is held ahead of each call: the law's own strings are those that wait. -/
structure St (w wr : World) (b : Nat) (P C : Nat → Nat) (g : Nat) (Fs : Nat → List Sl) (V : Nat → Value) : Prop where
  net : NetAt wr allQ w.heap.size b P C 25 Fs
  tab : VBlk wr g 28 (tabV V)
  slc : Slices V
  mine : ∀ l, l < 25 → l % 6 ≠ 0 → ∃ A m, V l = .slice A (Fs l).length m ∧ (Fs l).length ≤ m ∧ m ≤ maxLen ∧ StrL wr A (Fs l).length (zsOf (Fs l))
  low : w.heap.size ≤ g
  under : Below w.heap.size w wr
theorem St.below (h : St w wr b P C g Fs V) (hb : Below wr.heap.size wr wx) : St w wx b P C g Fs V :=
  ⟨h.net.below hb, h.tab.below hb h.tab.lt, h.slc, fun l hl hd => by
    obtain ⟨A, m, e, h1, h2, h3⟩ := h.mine l hl hd
    exact ⟨A, m, e, h1, h2, h3.below hb⟩, h.low, h.under.trans (hb.mono h.under.size)⟩
/-- A call of one way's box, and the table's change. -/
theorem St.step (h : St w wr b P C g Fs V) {l : Nat} (hl : l < 25) (hd : l % 6 ≠ 0) {Gs : List Sl} (k1 : Only (· = C l) wr wx) (hx : NetAt wx allQ w.heap.size b P C 25 (upd Fs l Gs)) (hy : Below wx.heap.size wx wy) {A : Option Addr} {L m : Nat} (hL : Gs.length = L) (h1 : L ≤ m) (h2 : m ≤ maxLen) (hR : StrL wy A L (zsOf Gs)) :
    St w (wy.setCell ⟨g, l, none⟩ (.slice A L m)) b P C g (upd Fs l Gs) (upd V l (.slice A L m)) := by
  subst hL
  have hc := (h.net.box l hl hd).chan
  have htx := h.tab.only k1 (hc.ne h.tab)
  have hty := htx.below hy htx.lt
  have kz := only_cell wy g l (.slice A Gs.length m)
  have hv := h.slc.mem
  have hBx := below_net h.net h.under hl hd k1
  have hBy := hBx.trans (hy.mono hBx.size)
  refine ⟨(hx.below hy).tab hty hv kz, ?_, h.slc.upd l A _ m, fun k hk he => ?_, h.low, below_only hBy kz (fun i e => by rw [e]; exact h.low) hBy.size⟩
  · rw [← tabV_set]
    exact hty.set l _
  · by_cases e : k = l
    · subst e
      rw [upd_at, upd_at]
      exact ⟨A, m, rfl, h1, h2, hR.tab hty hv kz⟩
    · rw [upd_ne _ _ e, upd_ne _ _ e]
      obtain ⟨A', m', e', g1, g2, g3⟩ := h.mine k hk he
      have g4 : StrL wx A' _ (zsOf (Fs k)) := (Reads.chan g3 hc (Nat.le_refl _) k1).more k1.size
      exact ⟨A', m', e', g1, g2, (g4.below hy).tab hty hv kz⟩
theorem St.drewN (h : St w wr b P C g Fs V) (n : Nat) : St w (wr.drewN n) b P C g Fs V := ⟨h.net.drewN n, h.tab, h.slc, h.mine, h.low, ⟨h.under.os, h.under.tape, h.under.output, h.under.size, h.under.block⟩⟩
theorem St.drew (h : St w wr b P C g Fs V) : St w wr.drew b P C g Fs V := h.drewN 1
end
end Go.Proofs.Ythbgmcbhldhejaa
