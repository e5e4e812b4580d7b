/- Blocks, by the list of their cells; slices that are owned. -/
import Derived.Test.YtoknodkgmeinmaaFlat
import Derived.Deep.RegionLaw
import Derived.Deep.CutBlock
import Derived.Deep.DeepCutAuto
import Derived.Deep.DeepMust
import Derived.Deep.Light
import Derived.Deep.RegionWith
import Derived.StillTailTactics
namespace Go.Proofs.Ytoknodkgmeinmaa
open Go.RowKit

def u8V (bs : List Int) : List Value := bs.map (Value.int .u8)
theorem u8V_length (bs : List Int) : (u8V bs).length = bs.length := by simp [u8V]
theorem u8V_inj {a b : List Int} (h : u8V a = u8V b) : a = b := (List.map_inj_right (fun x y h => by injection h)).1 h
theorem u8V_one (bs : List Int) : ∀ v ∈ u8V bs, v.oneCell' = true := oneCell_ints bs
/-! ### blocks, by the list of their cells -/
def VBlk (w : World) (g : Nat) (t : TypeId) (vs : List Value) : Prop := Blk w g t vs.toArray
def IsV (n : Nat) (vs : List Value) : Prop := vs.length = n ∧ ∀ v ∈ vs, v.oneCell' = true
section
variable {w w' : World} {g : Nat} {t : TypeId} {vs : List Value}
theorem VBlk.blk (h : VBlk w g t vs) : Blk w g t vs.toArray := h
theorem VBlk.lt (h : VBlk w g t vs) : g < w.heap.size := Blk.lt h
theorem VBlk.new (w : World) (t : TypeId) (vs : List Value) : VBlk (w.alloc (.cells vs.toArray t)) w.heap.size t vs := Blk.new _ _ _
theorem VBlk.only {S : Nat → Prop} (h : VBlk w g t vs) (k : Only S w w') (hn : ¬ S g) : VBlk w' g t vs := Blk.only h k hn
theorem VBlk.below {B : Nat} (h : VBlk w g t vs) (k : Below B w w') (hn : g < B) : VBlk w' g t vs := Blk.below h k hn
theorem VBlk.alloc (h : VBlk w g t vs) (o : Obj) : VBlk (w.alloc o) g t vs := Blk.alloc h o
theorem VBlk.drew (h : VBlk w g t vs) : VBlk w.drew g t vs := h
theorem VBlk.far (h : VBlk w g t vs) {b : Nat} (hb : g ≠ b) (o : Nat) (us : List Value) : VBlk (w.setCells b o us) g t vs := h.only (only_cells w b o us) hb
theorem VBlk.cellAt (h : VBlk w g t vs) {i : Nat} {x : Value} (hx : vs[i]? = some x) : w.cell? ⟨g, i, none⟩ = some x := by
  rw [Blk.cell h]; simpa using hx
theorem VBlk.frozen (h : VBlk w g t vs) (i : Nat) : w.frozen? ⟨g, i, none⟩ = false := Blk.frozen h i
theorem VBlk.set (h : VBlk w g t vs) (i : Nat) (x : Value) : VBlk (w.setCell ⟨g, i, none⟩ x) g t (vs.set i x) := Blk.set1 h i x
theorem VBlk.has (h : VBlk w g t vs) (o n : Nat) (hn : o + n ≤ vs.length) : HasRow w g o n := fun j hj => by
  rw [h.cellAt (List.getElem?_eq_getElem (by omega))]; rfl
theorem VBlk.row (h : VBlk w g t vs) (o n : Nat) (hn : o + n ≤ vs.length) : rowAt w g o n = ((vs.drop o).take n).toArray := by
  unfold rowAt
  congr 1
  apply List.ext_getElem
  · simp; omega
  · intro j h1 h2
    have hj : j < n := by simpa using h1
    simp only [List.getElem_map, List.getElem_range]
    rw [h.cellAt (List.getElem?_eq_getElem (by omega))]
    simp
/-- A block's part, as the walk wants it. -/
theorem VBlk.got (h : VBlk w g t vs) (o n : Nat) (hn : o + n ≤ vs.length) : rowAt w g o n = ((vs.drop o).take n).toArray ∧ HasRow w g o n := ⟨h.row o n hn, h.has o n hn⟩
theorem VBlk.whole {n : Nat} (h : VBlk w g t vs) (hn : vs.length = n) : rowAt w g 0 n = vs.toArray ∧ HasRow w g 0 n := by
  refine ⟨?_, h.has 0 n (by omega)⟩
  rw [h.row 0 n (by omega), List.drop_zero, List.take_of_length_le (Nat.le_of_eq hn)]
theorem VBlk.room (h : VBlk w g t vs) (o n : Nat) (hn : o + n ≤ vs.length) : Room w g o n := Blk.there h o n hn
theorem VBlk.fill {us : List Value} (h : VBlk w g t vs) (hn : us.length = vs.length) : VBlk (w.setCells g 0 us) g t us := by
  have := Blk.setN us 0 h (by omega)
  rwa [show vs.take 0 ++ us ++ vs.drop (0 + us.length) = us by simp [List.drop_of_length_le, hn]] at this
theorem VBlk.fillK {us : List Value} (h : VBlk w g t vs) (hn : us.length ≤ vs.length) : VBlk (w.setCells g 0 us) g t (us ++ vs.drop us.length) := by
  have := Blk.setN us 0 h (by omega)
  rwa [show vs.take 0 ++ us ++ vs.drop (0 + us.length) = us ++ vs.drop us.length by simp] at this
theorem VBlk.setN {us : List Value} (h : VBlk w g t vs) (o : Nat) (hn : o + us.length ≤ vs.length) : VBlk (w.setCells g o us) g t (vs.take o ++ us ++ vs.drop (o + us.length)) := Blk.setN us o h hn
end
theorem Room.alloc {w : World} {b o n : Nat} (h : Room w b o n) (ob : Obj) : Room (w.alloc ob) b o n := World.there_alloc h ob
theorem run_storeAt_v {P : Program} {ty : TypeId} {n : Nat} (hi : (P.info? ty).map (·.size) = some n) {w : World} {b o : Nat} {vs : List Value} (h : Room w b o n) (hl : IsV n vs) :
    (Instr.storeAt ty (.pointer (some ⟨b, o, none⟩)) (.agg vs.toArray)).run P w = .ok () (w.setCells b o vs) := by
  have hl' : vs.length = n := hl.1
  have := run_storeAt_mid (P := P) w b o ty vs.toArray (by simp only [List.size_toArray]; rw [hl']; exact h) (by simp only [List.size_toArray]; rw [hl']; exact hi) (all_oneCell_toArray hl.2)
  simpa using this
theorem reads_only {S : Nat → Prop} {w w' : World} {B n : Nat} {A : Option Addr} {xs : List Value} (h : Reads w B 1 A n xs) (k : Only S w w') (hB : B ≤ w.heap.size) (hn : 0 < n → ∀ ad, A = some ad → ad.block < B → ¬ S ad.block) : Reads w' B 1 A n xs :=
  ⟨h.1, fun h0 => by
    obtain ⟨ad, e, hb, hc⟩ := h.2 h0
    exact ⟨ad, e, hb, fun j u hu => (k.cell (by rw [block_of_add]; omega) (by rw [block_of_add]; exact hn h0 ad e hb)).trans (hc j u hu)⟩⟩
/-- An owned slice: how long it is, what it could hold. -/
theorem own_form {w : World} {base n size : Nat} {e : TypeId} {v : Value} {xs : List Value} (h : w.ownsRow base e size v n xs) : ∃ A c, v = .slice A n c ∧ n ≤ c ∧ c ≤ maxLen := by
  rcases h.2 with ⟨rfl, rfl⟩ | ⟨g, cap, cur, rfl, _, _, h1, h2, _⟩
  · exact ⟨_, _, rfl, Nat.le_refl _, Nat.zero_le _⟩
  · exact ⟨_, _, rfl, h1, h2⟩
theorem VBlk.readsAt {w : World} {g B : Nat} {t : TypeId} {vs : List Value} (h : VBlk w g t vs) (o n : Nat) (hn : o + n ≤ vs.length) (hB : g < B) : Reads w B 1 (some ⟨g, o, none⟩) n ((vs.drop o).take n) :=
  ⟨by rw [List.length_take, List.length_drop]; omega, fun _ => ⟨_, rfl, hB, fun j u hu => by
    rw [Go.WideShapes.add_plain]
    refine h.cellAt ?_
    rw [List.getElem?_take] at hu
    split at hu
    · rwa [List.getElem?_drop] at hu
    · cases hu⟩⟩
theorem own_lt {w : World} {base n size : Nat} {e : TypeId} {v : Value} {xs : List Value} (h : w.ownsRow base e size v n xs) : ∀ g, v.ownBlock = some g → g < w.heap.size := by
  intro g hg
  rcases h.2 with ⟨rfl, _⟩ | ⟨g', cap, cur, rfl, _, hh, _⟩
  · simp [Value.ownBlock] at hg
  · have : g' = g := by simpa [Value.ownBlock] using hg
    subst this
    exact (Array.getElem?_eq_some_iff.1 hh).1
theorem only_grown {w w' : World} {row : Option Nat} (h : w.grownBy w' row) : Only (fun b => row = some b) w w' := (Only.refl _ w).grown h fun _ e => .inl e
end Go.Proofs.Ytoknodkgmeinmaa
