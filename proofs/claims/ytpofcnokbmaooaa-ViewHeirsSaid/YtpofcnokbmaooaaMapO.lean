/- A map from numbers that the call makes, of whatever elements: made, looked up (with ok too), put to. -/
import Derived.Test.YtpofcnokbmaooaaFlat
import Derived.Maps.Own
import Derived.Maps.Views
namespace Go.Proofs.Ytpofcnokbmaooaa
open Go.RowKit Go.Maps

def heldO (v : Value) : Option (DataW Value × List MemPlace) := some (.held v, [])
theorem Try.keyIntO : Keyed Try.prog 3 := int_keyed Try.underlying3
/-- What it has of each number. -/
def MapO (w : World) (b n : Nat) (f : Int → Option Value) : Prop :=
  ∃ D : DataW Value, w.ownsMap Try.prog 3 heldO b n D ∧ IsMap D ∧ ∀ v z, D.atKey (.int .i64 v) z = match f v with | none => z | some x => .held x
section
variable {w w' : World} {b n : Nat} {f : Int → Option Value}
theorem mapO_made (w : World) : MapO (w.alloc (.map #[] 0)) w.heap.size 0 (fun _ => none) :=
  ⟨.map [], World.ownsMap_made w _ _ _, isMap_empty, fun v z => by rw [atKey_of_not_has rfl]⟩
theorem MapO.grown (h : MapO w b n f) {row : Option Nat} (hg : w.grownBy w' row) (hne : some b ≠ row) : MapO w' b n f := by
  obtain ⟨D, h1, h2, h3⟩ := h
  exact ⟨D, h1.kept hg hne, h2, h3⟩
theorem MapO.lt (h : MapO w b n f) : b < w.heap.size := by
  obtain ⟨D, h1, _⟩ := h
  exact h1.lt
theorem MapO.only {S : Nat → Prop} (h : MapO w b n f) (hO : Only S w w') (hn : ¬ S b) : MapO w' b n f := by
  obtain ⟨D, ⟨es, clock, hb, r⟩, h2⟩ := h
  exact ⟨D, ⟨es, clock, (hO.block b (Array.getElem?_eq_some_iff.1 hb).1 hn).trans hb, r⟩, h2⟩
theorem MapO.below (h : MapO w b n f) {B : Nat} (hb : Below B w w') (hn : b < B) : MapO w' b n f := by
  obtain ⟨D, ⟨es, clock, h1, r⟩, h2⟩ := h
  exact ⟨D, ⟨es, clock, (hb.block b hn).trans h1, r⟩, h2⟩
theorem MapO.drew (h : MapO w b n f) : MapO w.drew b n f := h
theorem MapO.alloc (h : MapO w b n f) (o : Obj) : MapO (w.alloc o) b n f := h.grown (World.grownBy_alloc w o none) (by simp)
theorem MapO.mono (h : MapO w b n f) {n' : Nat} (hn : n ≤ n') : MapO w b n' f := by
  obtain ⟨D, h1, h2⟩ := h
  exact ⟨D, h1.mono hn, h2⟩
/-- The look-up, without ok and with it. -/
theorem MapO.look (h : MapO w b n f) {t e : TypeId} {z : Value} (ht : Try.prog.underlying t = some (.map 3 e)) (hz : (zeroValue e).run Try.prog w = .ok z w) {v : Int} (hv : (Lit.int .i64 v).wf = true) (c : Bool) :
    (Instr.lookup t (.map (some b)) (.int .i64 v) c).run Try.prog w = .ok (if c then .tuple #[(f v).getD z, .bool (f v).isSome] else (f v).getD z) w := by
  obtain ⟨D, ⟨es, clock, hb, F, _, rfl⟩, _, h3⟩ := h
  rcases Maps.fit_look c Try.keyIntO ht hz hb F (keyOf_int_mk Try.underlying3 hv) with ⟨hrun, _, hat⟩ | ⟨e0, y, _, _, hrun, hRv, hat, _⟩
  · rw [hrun]
    cases hf : f v with
    | none => rfl
    | some x =>
      have := h3 v .nil
      rw [hf, hat] at this
      cases this
  · rw [hrun]
    have hy : y = (.held e0.val, []) := by
      unfold heldO at hRv
      injection hRv with hRv
      exact hRv.symm
    cases hf : f v with
    | none =>
      have := h3 v .nil
      rw [hf, hat, hy] at this
      cases this
    | some x =>
      have := h3 v .nil
      rw [hf, hat, hy] at this
      injection this with this
      subst this
      rfl
theorem MapO.store (h : MapO w b n f) (hn : n < 1000000) {t e : TypeId} (ht : Try.prog.underlying t = some (.map 3 e)) {v : Int} (hv : (Lit.int .i64 v).wf = true) (x : Value) :
    ∃ w', (Instr.mapUpdate t (.map (some b)) (.int .i64 v) x).run Try.prog w = .ok () w' ∧ MapO w' b (n + 1) (fun u => if u = v then some x else f u) ∧ Only (· = b) w w' := by
  obtain ⟨D, h1, h2, h3⟩ := h
  obtain ⟨w', hrun, r1, r2⟩ := h1.update Try.keyIntO ht (by unfold maxLen; omega) (keyOf_int_mk Try.underlying3 hv) (d := .held x) (ps := []) rfl
  refine ⟨w', hrun, ⟨_, r1, h2.put _ _, fun u z => ?_⟩, ⟨r2.os, r2.tape, r2.output, r2.size, fun i hi hn => r2.block i hi (fun e => hn (by injection e))⟩⟩
  by_cases e : u = v
  · subst e
    rw [atKey_put_same h2 (by trivial)]
    simp
  · rw [atKey_put_other (by simpa using e), h3]
    simp [e]
end
end Go.Proofs.Ytpofcnokbmaooaa
