/- A map from Booleans to numbers that a call makes, of two keys. -/
import Derived.Test.YthbgmcbhldhejaaCell
import Derived.Maps.Own
import Derived.Maps.Views
namespace Go.Proofs.Ythbgmcbhldhejaa
open Go.RowKit Go.Maps

theorem Try.keyBool : Keyed Try.prog 4 := bool_keyed Try.underlying4
theorem Try.zeroInt (w : World) : (zeroValue 3).run Try.prog w = .ok (.int .i64 0) w := by kernel_rfl
def putB (m k v : Value) : Sem Unit := Instr.mapUpdate 40 m k v
theorem putB_fold (m k v : Value) : Instr.mapUpdate 40 m k v = putB m k v := rfl
def lookB (m k : Value) : Sem Value := Instr.lookup 40 m k false
theorem lookB_fold (m k : Value) : Instr.lookup 40 m k false = lookB m k := rfl
/-- true has k, false has 0. -/
theorem two_made (w : World) (k : Int) (hk : (Lit.int .i64 k).wf = true) : ∃ w1 w2,
    (putB (.map (some w.heap.size)) (.bool true) (.int .i64 k)).run Try.prog (w.alloc (.map #[] 0)) = .ok () w1 ∧
    (putB (.map (some w.heap.size)) (.bool false) (.int .i64 0)).run Try.prog w1 = .ok () w2 ∧
    (lookB (.map (some w.heap.size)) (.bool true)).run Try.prog w2 = .ok (.int .i64 k) w2 ∧
    (lookB (.map (some w.heap.size)) (.bool false)).run Try.prog w2 = .ok (.int .i64 0) w2 ∧
    Below w.heap.size w w2 := by
  have h0 := World.ownsMap_made (H := Unit) w Try.prog 4 (plainElem Try.prog 3)
  have m0 : IsMap (H := Unit) (.map []) := isMap_empty
  obtain ⟨w1, r1, h1, g1⟩ := h0.update Try.keyBool Try.underlying40 (by unfold maxLen; omega) (keyOf_bool_mk Try.underlying4 true) (plainElem_int Try.underlying3 hk)
  obtain ⟨w2, r2, h2, g2⟩ := h1.update Try.keyBool Try.underlying40 (by unfold maxLen; omega) (keyOf_bool_mk Try.underlying4 false) (plainElem_int Try.underlying3 (a := 0) rfl)
  have m1 := m0.put (.bool true) (.lit (.int .i64 k))
  have at_ : ∀ (x : Bool) (z : Int), DataW.atKey (DataW.put (DataW.put (H := Unit) (.map []) (.bool true) (.lit (.int .i64 k))) (.bool false) (.lit (.int .i64 0))) (.bool x) (.lit (.int .i64 0)) = .lit (.int .i64 z) → (lookB (.map (some w.heap.size)) (.bool x)).run Try.prog w2 = .ok (.int .i64 z) w2 := fun x z hz => by
    obtain ⟨c, hrun, hat, _⟩ := h2.lookup_int Try.keyBool Try.underlying40 Try.underlying3 (Try.zeroInt w2) (keyOf_bool_mk Try.underlying4 x)
    rw [hat] at hz
    injection hz with hz
    injection hz with _ hz
    rw [← hz]
    exact hrun
  have b0 : Below w.heap.size w (w.alloc (.map #[] 0)) := (Below.refl _ _).alloc (Nat.le_refl _) _
  have b1 := b0.grown g1 (by simp) (fun k e => by injection e with e; omega)
  have b2 := b1.grown g2 (by have := b1.size; omega) (fun k e => by injection e with e; omega)
  refine ⟨w1, w2, r1, r2, at_ true k ?_, at_ false 0 ?_, b2⟩
  · rw [atKey_put_other (by simp), atKey_put_same m0 (by trivial)]
  · rw [atKey_put_same m1 (by trivial)]
end Go.Proofs.Ythbgmcbhldhejaa
