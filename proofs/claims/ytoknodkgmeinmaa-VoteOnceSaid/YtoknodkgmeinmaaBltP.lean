/- Ballots and acceptors, plain; Less. -/
import Derived.Test.YtoknodkgmeinmaaBltA
import Derived.RegionTactic
import Derived.Deep.Draws
import Derived.Deep.RegionWith
import Derived.Deep.DeepCutAuto
import Derived.Deep.Light
namespace Go.Proofs.Ytoknodkgmeinmaa
open Go.RowKit

/-- Is a try less than another one? -/
def lessB (r w r' w' : Int) : Bool := decide (r < r') || (r == r' && decide (w < w'))
theorem lessB_true {r w r' w' : Int} : lessB r w r' w' = true ↔ r < r' ∨ (r = r' ∧ w < w') := by simp [lessB]
theorem lessB_false {r w r' w' : Int} : lessB r w r' w' = false ↔ r' < r ∨ (r = r' ∧ w' ≤ w) := by
  rw [← Bool.not_eq_true, lessB_true]; omega
/-- What one machine vowed, and took. -/
structure Acc where
  e : Int
  r : Int
  w : Int
  hr : Int
  hw : Int
  k : Int
  x : Int
  j : Int
def accL (a : Acc) : List Int := [a.e, a.r, a.w, a.hr, a.hw, a.k, a.x, a.j]
theorem accL_length (a : Acc) : (accL a).length = 8 := rfl
def hearsB (a : Acc) (e r w : Int) : Bool := (e == a.e) && decide (1 ≤ r) && !lessB r w a.r a.w
def askA (a : Acc) (e r w : Int) : Acc := if hearsB a e r w = true then { a with r := r, w := w } else a
def putA (a : Acc) (e r w k x j : Int) : Acc := if hearsB a e r w = true then ⟨a.e, r, w, r, w, k, x, j⟩ else a
attribute [local go_sem ↓] loadBltF_fold storeBltF_fold allocBltF_fold buildBltF_fold
attribute [local go_sem] loadBltF_has storeBltF_has allocBltF_run buildBltF_none buildBltF_0 buildBltF_0_1
set_option maxRecDepth 100000 in
set_option maxHeartbeats 800000 in
theorem less_any (r1 w1 r2 w2 : Int) (w : World) :
    Calls Try.prog 19 #[.agg (iA [r1, w1]), .agg (iA [r2, w2])] w fun e w' => e = .returned (.bool (lessB r1 w1 r2 w2)) ∧ Below w.heap.size w w' := by
  have hI : IBlk ((w.alloc (.cells (iA [r1, w1]) 31)).alloc (.cells (iA [r2, w2]) 31)) w.heap.size 31 [r1, w1] := (IBlk.new _ _ _).alloc _
  have hJ : IBlk ((w.alloc (.cells (iA [r1, w1]) 31)).alloc (.cells (iA [r2, w2]) 31)) (w.heap.size + 1) 31 [r2, w2] := by
    have := IBlk.new (w.alloc (.cells (iA [r1, w1]) 31)) 31 [r2, w2]
    simpa using this
  have hB : Below w.heap.size w ((w.alloc (.cells (iA [r1, w1]) 31)).alloc (.cells (iA [r2, w2]) 31)) := ((Below.refl _ _).alloc (Nat.le_refl _) _).alloc (by simp) _
  go_enter Try.func19, Try.ntmps19
  go_upto_region 1 with fail
  generalize (w.alloc (.cells (iA [r1, w1]) 31)).alloc (.cells (iA [r2, w2]) 31) = wz at hI hJ hB
  have c0 := hI.cellAt 0 r1 rfl
  have c1 := hI.cellAt 1 w1 rfl
  have c2 := hJ.cellAt 0 r2 rfl
  have c3 := hJ.cellAt 1 w2 rfl
  clear hI hJ
  by_cases h1 : r1 < r2
  · have d1 : decide (r1 < r2) = true := decide_eq_true h1
    have HE := hide (show lessB r1 w1 r2 w2 = true by rw [lessB, d1]; rfl)
    clear h1
    go_wp2_with fail
    go_ret
    exact ⟨by rw [HE.out]; rfl, hB⟩
  have d1 : decide (r1 < r2) = false := decide_eq_false h1
  by_cases h2 : r1 = r2
  · have d2 : (r1 == r2) = true := by simpa using h2
    by_cases h3 : w1 < w2
    · have d3 : decide (w1 < w2) = true := decide_eq_true h3
      have HE := hide (show lessB r1 w1 r2 w2 = true by rw [lessB, d1, d2, d3]; rfl)
      clear h1 h2 h3
      go_wp2_with fail
      go_ret
      exact ⟨by rw [HE.out]; rfl, hB⟩
    · have d3 : decide (w1 < w2) = false := decide_eq_false h3
      have HE := hide (show lessB r1 w1 r2 w2 = false by rw [lessB, d1, d2, d3]; rfl)
      clear h1 h2 h3
      go_wp2_with fail
      go_ret
      exact ⟨by rw [HE.out]; rfl, hB⟩
  · have d2 : (r1 == r2) = false := by simpa using h2
    have HE := hide (show lessB r1 w1 r2 w2 = false by rw [lessB, d1, d2]; rfl)
    clear h1 h2
    go_wp2_with fail
    go_ret
    exact ⟨by rw [HE.out]; rfl, hB⟩
end Go.Proofs.Ytoknodkgmeinmaa
