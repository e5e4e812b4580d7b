/- How many changes there may be: plain facts for ViewFew. -/
import Derived.Test.YtpofcnokbmaooaaVwC
namespace Go.Proofs.Ytpofcnokbmaooaa
open Go.RowKit

/-- What became of a machine: nothing, it is a member, it left. -/
def stF (v : V) (i : Nat) : Nat := if v.m.testBit i = true then 1 else if v.heir i = 0 then 0 else 2
def sum5 (F : Nat → Nat) : Nat := F 0 + F 1 + F 2 + F 3 + F 4
theorem sum5_step {F G : Nat → Nat} {q : Nat} (hq : q < 5) (h1 : G q = F q + 1) (h2 : ∀ i, i ≠ q → i < 5 → G i = F i) : sum5 G = sum5 F + 1 := by
  have a0 := h2 0
  have a1 := h2 1
  have a2 := h2 2
  have a3 := h2 3
  have a4 := h2 4
  unfold sum5
  match q, hq with
  | 0, _ => rw [h1, a1 (by decide) (by decide), a2 (by decide) (by decide), a3 (by decide) (by decide), a4 (by decide) (by decide)]; omega
  | 1, _ => rw [h1, a0 (by decide) (by decide), a2 (by decide) (by decide), a3 (by decide) (by decide), a4 (by decide) (by decide)]; omega
  | 2, _ => rw [h1, a0 (by decide) (by decide), a1 (by decide) (by decide), a3 (by decide) (by decide), a4 (by decide) (by decide)]; omega
  | 3, _ => rw [h1, a0 (by decide) (by decide), a1 (by decide) (by decide), a2 (by decide) (by decide), a4 (by decide) (by decide)]; omega
  | 4, _ => rw [h1, a0 (by decide) (by decide), a1 (by decide) (by decide), a2 (by decide) (by decide), a3 (by decide) (by decide)]; omega
theorem stF_join {v : V} {q : Nat} (hb : v.m.testBit q = false) (h0 : v.heir q = 0) : stF (joinV v q) q = stF v q + 1 ∧ ∀ i, i ≠ q → stF (joinV v q) i = stF v i := by
  refine ⟨?_, fun i hi => ?_⟩
  · unfold stF
    rw [joinV_bit, joinV_heir, hb, h0]
    simp
  · unfold stF
    rw [joinV_bit, joinV_heir, decide_eq_false (fun e => hi e.symm), Bool.or_false]
theorem stF_leave {v : V} {q j : Nat} (hq : q < 5) (hb : v.m.testBit q = true) : stF (leaveV v q j) q = stF v q + 1 ∧ ∀ i, i ≠ q → i < 5 → stF (leaveV v q j) i = stF v i := by
  refine ⟨?_, fun i hi h5 => ?_⟩
  · unfold stF
    rw [leaveV_bit, leaveV_heir v q j hq, hb]
    simp
  · unfold stF
    rw [leaveV_bit, leaveV_heir v q j h5, decide_eq_false (fun e => hi e.symm), Bool.xor_false]
    by_cases h : v.heir i = q + 1
    · rw [if_pos (show v.heir i = q + 1 ∨ i = q from .inl h), h]; simp
    · rw [if_neg (show ¬ (v.heir i = q + 1 ∨ i = q) by omega)]
theorem some_bit : ∀ m : Fin 32, 0 < m.val → ∃ i : Fin 5, m.val.testBit i.val = true := by decide +kernel
theorem stF_le (v : V) (i : Nat) : stF v i ≤ 2 := by
  unfold stF
  split
  · omega
  · split <;> omega
theorem sum5_le {v : V} (h : v.Ok) : sum5 (stF v) ≤ 9 := by
  obtain ⟨⟨i, hi⟩, hb⟩ := some_bit ⟨v.m, h.m2⟩ h.m1
  have h1 : stF v i = 1 := by unfold stF; rw [if_pos hb]
  have a0 := stF_le v 0
  have a1 := stF_le v 1
  have a2 := stF_le v 2
  have a3 := stF_le v 3
  have a4 := stF_le v 4
  unfold sum5
  match i, hi with
  | 0, _ => omega
  | 1, _ => omega
  | 2, _ => omega
  | 3, _ => omega
  | 4, _ => omega
/-- What is known behind so many changes: how many were, and that who left has an heir. -/
structure Few (v : V) (g : Nat → Bool) : Prop where
  e : v.e + 2 = sum5 (stF v)
  gone : ∀ i, g i = true → i < 5 ∧ v.heir i ≠ 0
theorem few_first : Few firstV (fun _ => false) := ⟨by decide +kernel, fun i h => by cases h⟩
theorem Few.join {v : V} {g : Nat → Bool} (h : Few v g) {q : Nat} (hq : q < 5) (hb : v.m.testBit q = false) (h0 : v.heir q = 0) : Few (joinV v q) g := by
  obtain ⟨h1, h2⟩ := stF_join hb h0
  refine ⟨?_, h.gone⟩
  rw [sum5_step hq h1 (fun i hi _ => h2 i hi), ← h.e, show (joinV v q).e = v.e + 1 from rfl]
def putBl (g : Nat → Bool) (k : Nat) : Nat → Bool := fun i => if i = k then true else g i
theorem Few.leave {v : V} {g : Nat → Bool} (h : Few v g) {q j : Nat} (hq : q < 5) (hb : v.m.testBit q = true) : Few (leaveV v q j) (putBl g q) := by
  obtain ⟨h1, h2⟩ := stF_leave (j := j) hq hb
  refine ⟨?_, fun i hi => ?_⟩
  · rw [sum5_step hq h1 h2, ← h.e, show (leaveV v q j).e = v.e + 1 from rfl]
  · unfold putBl at hi
    split at hi
    · rename_i e
      subst e
      exact ⟨hq, by rw [leaveV_heir v i j hq, if_pos (.inr rfl)]; omega⟩
    · obtain ⟨h5, hn⟩ := h.gone i hi
      refine ⟨h5, ?_⟩
      rw [leaveV_heir v q j h5]
      split <;> omega
theorem Few.le {v : V} {g : Nat → Bool} (h : Few v g) (ho : v.Ok) : v.e ≤ 7 := by
  have := sum5_le ho
  have := h.e
  omega
theorem Few.not {v : V} {g : Nat → Bool} (h : Few v g) {q : Nat} (h0 : v.heir q = 0) : g q = false := by
  cases hg : g q with
  | false => rfl
  | true => exact ((h.gone q hg).2 h0).elim
/-- As the map has it. -/
def fB (g : Nat → Bool) (z : Int) : Option Value := if 0 ≤ z then (if g z.toNat = true then some (.bool true) else none) else none
theorem fB_nat (g : Nat → Bool) (k : Nat) : fB g (k : Int) = if g k = true then some (.bool true) else none := by
  rw [fB, if_pos (by omega)]; rfl
theorem fB_none : (fun _ => none) = fB fun _ => false := by
  funext z; unfold fB; split <;> rfl
theorem fB_put (g : Nat → Bool) (k : Nat) : (fun u => if u = (k : Int) then some (Value.bool true) else fB g u) = fB (putBl g k) := by
  funext u
  unfold fB putBl
  by_cases h : 0 ≤ u
  · rw [if_pos h, if_pos h]
    by_cases e : u = (k : Int)
    · rw [if_pos e, if_pos (show u.toNat = k by omega)]; rfl
    · rw [if_neg e, if_neg (show ¬ u.toNat = k by omega)]
  · rw [if_neg h, if_neg h, if_neg (by omega)]
theorem set_pos : ∀ m : Fin 32, 0 < m.val → 0 < (setL (m.val : Int)).length := by decide +kernel
end Go.Proofs.Ytpofcnokbmaooaa
