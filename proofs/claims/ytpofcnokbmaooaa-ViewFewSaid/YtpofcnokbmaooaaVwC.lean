/- Who left, to whom, and where that ends: plain facts for ViewHeirs and ViewFew. -/
import Derived.Test.YtpofcnokbmaooaaVwF
import Derived.Test.YtpofcnokbmaooaaMapO
namespace Go.Proofs.Ytpofcnokbmaooaa
open Go.RowKit

/-- From heir to heir, so many steps. -/
inductive Chain (g : Nat → Option Nat) : Nat → Nat → Nat → Prop where
  | stop {x : Nat} : g x = none → Chain g x x 0
  | next {x z y n : Nat} : g x = some z → Chain g z y n → Chain g x y (n + 1)
theorem Chain.one {g : Nat → Option Nat} {x y n : Nat} (h : Chain g x y n) : ∀ {y' n' : Nat}, Chain g x y' n' → y = y' ∧ n = n' := by
  induction h with
  | stop h0 =>
    intro y' n' h'
    cases h' with
    | stop _ => exact ⟨rfl, rfl⟩
    | next h1 _ => rw [h0] at h1; cases h1
  | next h0 _ ih =>
    intro y' n' h'
    cases h' with
    | stop h1 => rw [h0] at h1; cases h1
    | next h1 h2 =>
      rw [h0] at h1
      injection h1 with h1
      subst h1
      obtain ⟨e1, e2⟩ := ih h2
      exact ⟨e1, by rw [e2]⟩
open Classical in
/-- How many steps. -/
noncomputable def clen (g : Nat → Option Nat) (x : Nat) : Nat := if h : ∃ n y, Chain g x y n then Classical.choose h else 0
theorem Chain.clen {g : Nat → Option Nat} {x y n : Nat} (h : Chain g x y n) : clen g x = n := by
  have hh : ∃ n y, Chain g x y n := ⟨n, y, h⟩
  unfold Go.Proofs.Ytpofcnokbmaooaa.clen
  rw [dif_pos hh]
  obtain ⟨y', h'⟩ := Classical.choose_spec hh
  exact (h.one h').2.symm
def putG (g : Nat → Option Nat) (k j : Nat) : Nat → Option Nat := fun i => if i = k then some j else g i
theorem Chain.other {g : Nat → Option Nat} {k j : Nat} (hk : g k = none) {x y n : Nat} (h : Chain g x y n) (hy : y ≠ k) : Chain (putG g k j) x y n := by
  induction h with
  | stop h0 => exact .stop (by rw [putG, if_neg hy, h0])
  | @next x z y n h0 _ ih => exact .next (by rw [putG, if_neg (fun e => by rw [e, hk] at h0; cases h0), h0]) (ih hy)
theorem Chain.more {g : Nat → Option Nat} {k j : Nat} (hk : g k = none) (hj : g j = none) (hne : j ≠ k) {x y n : Nat} (h : Chain g x y n) (hy : y = k) : Chain (putG g k j) x j (n + 1) := by
  induction h with
  | stop h0 =>
    subst hy
    exact .next (z := j) (by rw [putG, if_pos rfl]) (.stop (by rw [putG, if_neg hne, hj]))
  | @next x z y n h0 _ ih => exact .next (by rw [putG, if_neg (fun e => by rw [e, hk] at h0; cases h0), h0]) (ih hy)
/-- What is told of who left is what the view has. -/
structure Hs (v : V) (g : Nat → Option Nat) : Prop where
  lt : ∀ i z, g i = some z → i < 5 ∧ z < 5
  mem : ∀ i, v.m.testBit i = true → g i = none
  none_ : ∀ i, i < 5 → v.heir i = 0 → g i = none
  some_ : ∀ i, i < 5 → v.heir i ≠ 0 → ∃ z n, g i = some z ∧ Chain g z (v.heir i - 1) n
theorem hs_first : Hs firstV (fun _ => none) :=
  ⟨fun i z h => (by cases h), fun _ _ => rfl, fun _ _ _ => rfl, fun i hi h => (h (by
    match i, hi with
    | 0, _ => rfl
    | 1, _ => rfl
    | 2, _ => rfl
    | 3, _ => rfl
    | 4, _ => rfl)).elim⟩
theorem Hs.join {v : V} {g : Nat → Option Nat} (h : Hs v g) {q : Nat} (hq : q < 5) (h0 : v.heir q = 0) : Hs (joinV v q) g := by
  refine ⟨h.lt, fun i hi => ?_, h.none_, h.some_⟩
  rw [joinV_bit] at hi
  by_cases e : q = i
  · subst e; exact h.none_ _ hq h0
  · rw [decide_eq_false e, Bool.or_false] at hi
    exact h.mem i hi
theorem Hs.leave {v : V} {g : Nat → Option Nat} (h : Hs v g) {q j : Nat} (hq : q < 5) (hj : j < 5) (h1 : v.m.testBit q = true) (h2 : v.m.testBit j = true) (hne : j ≠ q) : Hs (leaveV v q j) (putG g q j) := by
  have gq := h.mem q h1
  have gj := h.mem j h2
  refine ⟨fun i z hi => ?_, fun i hi => ?_, fun i hi hi0 => ?_, fun i hi hi0 => ?_⟩
  · unfold putG at hi
    split at hi
    · injection hi with hi; omega
    · exact h.lt i z hi
  · rw [leaveV_bit] at hi
    by_cases e : q = i
    · subst e; rw [h1] at hi; simp at hi
    · rw [putG, if_neg (fun h => e h.symm)]
      exact h.mem i (by simpa [e] using hi)
  · rw [leaveV_heir v q j hi] at hi0
    split at hi0
    · omega
    · rename_i hc
      rw [putG, if_neg (fun e => hc (.inr e))]
      exact h.none_ i hi hi0
  · rw [leaveV_heir v q j hi] at hi0 ⊢
    by_cases ei : i = q
    · subst ei
      rw [if_pos (.inr rfl)]
      exact ⟨j, 0, by rw [putG, if_pos rfl], .stop (by rw [putG, if_neg hne, gj])⟩
    · by_cases e2 : v.heir i = q + 1
      · rw [if_pos (.inl e2)]
        obtain ⟨z, n, hz, hc⟩ := h.some_ i hi (by omega)
        exact ⟨z, n + 1, by rw [putG, if_neg ei, hz], hc.more gq gj hne (by omega)⟩
      · rw [if_neg (by omega)] at hi0 ⊢
        obtain ⟨z, n, hz, hc⟩ := h.some_ i hi hi0
        exact ⟨z, n, by rw [putG, if_neg ei, hz], hc.other gq (by omega)⟩
/-- As the map has it. -/
def fG (g : Nat → Option Nat) (z : Int) : Option Value := if 0 ≤ z then (g z.toNat).map fun (j : Nat) => .int .i64 (j : Int) else none
theorem fG_nat (g : Nat → Option Nat) (k : Nat) : fG g (k : Int) = (g k).map fun (j : Nat) => .int .i64 (j : Int) := by
  rw [fG, if_pos (by omega)]; rfl
theorem fG_none : (fun _ => none) = fG fun _ => none := by
  funext z; unfold fG; split <;> rfl
theorem fG_put (g : Nat → Option Nat) (k j : Nat) : (fun u => if u = (k : Int) then some (Value.int .i64 (j : Int)) else fG g u) = fG (putG g k j) := by
  funext u
  unfold fG putG
  by_cases h : 0 ≤ u
  · rw [if_pos h, if_pos h]
    by_cases e : u = (k : Int)
    · rw [if_pos e, if_pos (by omega)]; rfl
    · rw [if_neg e, if_neg (by omega)]
  · rw [if_neg h, if_neg h, if_neg (by omega)]
end Go.Proofs.Ytpofcnokbmaooaa
