/- What a reading loop knows. -/
import Derived.Test.YthacenajocchcaaCodR
import Derived.Test.YthacenajocchcaaAgg
namespace Go.Proofs.Ythacenajocchcaa
open Go.RowKit

theorem rdGo_no {lim : Int} {acc bs : List Int} {k : Nat} (h : rdS lim bs = none) : rdGo lim acc (k + 1) bs = none := by rw [rdGo, h]
theorem rdGo_yes {lim : Int} {acc bs r : List Int} {k : Nat} {n : Int} (h : rdS lim bs = some (n, r)) : rdGo lim acc (k + 1) bs = rdGo lim (acc ++ [n]) k r := by rw [rdGo, h]
theorem rdS_bytes {lim : Int} {bs : List Int} {n : Int} {r : List Int} (hb : ∀ z ∈ bs, 0 ≤ z ∧ z < 256) (h : rdS lim bs = some (n, r)) : ∀ z ∈ r, 0 ≤ z ∧ z < 256 := bytes_rest hb (rdS_sound hb h).2.2.2
theorem rdGo_bytes {lim : Int} {k : Nat} {acc bs l r : List Int} (hb : ∀ z ∈ bs, 0 ≤ z ∧ z < 256) (h : rdGo lim acc k bs = some (l, r)) : ∀ z ∈ r, 0 ≤ z ∧ z < 256 := by
  obtain ⟨m, _, _, _, e⟩ := rdGo_sound k hb h
  exact bytes_rest hb e
theorem set_next (acc : List Int) (n : Nat) (x : Int) : (acc ++ zeros (n + 1)).set acc.length x = (acc ++ [x]) ++ zeros n := by
  rw [List.set_append, if_neg (by omega), Nat.sub_self, zeros, List.replicate_succ]
  simp [zeros]
def maxN : Int := 1099511627777


/-- What a reading loop knows: so many numbers are told, in a block that was laid for them. -/
def GoSt (w : World) (g : Nat) (T : Nat → Prop) (lim : Int) (G : Option (List Int × List Int)) (b : Nat) (t : TypeId) (n b' n' k : Nat) (wr : World) : Prop :=
  ∃ acc r, acc.length + k = n ∧ G = rdGo lim acc k r ∧ Rd wr g T r false ∧ (∀ z ∈ r, 0 ≤ z ∧ z < 256) ∧ Only (· = g) w wr ∧ IBlk wr b t (acc ++ zeros k) ∧ IBlk wr b' t (zeros n')
theorem replicate_getD (acc : List Int) (k : Nat) : (acc ++ zeros (k + 1))[acc.length]? = some 0 := by
  rw [List.getElem?_append_right (Nat.le_refl _), Nat.sub_self]; simp [zeros]

end Go.Proofs.Ythacenajocchcaa
