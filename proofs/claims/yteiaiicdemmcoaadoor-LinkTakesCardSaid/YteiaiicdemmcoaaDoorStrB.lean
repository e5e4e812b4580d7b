/- Bytes as a string, and strings held against one another. -/
import Derived.Test.YteiaiicdemmcoaaDoorInfo8
import Derived.Laws.BytesArg
import Derived.Lib.Bytes
namespace Go.Proofs.YteiaiicdemmcoaaDoor
open Go.RowKit

theorem reads_string {w : World} {B : Nat} {A : Option Addr} {n : Nat} {xs : List Int} (h : Reads w B 1 A n (xs.map (Value.int .u8))) (c : Nat) :
    (convert 23 9 (.slice A n c)).run Tryd.prog w = .ok (.string (strOfNums xs)) w := by
  have hl : xs.length = n := by have := h.1; simpa using this
  rcases Nat.eq_zero_or_pos n with h0 | h0
  · subst h0
    obtain rfl := List.eq_nil_of_length_eq_zero hl
    rw [run_convert_bytes_string w 23 9 5 A 0 c Tryd.underlying23 Tryd.underlying5 Tryd.underlying9]
    cases A <;> simp [Conv.bytesToString, loadCells] <;> rfl
  · obtain ⟨b, off, rfl, _, hc⟩ := h.ints h0
    exact run_convert_bytes_arg w 23 5 Tryd.underlying23 Tryd.underlying5 b off n c xs hl hc 9 Tryd.underlying9
theorem strOf_inj {xs ys : List Int} (h1 : ∀ z ∈ xs, 0 ≤ z ∧ z < 256) (h2 : ∀ z ∈ ys, 0 ≤ z ∧ z < 256) (h3 : Lib.bytesOf xs = Lib.bytesOf ys) : xs = ys := by
  unfold Lib.bytesOf at h3
  induction xs generalizing ys with
  | nil => cases ys with
    | nil => rfl
    | cons y ys => simp at h3
  | cons x xs ih => cases ys with
    | nil => simp at h3
    | cons y ys =>
      simp only [List.map_cons, List.cons.injEq] at h3
      have hx := h1 x (by simp)
      have hy := h2 y (by simp)
      have e := congrArg UInt8.toNat h3.1
      simp only [UInt8.toNat_ofNat'] at e
      rw [show x = y by omega, ih (fun z hz => h1 z (by simp [hz])) (fun z hz => h2 z (by simp [hz])) h3.2]
def eqB (xs ys : List Int) : Bool := decide (xs = ys)
theorem strOf_eq {xs ys : List Int} (h1 : ∀ z ∈ xs, 0 ≤ z ∧ z < 256) (h2 : ∀ z ∈ ys, 0 ≤ z ∧ z < 256) : ((strOfNums xs).toList == (strOfNums ys).toList) = eqB xs ys := by
  unfold eqB
  rw [Lib.strOfNums_toList, Lib.strOfNums_toList]
  by_cases h : xs = ys
  · subst h; simp
  · have : Lib.bytesOf xs ≠ Lib.bytesOf ys := fun e => h (strOf_inj h1 h2 e)
    simp [h, this]
end Go.Proofs.YteiaiicdemmcoaaDoor
