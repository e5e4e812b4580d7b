/- The bits of sets: plain facts on num's Set and Most. -/
import Derived.Test.YtoknodkgmeinmaaNumSet
import Derived.Laws.BitsAllLaws
namespace Go.Proofs.Ytoknodkgmeinmaa
open Go.RowKit

theorem and_one (x : Int) : bits .and .i64 x 1 = x % 2 := by
  show IntKind.i64.wrap ((BitVec.ofInt 64 x &&& BitVec.ofInt 64 1).toNat : Int) = _
  rw [BitVec.toNat_and, show (BitVec.ofInt 64 1).toNat = 1 from rfl, Nat.and_one_is_mod, BitVec.toNat_ofInt, IntKind.wrap_i64]
  omega
theorem hasB_eq (a : Int) (k : Nat) : hasB a k = decide (a / 2 ^ k % 2 = 1) := by
  unfold hasB
  rw [and_one]
  by_cases h : a / 2 ^ k % 2 = 1 <;> simp [h]
theorem hasB_and (a b : Int) (k : Nat) (hk : k < 5) : hasB (bits .and .i64 a b) k = (hasB a k && hasB b k) := by
  rw [hasB_eq, hasB_eq, hasB_eq]
  have e : bits .and .i64 a b = IntKind.i64.wrap ((((a % 18446744073709551616).toNat &&& (b % 18446744073709551616).toNat : Nat)) : Int) := by
    show IntKind.i64.wrap ((BitVec.ofInt 64 a &&& BitVec.ofInt 64 b).toNat : Int) = _
    rw [BitVec.toNat_and, BitVec.toNat_ofInt, BitVec.toNat_ofInt]; rfl
  rw [e, IntKind.wrap_i64]
  have t := Nat.testBit_and (a % 18446744073709551616).toNat (b % 18446744073709551616).toNat k
  rw [Nat.testBit_eq_decide_div_mod_eq, Nat.testBit_eq_decide_div_mod_eq, Nat.testBit_eq_decide_div_mod_eq] at t
  generalize (a % 18446744073709551616).toNat &&& (b % 18446744073709551616).toNat = m at t
  have ha : (decide ((a % 18446744073709551616).toNat / 2 ^ k % 2 = 1)) = decide (a / 2 ^ k % 2 = 1) := by
    apply decide_eq_decide.2
    match k, hk with
    | 0, _ => omega
    | 1, _ => omega
    | 2, _ => omega
    | 3, _ => omega
    | 4, _ => omega
  have hb : (decide ((b % 18446744073709551616).toNat / 2 ^ k % 2 = 1)) = decide (b / 2 ^ k % 2 = 1) := by
    apply decide_eq_decide.2
    match k, hk with
    | 0, _ => omega
    | 1, _ => omega
    | 2, _ => omega
    | 3, _ => omega
    | 4, _ => omega
  rw [← ha, ← hb, ← t]
  apply decide_eq_decide.2
  match k, hk with
  | 0, _ => omega
  | 1, _ => omega
  | 2, _ => omega
  | 3, _ => omega
  | 4, _ => omega
theorem setL_and (a b : Int) : setL (bits .and .i64 a b) = (List.range 5).filter (fun k => hasB a k && hasB b k) := by
  unfold setL setTo
  apply List.filter_congr
  intro k hk
  exact hasB_and a b k (by simpa using hk)
theorem count_both (l : List Nat) (p q r : Nat → Bool) :
    (l.filter fun k => p k && r k).length + (l.filter fun k => q k && r k).length ≤ (l.filter r).length + (l.filter fun k => p k && q k && r k).length := by
  induction l with
  | nil => simp
  | cons x xs ih =>
    simp only [List.filter_cons]
    cases p x <;> cases q x <;> cases r x <;> simp <;> omega
theorem setL_and3 (a b c : Int) : setL (bits .and .i64 (bits .and .i64 a b) c) = (List.range 5).filter (fun k => hasB a k && hasB b k && hasB c k) := by
  rw [setL_and]
  apply List.filter_congr
  intro k hk
  rw [hasB_and a b k (by simpa using hk)]
theorem halves (a b c : Int) (ha : mostB a c = true) (hb : mostB b c = true) : 0 < (setL (bits .and .i64 (bits .and .i64 a b) c)).length := by
  unfold mostB at ha hb
  rw [decide_eq_true_eq, setL_and] at ha hb
  rw [setL_and3]
  have := count_both (List.range 5) (hasB a) (hasB b) (hasB c)
  have hc : (setL c).length = ((List.range 5).filter (hasB c)).length := rfl
  omega
theorem setL_self (a : Int) : setL (bits .and .i64 a a) = setL a := by
  rw [setL_and]; unfold setL setTo; apply List.filter_congr; intro k _; simp
theorem setL_zero (a : Int) : setL (bits .and .i64 0 a) = [] := by
  rw [setL_and, List.filter_eq_nil_iff]
  intro k _
  rw [hasB_eq]; simp
theorem most_self (a : Int) : mostB a a = decide (0 < (setL a).length) := by
  unfold mostB; rw [setL_self]; apply decide_eq_decide.2; omega
theorem most_zero (a : Int) : mostB 0 a = false := by
  unfold mostB; rw [setL_zero]; simp
end Go.Proofs.Ytoknodkgmeinmaa
