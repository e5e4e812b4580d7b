/- Plain facts on int's bits: or of what does not meet, and with a mask. -/
import Derived.Test.YtoknodkgmeinmaaBase
import Derived.Laws.BitsAllLaws
import Derived.IntWalk
namespace Go.Proofs.Ytoknodkgmeinmaa
open Go.RowKit

theorem i64_or_nat (a b : Nat) (ha : a < 9223372036854775808) (hb : b < 9223372036854775808) : bits .or .i64 (a : Int) (b : Int) = ((a ||| b : Nat) : Int) := by
  show IntKind.i64.wrap ((BitVec.ofInt 64 a ||| BitVec.ofInt 64 b).toNat : Int) = _
  have h : a ||| b < 2 ^ 63 := Nat.or_lt_two_pow (by omega) (by omega)
  rw [BitVec.toNat_or, BitVec.toNat_ofInt, BitVec.toNat_ofInt, IntKind.wrap_i64]
  have e1 : ((a : Int) % (2 ^ 64 : Nat)).toNat = a := by omega
  have e2 : ((b : Int) % (2 ^ 64 : Nat)).toNat = b := by omega
  rw [e1, e2]
  omega
theorem i64_and_mask (n : Int) (k : Nat) (hk : k < 63) : bits .and .i64 n ((2 ^ k - 1 : Nat) : Int) = n % 2 ^ k := by
  have hp : 2 ^ k ≤ 2 ^ 62 := Nat.pow_le_pow_right (by omega) (by omega)
  have hp0 : 0 < 2 ^ k := Nat.pow_pos (by omega)
  show IntKind.i64.wrap ((BitVec.ofInt 64 n &&& BitVec.ofInt 64 ((2 ^ k - 1 : Nat) : Int)).toNat : Int) = _
  rw [BitVec.toNat_and, BitVec.toNat_ofInt, BitVec.toNat_ofInt, IntKind.wrap_i64]
  have e2 : (((2 ^ k - 1 : Nat) : Int) % (2 ^ 64 : Nat)).toNat = 2 ^ k - 1 := by omega
  rw [e2, Nat.and_two_pow_sub_one_eq_mod]
  have hd : (2 : Nat) ^ 64 = 2 ^ k * 2 ^ (64 - k) := by rw [← Nat.pow_add]; congr 1; omega
  have e3 : ((n % (2 ^ 64 : Nat)).toNat % 2 ^ k : Nat) = (n % 2 ^ k : Int).toNat := by
    have h1 : (n % (2 ^ 64 : Nat) : Int) % (2 ^ k : Nat) = n % (2 ^ k : Nat) := by
      rw [hd, Int.natCast_mul]
      exact Int.emod_emod_of_dvd _ (Int.dvd_mul_right _ _)
    have h2 : 0 ≤ n % ((2 ^ 64 : Nat) : Int) := Int.emod_nonneg _ (by omega)
    have h3 : ((2 ^ k : Nat) : Int) = 2 ^ k := by push_cast; rfl
    rw [← h3, ← h1]
    obtain ⟨m, hm⟩ := Int.eq_ofNat_of_zero_le h2
    rw [hm, Int.toNat_natCast, ← Int.natCast_emod, Int.toNat_natCast]
  rw [e3]
  have h4 : 0 ≤ n % (2 : Int) ^ k := Int.emod_nonneg _ (by have : (0 : Int) < 2 ^ k := Int.pow_pos (by omega); omega)
  have h5 : n % (2 : Int) ^ k < ((2 ^ k : Nat) : Int) := by
    have : (0 : Int) < 2 ^ k := Int.pow_pos (by omega)
    have := Int.emod_lt_of_pos n this
    push_cast; exact this
  omega
end Go.Proofs.Ytoknodkgmeinmaa
