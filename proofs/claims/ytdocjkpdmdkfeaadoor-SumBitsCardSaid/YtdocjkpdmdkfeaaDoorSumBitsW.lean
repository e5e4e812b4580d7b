/- The walk of SumBits: it returns true at all arguments and leaves what was there as it was. -/
import Derived.Test.YtdocjkpdmdkfeaaDoorSum02
import Derived.OpenShut
namespace Go.Proofs.YtdocjkpdmdkfeaaDoor
open Go.RowKit
namespace sumBits
/-- The register of the law's own loop, once k bits of a byte are in. -/
def bitSt (s : BitVec 32) (c : Int) (k : Nat) : BitVec 32 := crcN k (s ^^^ crcB c) ^^^ (crcB c >>> k)
theorem bitSt_zero (s : BitVec 32) (c : Int) : bitSt s c 0 = s := by simp [bitSt, crcN, BitVec.xor_assoc]
theorem bitSt_eight (s : BitVec 32) (c : Int) (h0 : 0 ≤ c) (h1 : c < 256) : bitSt s c 8 = crcStep s c := by
  have : crcB c >>> 8 = 0#32 := by
    apply BitVec.eq_of_toNat_eq
    rw [BitVec.toNat_ushiftRight, Nat.shiftRight_eq_div_pow]
    have := crcB_nat h0 h1
    show _ = 0
    omega
  rw [bitSt, this, BitVec.xor_zero]; rfl
theorem bitSt_succ (s : BitVec 32) (c : Int) (k : Nat) : bitSt s c (k + 1) = if ((bitSt s c k).getLsbD 0 ^^ (crcB c).getLsbD k) then (bitSt s c k >>> 1) ^^^ crcP else bitSt s c k >>> 1 := by
  have e : ((bitSt s c k).getLsbD 0 ^^ (crcB c).getLsbD k) = (crcN k (s ^^^ crcB c)).getLsbD 0 := by
    rw [bitSt, BitVec.getLsbD_xor, BitVec.getLsbD_ushiftRight, Nat.add_zero]; cases (crcN k (s ^^^ crcB c)).getLsbD 0 <;> cases (crcB c).getLsbD k <;> rfl
  rw [e, bitSt, bitSt, crcN, crcG, BitVec.ushiftRight_xor_distrib, ← BitVec.shiftRight_add]
  split
  · rw [BitVec.xor_assoc, BitVec.xor_comm crcP, ← BitVec.xor_assoc]
  · rfl
theorem u64_and1 (n : Nat) (h : n < 4294967296) : bits .and .u64 (n : Int) 1 = ((n % 2 : Nat) : Int) := by
  rw [show (1 : Int) = ((1 : Nat) : Int) from rfl, u64_and_nat _ _ (by omega) (by omega), Nat.and_one_is_mod]
theorem u8_and1 (n : Nat) (h : n < 256) : bits .and .u8 (n : Int) 1 = ((n % 2 : Nat) : Int) := by
  rw [show (1 : Int) = ((1 : Nat) : Int) from rfl, u8_and_nat _ _ (by omega) (by omega), Nat.and_one_is_mod]
theorem lsb_mod (x : BitVec 32) (k : Nat) : x.getLsbD k = decide (x.toNat / 2 ^ k % 2 = 1) := by
  rw [BitVec.getLsbD, Nat.testBit_eq_decide_div_mod_eq]
def Bit (s : BitVec 32) (c : Int) (k : Nat) (r : Nat) : Prop :=
  (r = 1 ∧ bits .xor .u64 (((bitSt s c k).toNat : Int) / 2) 3988292384 = ((bitSt s c (k + 1)).toNat : Int)) ∨ (r = 0 ∧ ((bitSt s c k).toNat : Int) / 2 = ((bitSt s c (k + 1)).toNat : Int))
theorem bit_facts (s : BitVec 32) (c : Int) (k : Nat) (h0 : 0 ≤ c) (h1 : c < 256) : ∃ m1 m2 r : Nat, bits .and .u64 ((bitSt s c k).toNat : Int) 1 = (m1 : Int) ∧ m1 < 2 ∧ bits .and .u8 (c / 2 ^ k) 1 = (m2 : Int) ∧ m2 < 2 ∧
    bits .xor .u64 (m1 : Int) (m2 : Int) = (r : Int) ∧ Bit s c k r := by
  have hb := crcB_nat h0 h1
  have hy := (bitSt s c k).isLt
  have hlt : (crcB c).toNat / 2 ^ k < 256 := Nat.lt_of_le_of_lt (Nat.div_le_self _ _) (by omega)
  refine ⟨(bitSt s c k).toNat % 2, (crcB c).toNat / 2 ^ k % 2, ((bitSt s c k).toNat % 2 + (crcB c).toNat / 2 ^ k % 2) % 2, u64_and1 _ hy, by omega, ?_, by omega, ?_, ?_⟩
  · have e : c / 2 ^ k = (((crcB c).toNat / 2 ^ k : Nat) : Int) := by rw [← hb]; norm_cast; rw [hb]
    rw [e]
    exact u8_and1 _ hlt
  · rw [u64_xor_nat _ _ (by omega) (by omega)]
    have a := Nat.mod_two_eq_zero_or_one (bitSt s c k).toNat
    have b := Nat.mod_two_eq_zero_or_one ((crcB c).toNat / 2 ^ k)
    rcases a with a | a <;> rcases b with b | b <;> rw [a, b] <;> rfl
  · have hs := bitSt_succ s c k
    rw [lsb_mod, lsb_mod, Nat.pow_zero, Nat.div_one] at hs
    unfold Bit
    have h2 : ((bitSt s c k).toNat : Int) / 2 = (((bitSt s c k).toNat / 2 : Nat) : Int) := by omega
    have a := Nat.mod_two_eq_zero_or_one (bitSt s c k).toNat
    have b := Nat.mod_two_eq_zero_or_one ((crcB c).toNat / 2 ^ k)
    have yes : bitSt s c (k + 1) = (bitSt s c k >>> 1) ^^^ crcP → bits .xor .u64 (((bitSt s c k).toNat : Int) / 2) 3988292384 = ((bitSt s c (k + 1)).toNat : Int) := by
      intro e
      rw [e, h2, show (3988292384 : Int) = ((3988292384 : Nat) : Int) from rfl, u64_xor_nat _ _ (by omega) (by omega), BitVec.toNat_xor, BitVec.toNat_ushiftRight, Nat.shiftRight_eq_div_pow]; rfl
    have no : bitSt s c (k + 1) = bitSt s c k >>> 1 → ((bitSt s c k).toNat : Int) / 2 = ((bitSt s c (k + 1)).toNat : Int) := by
      intro e
      rw [e, h2, BitVec.toNat_ushiftRight, Nat.shiftRight_eq_div_pow]
    rcases a with a | a <;> rcases b with b | b <;> rw [a, b] at hs ⊢
    · exact .inr ⟨rfl, no (by simpa using hs)⟩
    · exact .inl ⟨rfl, yes (by simpa using hs)⟩
    · exact .inl ⟨rfl, yes (by simpa using hs)⟩
    · exact .inr ⟨rfl, no (by simpa using hs)⟩
theorem not64 (x : BitVec 32) : bits .xor .u64 (x.toNat : Int) 4294967295 = ((~~~x).toNat : Int) := by
  have := x.isLt
  rw [show (4294967295 : Int) = ((4294967295 : Nat) : Int) from by decide, u64_xor_nat _ _ (by omega) (by omega), ← BitVec.allOnes_xor, BitVec.toNat_xor, Nat.xor_comm]
  rfl

set_option maxHeartbeats 1600000 in
theorem walk (w : World) (hL : Laid w) (A : Option Addr) (n c : Nat) (xs : List Int) (hr : Reads w w.heap.size 1 A n (xs.map (Value.int .u8))) (_ : n ≤ c) (_ : c ≤ maxLen) (hm : c * 1 ≤ 140737488351232) (hwf : ∀ z ∈ xs, (Lit.int .u8 z).wf = true) :
    Calls Tryd.prog 4 #[.slice A n c] w fun e w' => e = .returned (.bool true) ∧ Below w.heap.size w w' := by
  have L1 : Hid (xs.length = n) := hide (by have := hr.1; simpa using this)
  have b1 := bytes_bd hwf
  clear hwf
  go_enter Tryd.func4, Tryd.ntmps4
  go_wp2_with fail
  refine (fit_any _ hL).mono ?_
  rintro e w1 ⟨rfl, hb1⟩
  have hL1 := hL.below hb1 hL.lt
  have p1 : Part.Fit w1 ⟨A, n, c, xs⟩ := Part.Fit.below (w := w) ⟨hr, by show n ≤ _; omega, b1⟩ hb1
  clear hr
  by_cases hbig : 500 < n
  · go_wp2_with fail
    go_ret
    exact ⟨rfl, hb1⟩
  · go_wp2_with fail
    go_loop [3, 15] (fun r i => ∃ (j : Nat) (y : BitVec 32), j ≤ n ∧ i = .int .i64 j ∧ r = .int .u64 (y.toNat : Int) ∧ Hid (crcSt crcAll xs = crcSt y (xs.drop j))) (fun _ i => n - (intOf i).toNat)
    case atStart => exact ⟨0, crcAll, Nat.zero_le _, rfl, rfl, hide rfl⟩
    case round =>
      obtain ⟨j, y, hj, rfl, rfl, HY⟩ := hrel
      by_cases hlt : j < n
      · obtain ⟨b, off, rfl, _, hd0⟩ := p1.1.ints (show 0 < n by omega)
        have hd := hd0 j hlt
        have hjl : j < xs.length := by rw [L1.out]; exact hlt
        have hbd : 0 ≤ xs.getD j 0 ∧ xs.getD j 0 < 256 := by
          have := b1 (xs[j]) (List.getElem_mem _)
          simpa [List.getD, hjl] using this
        have HZ1 : Hid (crcSt crcAll xs = crcSt (crcStep y (xs.getD j 0)) (xs.drop (j + 1))) := by
          refine HY.out.trans ?_
          rw [List.drop_eq_getElem_cons hjl, crcSt_cons]; simp [List.getD, hjl]
        clear hd0 HY
        generalize xs.getD j 0 = z at hd hbd HZ1
        obtain ⟨hb0, hb1'⟩ := hbd
        have hy := y.isLt
        go_wp2_with fail
        go_loop [3, 19] (fun r i => ∃ k : Nat, k ≤ 8 ∧ i = .int .i64 k ∧ r = .int .u64 ((bitSt y z k).toNat : Int)) (fun _ i => 8 - (intOf i).toNat)
        case atStart => exact ⟨0, Nat.zero_le _, rfl, by rw [bitSt_zero]⟩
        case round =>
          obtain ⟨k, hk, rfl, rfl⟩ := hrel
          by_cases hk8 : k < 8
          · obtain ⟨m1, m2, r, e1, e2, e3, e4, e5, e6⟩ := bit_facts y z k hb0 hb1'
            generalize HB : bitSt y z (k + 1) = B2
            unfold Bit at e6
            rw [HB] at e6
            have HB := hide HB
            generalize bitSt y z k = B1 at e1 e6
            have hB1 := B1.isLt
            have hB2 := B2.isLt
            rcases e6 with ⟨rfl, e7⟩ | ⟨rfl, e7⟩
            · go_wp2
              go_round
              case rel => exact ⟨k + 1, by omega, by go_num, by rw [HB.out]⟩
              case measure => simp [intOf]; omega
            · go_wp2
              go_round
              case rel => exact ⟨k + 1, by omega, by go_num, by rw [HB.out]⟩
              case measure => simp [intOf]; omega
          · obtain rfl : k = 8 := by omega
            have HE : Hid (bitSt y z 8 = crcStep y z) := bitSt_eight y z hb0 hb1'
            generalize bitSt y z 8 = B1 at HE
            go_wp2
            go_round
            case rel => exact ⟨j + 1, B1, by omega, by go_num, rfl, hide (by rw [HZ1.out, HE.out])⟩
            case measure => simp [intOf]; omega
      · have HF : Hid (crcSt crcAll xs = y) := by
          have := HY.out
          rw [List.drop_of_length_le (by rw [L1.out]; omega)] at this
          exact this
        clear HY
        have hy := y.isLt
        have hyn := (~~~y).isLt
        have e1 := not64 y
        have hc : crcOf xs = ((~~~y).toNat : Int) := by rw [crcOf, HF.out]
        go_wp2_with fail
        refine (of_one _ A n c xs w1 rfl hL1 p1).mono ?_
        rintro e w' ⟨rfl, rfl⟩
        rw [hc]
        clear hc
        go_wp2_with fail
        go_ret
        exact ⟨by simp, hb1.alloc hb1.size _⟩
end sumBits
end Go.Proofs.YtdocjkpdmdkfeaaDoor
