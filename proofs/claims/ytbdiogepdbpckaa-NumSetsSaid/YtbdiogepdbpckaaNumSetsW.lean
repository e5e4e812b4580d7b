/- The walk of NumSets: it returns true at all arguments and leaves what was there as it was. -/
import Derived.Test.YtbdiogepdbpckaaFit01
import Derived.Test.YtbdiogepdbpckaaBits
namespace Go.Proofs.Ytbdiogepdbpckaa.numSets
open Go.RowKit

theorem setTo_split (a : Int) (k : Nat) (hk : k ≤ 5) : ∃ r, setL a = setTo a k ++ r := by
  refine ⟨((List.range' k (5 - k)).filter (hasB a)), ?_⟩
  unfold setL setTo
  rw [← List.filter_append]
  congr 1
  match k, hk with
  | 0, _ => rfl
  | 1, _ => rfl
  | 2, _ => rfl
  | 3, _ => rfl
  | 4, _ => rfl
  | 5, _ => rfl
theorem setL_at (a : Int) (k : Nat) (hk : k < 5) (h : hasB a k = true) : (setTo a k).length < (setL a).length ∧ (setL a)[(setTo a k).length]? = some k := by
  obtain ⟨r, hr⟩ := setTo_split a (k + 1) (by omega)
  rw [hr, setTo_yes h]
  constructor
  · simp
  · simp
theorem bit01 (b : Int) (k : Nat) : 0 ≤ bits .and .i64 (b / 2 ^ k) 1 ∧ bits .and .i64 (b / 2 ^ k) 1 ≤ 1 := by
  rw [and_one]; omega
theorem len_step (b : Int) (k : Nat) : ((setTo b k).length : Int) + bits .and .i64 (b / 2 ^ k) 1 = ((setTo b (k + 1)).length : Int) := by
  cases h : hasB b k
  · rw [setTo_no h]
    rw [hasB_eq, decide_eq_false_iff_not] at h
    rw [and_one]; omega
  · rw [setTo_yes h]
    rw [hasB_eq, decide_eq_true_eq] at h
    rw [and_one, h]; simp

set_option maxHeartbeats 1600000 in
theorem walk (w : World) (a : Int) (_ : -9223372036854775808 ≤ a) (_ : a ≤ 9223372036854775807) (b : Int) (_ : -9223372036854775808 ≤ b) (_ : b ≤ 9223372036854775807) :
    Calls Try.prog 5 #[.int .i64 a, .int .i64 b] w fun e w' => e = .returned (.bool true) ∧ Below w.heap.size w w' := by
  have l1 := setL_le a
  go_enter Try.func5, Try.ntmps5
  go_wp2_with fail
  refine (fit_any _).mono ?_
  rintro e w1 ⟨rfl, hb1⟩
  go_wp2_with fail
  refine (set_slice a _).mono ?_
  rintro e w2 ⟨A2, c2, rfl, hr2, hb2⟩
  have hB2 := hb1.trans (hb2.mono hb1.size)
  go_wp2_with fail
  go_loop [6, 15] (fun q i => ∃ k : Nat, k ≤ 5 ∧ i = .int .i64 k ∧ q = .int .i64 ((setTo a k).length : Nat)) (fun _ i => 5 - (intOf i).toNat)
  case atStart => exact ⟨0, Nat.zero_le _, rfl, rfl⟩
  case round =>
    obtain ⟨k, hk, rfl, rfl⟩ := hrel
    by_cases hlt : k < 5
    · cases ht : hasB a k
      · have ht' : (bits BinOp.and IntKind.i64 (a / 2 ^ k) 1 == 1) = false := ht
        have HT := hide ht
        clear ht
        go_wp2
        go_round
        case rel => exact ⟨k + 1, by omega, by go_num, by rw [setTo_no (unhide HT)]⟩
        case measure => simp [intOf]; omega
      · obtain ⟨hl, hx⟩ := setL_at a k hlt ht
        have HT := hide ht
        have ht' : (bits BinOp.and IntKind.i64 (a / 2 ^ k) 1 == 1) = true := ht
        clear ht
        obtain ⟨bb, off, rfl, _, hc0⟩ := hr2.plain (by omega)
        have hc : w2.cell? ⟨bb, off + (setTo a k).length, none⟩ = some (.int .i64 k) := hc0 _ _ (by rw [List.getElem?_map, hx]; rfl)
        clear hc0 hr2 hx
        have d1 : decide ((setL a).length ≤ (setTo a k).length) = false := by simp; omega
        have hle := setTo_le a k
        go_wp2
        go_round
        case rel => exact ⟨k + 1, by omega, by go_num, by rw [setTo_yes (unhide HT)]; simp⟩
        case measure => simp [intOf]; omega
    · obtain rfl : k = 5 := by omega
      clear hr2 hlt
      go_wp2
      go_loop [8, 9, 38] (fun p q i => ∃ k : Nat, k ≤ 5 ∧ i = .int .i64 k ∧ q = .int .i64 ((setTo b k).length : Nat) ∧ p = .int .i64 ((setTo (bits .and .i64 a b) k).length : Nat)) (fun _ _ i => 5 - (intOf i).toNat)
      case atStart => exact ⟨0, Nat.zero_le _, rfl, rfl, rfl⟩
      case round =>
        obtain ⟨k, hk, rfl, rfl, rfl⟩ := hrel
        have e1 := setTo_le b k
        have e2 := setTo_le (bits .and .i64 a b) k
        by_cases hlt : k < 5
        · obtain ⟨b0, b1⟩ := bit01 b k
          obtain ⟨c0, c1⟩ := bit01 (bits .and .i64 a b) k
          have S1 := hide (len_step b k)
          have S2 := hide (len_step (bits .and .i64 a b) k)
          go_wp2
          go_round
          case rel => exact ⟨k + 1, by omega, by go_num, by rw [← unhide S1], by rw [← unhide S2]⟩
          case measure => simp [intOf]; omega
        · obtain rfl : k = 5 := by omega
          have d1 : ((setTo a 5).length == (setL a).length) = true := by simp [setL]
          go_wp2_with fail
          refine (most_any a b _).mono ?_
          rintro e w3 ⟨rfl, hb3⟩
          have hB3 := hB2.trans (hb3.mono hB2.size)
          have hm : (mostB a b == decide (((setTo b 5).length : Int) < 2 * ((setTo (bits .and .i64 a b) 5).length : Int))) = true := by
            have : mostB a b = decide (((setTo b 5).length : Int) < 2 * ((setTo (bits .and .i64 a b) 5).length : Int)) := by
              unfold mostB setL; apply decide_eq_decide.2; omega
            rw [this]; cases decide (((setTo b 5).length : Int) < 2 * ((setTo (bits .and .i64 a b) 5).length : Int)) <;> rfl
          go_wp2_with fail
          go_ret
          exact ⟨by simp_all, hB3⟩
end Go.Proofs.Ytbdiogepdbpckaa.numSets
