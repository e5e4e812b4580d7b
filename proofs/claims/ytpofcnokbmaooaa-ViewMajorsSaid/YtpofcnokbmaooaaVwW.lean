/- The contract of view's Witnesses. -/
import Derived.Test.YtpofcnokbmaooaaVwM
import Derived.Deep.DeepMust
namespace Go.Proofs.Ytpofcnokbmaooaa
open Go.RowKit

def witL (k n : Nat) : List Nat := (List.range n).map fun j => (k + 1 + j) % 5
theorem witL_succ (k n : Nat) : witL k (n + 1) = witL k n ++ [(k + 1 + n) % 5] := by
  simp [witL, List.range_succ]
theorem witL_len (k n : Nat) : (witL k n).length = n := by simp [witL]
set_option maxHeartbeats 800000 in
theorem witnesses_any (k : Nat) (hk : k < 5) (w : World) :
    Calls Try.prog 13 #[.int .i64 (k : Int)] w fun e w' => ∃ A c, e = .returned (.slice A 2 c) ∧ Reads w' w'.heap.size 1 A 2 [natV ((k + 1) % 5), natV ((k + 2) % 5)] ∧ Below w.heap.size w w' := by
  obtain ⟨i0, hi, hz0, hz1, hz2⟩ := info_parts Try.info3
  have hk5 : inK (k : Int) 5 = true := inK_true.2 ⟨by omega, by omega⟩
  go_enter Try.func13, Try.ntmps13
  go_wp2_with fail
  (with_reducible refine (mach_any (k : Int) w).mono ?_)
  rintro e w' ⟨rfl, rfl⟩
  rw [hk5]
  go_wp2_with fail
  go_loopw [3, 4, 8] (fun s _ i wr => ∃ (j : Nat), j ≤ 2 ∧ i = .int .i64 j ∧ wr.ownsRow w.heap.size 3 1 s j ((witL k j).map natV) ∧ Below w.heap.size w wr) (fun _ _ i _ => 2 - (intOf i).toNat)
  case atStart => exact ⟨0, Nat.zero_le _, rfl, ⟨rfl, .inl ⟨rfl, rfl⟩⟩, Below.refl _ _⟩
  case round =>
    obtain ⟨j, hj, rfl, hown, hb⟩ := hrel
    by_cases hlt : j < 2
    · have hsz := hb.size
      have hm : ((k : Int) + 1 + (j : Int)) % 5 = (((k + 1 + j) % 5 : Nat) : Int) := by push_cast; rfl
      have hm2 : ((k : Int) + 1 + (j : Int)).tmod 5 = (((k + 1 + j) % 5 : Nat) : Int) := by rw [Int.tmod_eq_emod_of_nonneg (by omega), hm]
      have hw := witL_succ k j
      generalize (k + 1 + j) % 5 = r at hm hm2 hw
      have HW := hide hw
      clear hw
      go_wp2_with (at_builtin; go_must (refine wpList_append_any _ rfl (.tmp 11) (.tmp 17) 38 rfl w.heap.size 3 i0 (.int .i64 0) 1 8 Try.underlying38 hi hz0 hz1 hz2 rfl (by decide) _ _ _ rfl (hown.alloc _) (wr.heap.size + 1) (some ⟨wr.heap.size, 0, none⟩) 1 1 [natV r] rfl (reads_one _ _ _) (oneCell_natV [r]) (by unfold maxLen; omega) (by omega) (by simp; omega) ?_; intro v' w1 hown' hgrow _))
      have hb1 : Below w.heap.size w w1 := (hb.alloc hsz _).grown hgrow (by simp; omega) (own_base hown)
      go_roundw
      case rel => exact ⟨j + 1, by omega, by go_num, by rw [HW.out]; simpa using hown', hb1⟩
      case measure => simp [intOf]; omega
    · obtain rfl : j = 2 := by omega
      obtain ⟨A, c, rfl⟩ := own_slice hown
      have hR := Reads.of_own hown
      have e1 : (witL k 2).map natV = [natV ((k + 1) % 5), natV ((k + 2) % 5)] := rfl
      rw [e1] at hR
      go_wp2
      go_ret
      exact ⟨_, _, rfl, hR, hb⟩
end Go.Proofs.Ytpofcnokbmaooaa
