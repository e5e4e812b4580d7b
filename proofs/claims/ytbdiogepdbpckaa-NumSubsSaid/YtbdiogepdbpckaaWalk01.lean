/- The walks of layer 1's laws: each returns true at all arguments and leaves what was there as it was. -/
import Derived.Test.YtbdiogepdbpckaaFit01
import Derived.OpenShut
namespace Go.Proofs.Ytbdiogepdbpckaa
open Go.RowKit

namespace numSubs
set_option maxHeartbeats 800000 in
theorem walk (w : World) (a : Int) (a0 : -9223372036854775808 ≤ a) (a1 : a ≤ 9223372036854775807) (b : Int) (b0 : -9223372036854775808 ≤ b) (b1 : b ≤ 9223372036854775807) :
    Calls Try.prog 4 #[.int .i64 a, .int .i64 b] w fun e w' => e = .returned (.bool true) ∧ Below w.heap.size w w' := by
  go_enter Try.func4, Try.ntmps4
  go_wp2_with fail
  refine (fit_any _).mono ?_
  rintro e w1 ⟨rfl, hb1⟩
  by_cases ha : a < 0 ∨ 1099511627776 < a
  · go_wp2_with fail
    refine (sub_bad a b _ (.inl ha)).mono ?_
    rintro e w' ⟨rfl, rfl⟩
    by_cases hal : a < 0
    · have d1 : decide (0 ≤ a) = false := by simpa using hal
      go_wp2_with (go_at_call 11; refine (right_no a _ ha).mono ?_; rintro e w' ⟨rfl, rfl⟩)
      go_ret
      exact ⟨rfl, hb1⟩
    · have d1 : decide (0 ≤ a) = true := by simp; omega
      have d2 : decide (a ≤ 1099511627776) = false := by simp; omega
      go_wp2_with (go_at_call 11; refine (right_no a _ ha).mono ?_; rintro e w' ⟨rfl, rfl⟩)
      go_ret
      exact ⟨rfl, hb1⟩
  · have d1 : decide (0 ≤ a) = true := by simp; omega
    have d2 : decide (a ≤ 1099511627776) = true := by simp; omega
    by_cases hbad : b < 0 ∨ 1099511627776 < b
    · go_wp2_with fail
      refine (sub_bad a b _ (.inr hbad)).mono ?_
      rintro e w' ⟨rfl, rfl⟩
      go_wp2_with fail
      refine (right_yes a _ (by omega) (by omega)).mono ?_
      rintro e w' ⟨rfl, rfl⟩
      go_wp2_with fail
      refine (right_no b _ hbad).mono ?_
      rintro e w' ⟨rfl, rfl⟩
      go_wp2_with fail
      refine (right_yes a _ (by omega) (by omega)).mono ?_
      rintro e w' ⟨rfl, rfl⟩
      go_wp2_with fail
      go_ret
      exact ⟨rfl, hb1⟩
    · by_cases hlt : a < b
      · go_wp2_with fail
        refine (sub_over a b _ (by omega) (by omega) (by omega) (by omega) hlt).mono ?_
        rintro e w' ⟨rfl, rfl⟩
        go_wp2_with fail
        refine (right_yes a _ (by omega) (by omega)).mono ?_
        rintro e w' ⟨rfl, rfl⟩
        go_wp2_with fail
        refine (right_yes b _ (by omega) (by omega)).mono ?_
        rintro e w' ⟨rfl, rfl⟩
        go_wp2_with fail
        refine (right_yes a _ (by omega) (by omega)).mono ?_
        rintro e w' ⟨rfl, rfl⟩
        go_wp2_with fail
        go_ret
        exact ⟨rfl, hb1⟩
      · go_wp2_with fail
        refine (sub_ok a b _ (by omega) (by omega) (by omega) (by omega) (by omega)).mono ?_
        rintro e w' ⟨rfl, rfl⟩
        go_wp2_with fail
        refine (right_yes a _ (by omega) (by omega)).mono ?_
        rintro e w' ⟨rfl, rfl⟩
        go_wp2_with fail
        refine (right_yes b _ (by omega) (by omega)).mono ?_
        rintro e w' ⟨rfl, rfl⟩
        go_wp2_with fail
        refine (right_yes a _ (by omega) (by omega)).mono ?_
        rintro e w' ⟨rfl, rfl⟩
        go_wp2_with fail
        refine (add_two (a - b) b _).mono ?_
        rintro e w' ⟨rfl, rfl⟩
        have hs : addF 0 [a - b, b] = (a, 0) := by
          rw [addF_step _ _ _ (by omega) (by omega) (by omega), addF_step _ _ _ (by omega) (by omega) (by omega), addF]
          congr 1; omega
        rw [hs]
        clear hs
        go_wp2_with fail
        go_ret
        exact ⟨by simp, hb1.alloc hb1.size _⟩
end numSubs
end Go.Proofs.Ytbdiogepdbpckaa
