/- The walk of NumHalves: it returns true at all arguments and leaves what was there as it was. -/
import Derived.Test.YtbdiogepdbpckaaFit01
import Derived.Test.YtbdiogepdbpckaaBits
namespace Go.Proofs.Ytbdiogepdbpckaa.numHalves
open Go.RowKit

theorem beq_self_decide (p : Bool) : (p == p) = true := by cases p <;> rfl

/-- Behind the test: the last line. -/
theorem tail_eq (c : Int) : (mostB c c == decide (0 < (setL c).length)) = true := by
  rw [most_self]; exact beq_self_decide _

set_option maxHeartbeats 1600000 in
theorem walk (w : World) (a : Int) (_ : -9223372036854775808 ≤ a) (_ : a ≤ 9223372036854775807) (b : Int) (_ : -9223372036854775808 ≤ b) (_ : b ≤ 9223372036854775807) (c : Int) (_ : -9223372036854775808 ≤ c) (_ : c ≤ 9223372036854775807) :
    Calls Try.prog 7 #[.int .i64 a, .int .i64 b, .int .i64 c] w fun e w' => e = .returned (.bool true) ∧ Below w.heap.size w w' := by
  have l1 := setL_le (bits .and .i64 (bits .and .i64 a b) c)
  have l2 := setL_le c
  go_enter Try.func7, Try.ntmps7
  go_wp2_with fail
  refine (fit_any _).mono ?_
  rintro e w1 ⟨rfl, hb1⟩
  cases ha : mostB a c with
  | false =>
    go_wp2_with fail
    refine (most_no a c _ ha).mono ?_
    rintro e w2 ⟨rfl, hb2⟩
    clear ha
    have hB2 := hb1.trans (hb2.mono hb1.size)
    go_wp2_with fail
    refine (most_any c c _).mono ?_
    rintro e w3 ⟨rfl, hb3⟩
    have hB3 := hB2.trans (hb3.mono hB2.size)
    go_wp2_with fail
    refine (set_slice c _).mono ?_
    rintro e w4 ⟨A4, c4, rfl, _, hb4⟩
    have hB4 := hB3.trans (hb4.mono hB3.size)
    have ht := tail_eq c
    go_wp2_with fail
    refine (most_no 0 c _ (most_zero c)).mono ?_
    rintro e w5 ⟨rfl, hb5⟩
    have hB5 := hB4.trans (hb5.mono hB4.size)
    go_wp2_with fail
    go_ret
    exact ⟨rfl, hB5⟩
  | true =>
    go_wp2_with fail
    refine (most_yes a c _ ha).mono ?_
    rintro e w2 ⟨rfl, hb2⟩
    have Ha := hide ha
    clear ha
    have hB2 := hb1.trans (hb2.mono hb1.size)
    cases hq : mostB b c with
    | false =>
      go_wp2_with fail
      refine (most_no b c _ hq).mono ?_
      rintro e w3 ⟨rfl, hb3⟩
      clear hq
      have hB3 := hB2.trans (hb3.mono hB2.size)
      go_wp2_with fail
      refine (most_any c c _).mono ?_
      rintro e w4 ⟨rfl, hb4⟩
      have hB4 := hB3.trans (hb4.mono hB3.size)
      go_wp2_with fail
      refine (set_slice c _).mono ?_
      rintro e w5 ⟨A5, c5, rfl, _, hb5⟩
      have hB5 := hB4.trans (hb5.mono hB4.size)
      have ht := tail_eq c
      go_wp2_with fail
      refine (most_no 0 c _ (most_zero c)).mono ?_
      rintro e w6 ⟨rfl, hb6⟩
      have hB6 := hB5.trans (hb6.mono hB5.size)
      go_wp2_with fail
      go_ret
      exact ⟨rfl, hB6⟩
    | true =>
      have hpos := halves a b c (unhide Ha) hq
      go_wp2_with fail
      refine (most_yes b c _ hq).mono ?_
      rintro e w3 ⟨rfl, hb3⟩
      clear hq
      have hB3 := hB2.trans (hb3.mono hB2.size)
      go_wp2_with fail
      refine (set_slice _ _).mono ?_
      rintro e w4 ⟨A4, c4, rfl, _, hb4⟩
      have hB4 := hB3.trans (hb4.mono hB3.size)
      have hz : (((setL (bits .and .i64 (bits .and .i64 a b) c)).length : Int) == 0) = false := by simp; intro h; rw [h] at hpos; simp at hpos
      go_wp2_with fail
      refine (most_any c c _).mono ?_
      rintro e w5 ⟨rfl, hb5⟩
      have hB5 := hB4.trans (hb5.mono hB4.size)
      go_wp2_with fail
      refine (set_slice c _).mono ?_
      rintro e w6 ⟨A6, c6, rfl, _, hb6⟩
      have hB6 := hB5.trans (hb6.mono hB5.size)
      have ht := tail_eq c
      go_wp2_with fail
      refine (most_no 0 c _ (most_zero c)).mono ?_
      rintro e w7 ⟨rfl, hb7⟩
      have hB7 := hB6.trans (hb7.mono hB6.size)
      go_wp2_with fail
      go_ret
      exact ⟨rfl, hB7⟩
end Go.Proofs.Ytbdiogepdbpckaa.numHalves
