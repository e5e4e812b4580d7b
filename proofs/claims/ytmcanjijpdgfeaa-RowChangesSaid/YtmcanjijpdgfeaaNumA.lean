/- Contracts of package num: Right and Add, each for all arguments. -/
import Derived.Test.YtmcanjijpdgfeaaBase
import Derived.WalkKit
import Derived.WalkSpells
import Derived.WalkLawsBesides
namespace Go.Proofs.Ytmcanjijpdgfeaa
open Go.RowKit

/-! ### plain -/
def maxNum : Int := 1099511627776
/-- What num.Add answers of a list, from a sum so far. -/
def addF : Int → List Int → Int × Int
  | s, [] => (s, 0)
  | s, z :: zs => if z < 0 ∨ 1099511627776 < z then (0, 5) else if 1099511627776 < s + z then (0, 6) else addF (s + z) zs

theorem addF_bad (s z : Int) (zs : List Int) (h : z < 0 ∨ 1099511627776 < z) : addF s (z :: zs) = (0, 5) := by
  rw [addF, if_pos h]
theorem addF_over (s z : Int) (zs : List Int) (h0 : 0 ≤ z) (h1 : z ≤ 1099511627776) (h : 1099511627776 < s + z) : addF s (z :: zs) = (0, 6) := by
  rw [addF, if_neg (by omega), if_pos h]
theorem addF_step (s z : Int) (zs : List Int) (h0 : 0 ≤ z) (h1 : z ≤ 1099511627776) (h : s + z ≤ 1099511627776) : addF s (z :: zs) = addF (s + z) zs := by
  rw [addF, if_neg (by omega), if_neg (by omega)]

/-! ### Right -/
theorem right_yes (n : Int) (w : World) (h0 : 0 ≤ n) (h1 : n ≤ 1099511627776) :
    Calls Try.prog 10 #[.int .i64 n] w fun e w' => e = .returned (.bool true) ∧ w = w' := by
  have d1 : decide (0 ≤ n) = true := by simpa using h0
  have d2 : decide (n ≤ 1099511627776) = true := by simpa using h1
  go_enter Try.func10, Try.ntmps10
  go_wp2
  go_ret
  exact ⟨rfl, rfl⟩
theorem right_low (n : Int) (w : World) (h0 : n < 0) :
    Calls Try.prog 10 #[.int .i64 n] w fun e w' => e = .returned (.bool false) ∧ w = w' := by
  have d1 : decide (0 ≤ n) = false := by simpa using h0
  go_enter Try.func10, Try.ntmps10
  go_wp2
  go_ret
  exact ⟨rfl, rfl⟩
theorem right_high (n : Int) (w : World) (h0 : 0 ≤ n) (h1 : 1099511627776 < n) :
    Calls Try.prog 10 #[.int .i64 n] w fun e w' => e = .returned (.bool false) ∧ w = w' := by
  have d1 : decide (0 ≤ n) = true := by simpa using h0
  have d2 : decide (n ≤ 1099511627776) = false := by simpa using h1
  go_enter Try.func10, Try.ntmps10
  go_wp2
  go_ret
  exact ⟨rfl, rfl⟩
theorem right_no (n : Int) (w : World) (h : n < 0 ∨ 1099511627776 < n) :
    Calls Try.prog 10 #[.int .i64 n] w fun e w' => e = .returned (.bool false) ∧ w = w' := by
  by_cases h0 : n < 0
  · exact right_low n w h0
  · exact right_high n w (by omega) (by omega)

/-- Whether a number may be. -/
def inN (n : Int) : Bool := decide (0 ≤ n) && decide (n ≤ 1099511627776)
theorem inN_true {n : Int} : inN n = true ↔ 0 ≤ n ∧ n ≤ 1099511627776 := by simp [inN]
theorem inN_false {n : Int} : inN n = false ↔ (n < 0 ∨ 1099511627776 < n) := by
  rw [← Bool.not_eq_true, inN_true]; omega
theorem right_any (n : Int) (w : World) :
    Calls Try.prog 10 #[.int .i64 n] w fun e w' => e = .returned (.bool (inN n)) ∧ w = w' := by
  by_cases h : inN n = true
  · rw [h]
    have := inN_true.1 h
    exact right_yes n w this.1 this.2
  · rw [Bool.not_eq_true] at h
    rw [h]
    exact right_no n w (inN_false.1 h)

/-! ### Add -/
theorem addF_drop (s : Int) (zs : List Int) (k : Nat) (hk : k < zs.length) : addF s (zs.drop k) = addF s (zs.getD k 0 :: zs.drop (k + 1)) := by
  rw [List.drop_eq_getElem_cons hk]; simp [List.getD, hk]

set_option maxHeartbeats 400000 in
theorem add_any (A : Option Addr) (n c : Nat) (zs : List Int) (w : World) (hr : Reads w w.heap.size 1 A n (zs.map (Value.int .i64))) (hn : n ≤ 9223372036854775807) :
    Calls Try.prog 19 #[.slice A n c] w fun e w' => e = .returned (.tuple #[.int .i64 (addF 0 zs).1, .int .i64 (addF 0 zs).2]) ∧ w = w' := by
  have hz : zs.length = n := by have := hr.1; simpa using this
  go_enter Try.func19, Try.ntmps19
  go_wp2
  go_loop [2, 3, 4, 6, 9] (fun r2 r3 s _ i => ∃ (k : Nat) (t : Int), k ≤ n ∧ r2 = .int .i64 0 ∧ r3 = .int .i64 0 ∧ i = .int .i64 k ∧ s = .int .i64 t ∧ 0 ≤ t ∧ t ≤ 1099511627776 ∧ Hid (addF 0 zs = addF t (zs.drop k))) (fun _ _ _ _ i => n - (intOf i).toNat)
  case atStart => exact ⟨0, 0, Nat.zero_le _, rfl, rfl, rfl, rfl, by omega, by omega, rfl⟩
  case round =>
    obtain ⟨k, t, hk, rfl, rfl, rfl, rfl, ht0, ht1, HS⟩ := hrel
    by_cases hlt : k < n
    · obtain ⟨b, off, rfl, _, hc0⟩ := hr.ints (by omega)
      have hc := hc0 k hlt
      clear hc0 hr
      have HD : Hid (addF t (zs.drop k) = addF t (zs.getD k 0 :: zs.drop (k + 1))) := addF_drop t zs k (by omega)
      generalize zs.getD k 0 = q at hc HD
      clear hz
      by_cases hbad : q < 0 ∨ 1099511627776 < q
      · go_wp2_with (go_at_call 10; refine (right_no q _ hbad).mono ?_; rintro e w' ⟨rfl, rfl⟩)
        go_ret2
        rw [HS.out, HD.out, addF_bad _ _ _ hbad]
        exact ⟨rfl, rfl⟩
      · by_cases hov : 1099511627776 < t + q
        · go_wp2_with (go_at_call 10; refine (right_yes q _ (by omega) (by omega)).mono ?_; rintro e w' ⟨rfl, rfl⟩)
          go_ret2
          rw [HS.out, HD.out, addF_over _ _ _ (by omega) (by omega) hov]
          exact ⟨rfl, rfl⟩
        · have h0 : 0 ≤ q := by omega
          have h1 : t + q ≤ 1099511627776 := by omega
          go_wp2_with (go_at_call 10; refine (right_yes q _ (by omega) (by omega)).mono ?_; rintro e w' ⟨rfl, rfl⟩)
          go_round
          case rel => exact ⟨k + 1, t + q, by omega, rfl, rfl, by go_num, rfl, by omega, by omega, (by rw [HS.out, HD.out, addF_step _ _ _ (by omega) (by omega) (by omega)] : addF 0 zs = addF (t + q) (zs.drop (k + 1)))⟩
          case measure => simp [intOf]; omega
    · go_wp2
      go_ret2
      rw [HS.out, List.drop_of_length_le (by omega)]
      exact ⟨rfl, rfl⟩
end Go.Proofs.Ytmcanjijpdgfeaa
