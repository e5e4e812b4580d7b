/- The walk of SumAny: it returns true at all arguments and leaves what was there as it was. -/
import Derived.Test.YtdocjkpdmdkfeaaDoorSumPut
import Derived.Deep.RegionWith
import Derived.RegionTactic
namespace Go.Proofs.YtdocjkpdmdkfeaaDoor.sumAny
open Go.RowKit

set_option maxHeartbeats 1600000 in
theorem walk (w : World) (hL : Laid w) (A : Option Addr) (n c : Nat) (xs : List Int) (hr : Reads w w.heap.size 1 A n (xs.map (Value.int .u8))) (hnc : n ≤ c) (_ : c ≤ maxLen) (hm : c * 1 ≤ 140737488351232) (hwf : ∀ z ∈ xs, (Lit.int .u8 z).wf = true) :
    Calls Tryd.prog 7 #[.slice A n c] w fun e w' => e = .returned (.bool true) ∧ Below w.heap.size w w' := by
  have b1 := bytes_bd hwf
  clear hwf
  go_enter Tryd.func7, Tryd.ntmps7
  go_wp2_with fail
  refine (fit_any _ hL).mono ?_
  rintro e w1 ⟨rfl, hb1⟩
  have hL1 := hL.below hb1 hL.lt
  have p1 : Part.Fit w1 ⟨A, n, c, xs⟩ := Part.Fit.below (w := w) ⟨hr, by show n ≤ _; omega, b1⟩ hb1
  clear hr
  by_cases hbig : 1000 < n
  · go_wp2_with fail
    go_ret
    exact ⟨rfl, hb1⟩
  · by_cases h4 : n < 4
    · go_wp2_with fail
      refine (take_short A n c _ h4).mono ?_
      rintro e w2 ⟨rfl, rfl⟩
      go_wp2_with fail
      go_ret
      exact ⟨rfl, hb1⟩
    · go_wp2_with fail
      refine (take_long A n c xs w1 hL1 p1 (by omega) hnc (by omega)).mono ?_
      rintro e w2 ⟨hb2, ⟨hT, B, rfl, hr2, _⟩ | ⟨_, rfl⟩⟩
      · have hB2 := hb1.trans (hb2.mono hb1.size)
        have hL2 := hL1.below hb2 hL1.lt
        have p2 := p1.below hb2
        have hq : Part.Fit w2 ⟨B, n - 4, n - 4, takeL xs⟩ := ⟨hr2, by show n - 4 ≤ _; omega, fun z hz => b1 z (List.mem_of_mem_take hz)⟩
        have hE : putL (takeL xs) = xs := by unfold takeB eqB at hT; simpa using hT
        have HE := hide hE
        clear hE hT
        go_wp2_with fail
        have k1 := reads_string p2.1.drew c
        have hqd : Part.Fit w2.drew ⟨B, n - 4, n - 4, takeL xs⟩ := hq
        have hLd : Laid w2.drew := hL2
        go_region_with (go_at_call 10; refine (put_any B (n - 4) (n - 4) (takeL xs) _ hLd hqd (by omega)).mono ?_; rintro e w3 ⟨v, rfl, hown, hb3⟩; rw [HE.out] at hown; obtain ⟨A1, c1, rfl⟩ := own_slice hown; have k2 := reads_string (Reads.of_own hown) c1; have k3 := reads_string (p2.1.drew.below hb3) c)
        all_goals
          go_wp2_with fail
          go_ret
          exact ⟨rfl, hB2.drew.trans (hb3.mono hB2.size)⟩
      · go_wp2_with fail
        go_ret
        exact ⟨rfl, hb1.trans (hb2.mono hb1.size)⟩
end Go.Proofs.YtdocjkpdmdkfeaaDoor.sumAny
