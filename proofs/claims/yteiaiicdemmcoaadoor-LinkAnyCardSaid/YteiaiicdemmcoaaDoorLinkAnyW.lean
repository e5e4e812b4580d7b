/- The walk of LinkAny. -/
import Derived.Test.YteiaiicdemmcoaaDoorLnkF
import Derived.Test.YteiaiicdemmcoaaDoorBitsI
import Derived.Deep.RegionWith
import Derived.RegionTactic
namespace Go.Proofs.YteiaiicdemmcoaaDoor.linkAny
open Go.RowKit

theorem mask8 (x : Int) : ∃ i : Nat, bits .and .i64 x 255 = (i : Int) ∧ i < 256 := by
  refine ⟨(x % 256).toNat, ?_, by omega⟩
  rw [show bits .and .i64 x 255 = x % 256 from i64_and_mask x 8 (by omega)]; omega
set_option maxRecDepth 100000 in
set_option maxHeartbeats 8000000 in
theorem walk (w : World) (hL : Laid w) (A : Option Addr) (n c : Nat) (zs : List Int) (hr : Reads w w.heap.size 1 A n (u8V zs)) (hnc : n ≤ c) (hcm : c ≤ maxLen) (_ : c * 1 ≤ 140737488351232) (hwf : ∀ z ∈ zs, (Lit.int .u8 z).wf = true)
    (x : Int) (_ : -9223372036854775808 ≤ x) (_ : x ≤ 9223372036854775807) (y : Int) (_ : -9223372036854775808 ≤ y) (_ : y ≤ 9223372036854775807) :
    Calls Tryd.prog 6 #[.slice A n c, .int .i64 x, .int .i64 y] w fun e w' => e = .returned (.bool true) ∧ Below w.heap.size w w' := by
  have hs : SlIn w w.heap.size ⟨A, n, c, zs⟩ := ⟨hr, hnc, hcm, hwf⟩
  obtain ⟨i, hi, i8⟩ := mask8 x
  obtain ⟨j, hj, j8⟩ := mask8 y
  clear hr hwf
  go_enter Tryd.func6, Tryd.ntmps6
  go_wp2_with fail
  (with_reducible refine (fit_runs w hL).mono ?_)
  rintro e w1 ⟨rfl, hb1⟩
  have hL1 := hL.below hb1 hL.lt
  have hs1  := hs.next hb1
  clear hs
  by_cases hbig : 500 < n
  · have d : (500 : Int) < (n : Int) := by omega
    go_wp2_with fail
    go_ret
    exact ⟨rfl, hb1⟩
  · have d : ¬ (500 : Int) < (n : Int) := by omega
    have hO := hide (Open_at w1 hL1 (x := i) (y := j) rfl rfl A n c zs hs1 (by omega))
    go_wp2_with fail
    (with_reducible refine hO.out.mono ?_)
    rintro e w2 ⟨hb2, ⟨hT, t, rfl, e1, e2, ht⟩ | ⟨_, rfl⟩⟩
    · have hB2 := hb1.trans (hb2.mono hb1.size)
      have hL2 := hL1.below hb2 hL1.lt
      have hs2 := (hs1.next hb2).drew
      have hF := hide (Frame_at w2.drew hL2 (x := i) (y := j) rfl rfl i8 j8 t.A t.n t.c t.zs ht.in_.drew (by omega))
      rw [e1, opB_body hT] at hF
      have k1 : (convert 23 9 (.slice A n c)).run Tryd.prog w2.drew = .ok (.string (strOfNums zs)) w2.drew := reads_string hs2.reads c
      have hR := hs2.reads
      clear hO hs1 hT e1 e2 ht hb2
      go_wp2_with fail
      go_region_with (go_at_call 8; (with_reducible refine hF.out.mono ?_); rintro e w3 ⟨f, rfl, hz, _, ho, hb3⟩; have k2 := reads_string (Reads.of_own ho) f.c; rw [hz] at k2; have k3 := reads_string (hR.below hb3) c)
      all_goals
        go_wp2_with fail
        go_ret
        exact ⟨rfl, hB2.drew.trans (hb3.mono hB2.size)⟩
    · have hB2 := hb1.trans (hb2.mono hb1.size)
      clear hO
      go_wp2_with fail
      go_ret
      exact ⟨rfl, hB2⟩
end Go.Proofs.YteiaiicdemmcoaaDoor.linkAny
