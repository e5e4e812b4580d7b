/- Sectors held against one another, one by one. -/
import Derived.Test.YtccdifplpbnclaaDoorWalS

namespace Go.Proofs.YtccdifplpbnclaaDoor
open Go.RowKit Go.Maps

attribute [local go_sem ↓] loadS_fold eqS_fold
attribute [local go_sem] loadS_has eqS_run

set_option maxRecDepth 100000 in
set_option maxHeartbeats 8000000 in
theorem EqualS_runs (w : World) (g h n m cn cm : Nat) (L M : List (List Int)) (hL : SBlk w g L) (hM : SBlk w h M) (hn : L.length = n) (hm : M.length = m) (sL : Sects64 L) (sM : Sects64 M) (hb : n ≤ 100000) (_ : m ≤ 100000) :
    Calls Tryd.prog 30 #[.slice (some ⟨g, 0, none⟩) n cn, .slice (some ⟨h, 0, none⟩) m cm] w fun e w' => e = .returned (.bool (decide (L = M))) ∧ Below w.heap.size w w' := by
  go_enter Tryd.func30, Tryd.ntmps30
  by_cases hnm : n = m
  · subst hnm
    have d0 : ((n : Int) != (n : Int)) = false := by simp
    go_wp2_with fail
    go_loopw [5, 13] (fun s5 s13 wr => ∃ j : Nat, j ≤ n ∧ s13 = .int .i64 j ∧ L.take j = M.take j ∧ Below w.heap.size w wr) (fun _ s13 _ => n - (intOf s13).toNat)
    case atStart => exact ⟨0, Nat.zero_le _, rfl, rfl, Below.refl _ _⟩
    case round =>
      obtain ⟨j, hj, rfl, hP, hB⟩ := hrel
      have hLr : SBlk wr.drew g L := VBlk.below hL hB.drew (VBlk.lt hL)
      have hMr : SBlk wr.drew h M := VBlk.below hM hB.drew (VBlk.lt hM)
      have hBd := hB.drew
      by_cases hlt : j < n
      · have dl : (j : Int) < (n : Int) := by omega
        obtain ⟨r1, h1⟩ := hLr.at_ sL (j := j) (by omega)
        obtain ⟨r2, h2⟩ := hMr.at_ sM (j := j) (by omega)
        have t1 : Sect L[j] := sL _ (List.getElem_mem _)
        have t2 : Sect M[j] := sM _ (List.getElem_mem _)
        have hst : L.take (j + 1) = M.take (j + 1) ↔ L[j] = M[j] := by
          rw [List.take_succ_eq_append_getElem (l := L) (by omega), List.take_succ_eq_append_getElem (l := M) (by omega), hP]
          exact ⟨fun h => by simpa using List.append_cancel_left h, fun h => by rw [h]⟩
        have hne : L[j] ≠ M[j] → decide (L = M) = false := fun h => by simp; rintro rfl; exact h rfl
        have hst := hide hst
        have hne := hide hne
        generalize L[j] = s at *
        generalize M[j] = t at *
        cases he : decide (s = t) with
        | true =>
          have hK : L.take (j + 1) = M.take (j + 1) := hst.out.2 (of_decide_eq_true he)
          go_upto_region 6 with fail
          refine wp_region_still_lit (by kernel_rfl) (by kernel_rfl) ?_
          change wpStill _ _ wr.drew _ _ _
          repeat still_step
          refine wpStill_nil ?_
          first | change Exit.then _ _ _ _ wr.drew | change Exit.inBlock _ _ _ _ wr.drew
          go_wp2_with fail
          go_roundw
          case rel => go_light; exact ⟨j + 1, by omega, by go_num, hK, hBd⟩
          case measure => go_light; simp [intOf]; omega
        | false =>
          have hK := hne.out (of_decide_eq_false he)
          go_upto_region 6 with fail
          refine wp_region_still_lit (by kernel_rfl) (by kernel_rfl) ?_
          change wpStill _ _ wr.drew _ _ _
          repeat still_step
          refine wpStill_nil ?_
          first | change Exit.then _ _ _ _ wr.drew | change Exit.inBlock _ _ _ _ wr.drew
          go_wp2_with fail
          go_ret
          rw [hK]
          exact ⟨rfl, hBd⟩
      · obtain rfl : j = n := by omega
        have hK : decide (L = M) = true := by
          rw [List.take_of_length_le (by omega), List.take_of_length_le (by omega)] at hP
          simp [hP]
        go_wp2_with fail
        go_ret
        rw [hK]
        exact ⟨rfl, hB⟩
  · have d0 : ((n : Int) != (m : Int)) = true := by simp; omega
    have hne : decide (L = M) = false := by simp; rintro rfl; omega
    rw [hne]
    go_wp2_with fail
    go_ret
    exact ⟨rfl, Below.refl _ _⟩
end Go.Proofs.YtccdifplpbnclaaDoor
