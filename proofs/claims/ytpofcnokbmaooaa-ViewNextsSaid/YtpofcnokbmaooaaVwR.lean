/- The contract of view's Right, of a view that is. -/
import Derived.Test.YtpofcnokbmaooaaVwH
namespace Go.Proofs.Ytpofcnokbmaooaa
open Go.RowKit

attribute [local go_sem ↓] loadViewF_fold storeViewF_fold allocViewF_fold buildViewF_fold loadInts5F_fold indexInts5F_fold
attribute [local go_sem] loadViewF_has storeViewF_has allocViewF_run buildViewF_none buildViewF_two loadInts5F_has indexInts5F_at
theorem zV_drop (v : V) (h : v.h.length = 5) : ((zV v).drop 2).take 5 = zH v.h := by
  rw [show (zV v).drop 2 = zH v.h from rfl, List.take_of_length_le (by rw [zH_length, h]; omega)]
set_option maxRecDepth 100000 in
set_option maxHeartbeats 1600000 in
theorem right_ok (v : V) (ho : v.Ok) (w : World) :
    Calls Try.prog 9 #[.agg (iA (zV v))] w fun e w' => e = .returned (.bool true) ∧ Below w.heap.size w w' := by
  have hI : IBlk (w.alloc (.cells (iA (zV v)) 28)) w.heap.size 28 (zV v) := IBlk.new _ _ _
  have hB : Below w.heap.size w (w.alloc (.cells (iA (zV v)) 28)) := (Below.refl _ _).alloc (Nat.le_refl _) _
  have zl := zV_length ho.len
  have c0 := hI.cell (i := 0) (by omega)
  have c1 := hI.cell (i := 1) (by omega)
  rw [show (zV v).getD 0 0 = (v.e : Int) from rfl] at c0
  rw [show (zV v).getD 1 0 = (v.m : Int) from rfl] at c1
  obtain ⟨r2, h2⟩ := hI.got 2 5 (by omega)
  rw [zV_drop v ho.len] at r2
  have e1 := ho.e1
  have m1 := ho.m1
  have m2 := ho.m2
  have d1 : decide ((v.e : Int) < 1) = false := decide_eq_false (by omega)
  have d2 : decide ((v.m : Int) < 1) = false := decide_eq_false (by omega)
  have d3 : decide ((32 : Int) ≤ (v.m : Int)) = false := decide_eq_false (by omega)
  have hl5 : Is 5 (zH v.h) := by rw [Is, zH_length, ho.len]
  have hg := fun k => zH_getD v.h k
  have hm := fun (w : World) (who : Int) => member_any v ho.len who w
  go_enter Try.func9, Try.ntmps9
  go_upto_region 1 with fail
  generalize w.alloc (.cells (iA (zV v)) 28) = w1 at *
  generalize hbe : w.heap.size = b at hI r2 h2 c0 c1
  have hbl := hI.lt
  clear e1 m1 m2
  go_upto_region 4 with fail
  clear d1 d2 d3 c0 c1 h2
  generalize zH v.h = l at *
  go_loopw [3, 4, 20] (fun _ _ s20 wr => ∃ k : Nat, k ≤ 5 ∧ s20 = .int .i64 k ∧ IBlk wr b 28 (zV v) ∧ Below w.heap.size w wr) (fun _ _ s20 _ => 5 - (intOf s20).toNat)
  case atStart => exact ⟨0, Nat.zero_le _, rfl, hI, hB⟩
  case round =>
    clear hI hB
    obtain ⟨k, hk, rfl, hI, hB⟩ := hrel
    by_cases hlt : k < 5
    · have hx := hg k
      rw [show v.h.getD k 0 = v.heir k from rfl] at hx
      have hh := ho.hs k hlt
      have hI' := fun {w2 : World} (h : Below wr.heap.size wr w2) => (⟨hI.below h hI.lt, hB.trans (h.mono hB.size)⟩ : IBlk w2 b 28 (zV v) ∧ Below w.heap.size w w2)
      obtain ⟨r0, h0⟩ := hI.whole zl
      by_cases hz : v.heir k = 0
      · rw [hz] at hx
        have hx' : l[k]?.getD 0 = 0 := by simpa using hx
        clear hx hz hh hI' r0 h0
        go_wp2_with fail
        go_roundw
        case rel => exact ⟨k + 1, by omega, by go_num, hI, hB⟩
        case measure => simp [intOf]; omega
      · obtain ⟨q1, q2, q3⟩ := hh hz
        obtain ⟨q, hq⟩ : ∃ q, v.heir k = q + 1 := ⟨v.heir k - 1, by omega⟩
        rw [hq] at hx q1 q3
        have hx' : l[k]?.getD 0 = ((q : Int) + 1) := by simpa using hx
        have hm1 := hm wr (k : Int)
        rw [inM_nat hlt, q2] at hm1
        have hm2 := fun w => hm w (q : Int)
        rw [inM_nat (show q < 5 by omega), show v.m.testBit q = true from q3] at hm2
        clear hx hz hh hq q2 q3 hm
        go_wp2_with fail
        (with_reducible refine hm1.mono ?_)
        rintro e w4 ⟨rfl, hb4⟩
        obtain ⟨hI4, hB4⟩ := hI' hb4
        obtain ⟨r4, h4⟩ := hI4.whole zl
        clear hI' hm1 r0 h0 hI hB hb4
        go_wp2_with fail
        (with_reducible refine (hm2 w4).mono ?_)
        rintro e w5 ⟨rfl, hb5⟩
        have hI5 := hI4.below hb5 hI4.lt
        have hB5 := hB4.trans (hb5.mono hB4.size)
        go_wp2_with fail
        go_roundw
        case rel => exact ⟨k + 1, by omega, by go_num, hI5, hB5⟩
        case measure => simp [intOf]; omega
    · obtain rfl : k = 5 := by omega
      go_wp2_with fail
      go_ret
      exact ⟨rfl, hB⟩
end Go.Proofs.Ytpofcnokbmaooaa
