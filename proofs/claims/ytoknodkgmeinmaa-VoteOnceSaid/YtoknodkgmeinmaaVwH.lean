/- The contract of view's Heir. -/
import Derived.Test.YtoknodkgmeinmaaVwM
namespace Go.Proofs.Ytoknodkgmeinmaa
open Go.RowKit

def leftB (v : V) (who : Int) : Bool := inK who 5 && !(v.heir who.toNat == 0)
def heirI (v : V) (who : Int) : Int := if leftB v who = true then (v.heir who.toNat : Int) - 1 else 0
theorem leftB_nat {v : V} {k : Nat} (hk : k < 5) : leftB v (k : Int) = !(v.heir k == 0) := by
  rw [leftB, inK_true.2 ⟨by omega, by omega⟩, Bool.true_and]; rfl
theorem zV_heir (v : V) (k : Nat) : (zV v).getD (2 + k) 0 = (v.heir k : Int) := by
  have : (zV v).getD (2 + k) 0 = (zH v.h).getD k 0 := by
    rw [show 2 + k = k + 1 + 1 by omega]; rfl
  rw [this, zH_getD]; rfl
theorem zV_drop (v : V) (h : v.h.length = 5) : ((zV v).drop 2).take 5 = zH v.h := by
  rw [show (zV v).drop 2 = zH v.h from rfl, List.take_of_length_le (by rw [zH_length, h]; omega)]
attribute [local go_sem ↓] loadViewF_fold storeViewF_fold allocViewF_fold buildViewF_fold loadInts5F_fold indexInts5F_fold
attribute [local go_sem] loadViewF_has storeViewF_has allocViewF_run buildViewF_none buildViewF_two loadInts5F_has indexInts5F_at
set_option maxRecDepth 100000 in
set_option maxHeartbeats 800000 in
theorem heir_any (v : V) (hl : v.h.length = 5) (hle : ∀ i, i < 5 → v.heir i ≤ 5) (who : Int) (w : World) :
    Calls Try.prog 26 #[.agg (iA (zV v)), .int .i64 who] w fun e w' => e = .returned (.tuple #[.int .i64 (heirI v who), .bool (leftB v who)]) ∧ Below w.heap.size w w' := by
  have hI : IBlk (w.alloc (.cells (iA (zV v)) 27)) w.heap.size 27 (zV v) := IBlk.new _ _ _
  have hB : Below w.heap.size w (w.alloc (.cells (iA (zV v)) 27)) := (Below.refl _ _).alloc (Nat.le_refl _) _
  have zl := zV_length hl
  cases hk : inK who 5 with
  | false =>
    have hf : leftB v who = false := by rw [leftB, hk]; rfl
    rw [heirI, hf, if_neg (by decide)]
    go_enter Try.func26, Try.ntmps26
    go_upto_region 1 with fail
    generalize w.alloc (.cells (iA (zV v)) 27) = w1 at hI hB
    clear hI
    go_wp2_with fail
    (with_reducible refine (mach_any who w1).mono ?_)
    rintro e w' ⟨rfl, rfl⟩
    rw [hk]
    go_wp2_with fail
    go_ret2
    exact ⟨rfl, hB⟩
  | true =>
    obtain ⟨k, rfl, hk5⟩ := inK_nat hk
    have hq := hle k hk5
    rw [heirI, leftB_nat hk5, show ((k : Int)).toNat = k from rfl]
    have c1 := hI.cell (i := 2 + k) (by omega)
    rw [zV_heir] at c1
    generalize v.heir k = q at *
    cases q with
    | zero =>
      rw [if_neg (by decide)]
      go_enter Try.func26, Try.ntmps26
      go_upto_region 1 with fail
      generalize w.alloc (.cells (iA (zV v)) 27) = w1 at hI hB c1
      generalize hbe : w.heap.size = b at c1
      clear hI zl
      go_wp2_with fail
      (with_reducible refine (mach_any (k : Int) w1).mono ?_)
      rintro e w' ⟨rfl, rfl⟩
      rw [hk]
      go_wp2_with fail
      (with_reducible refine (mach_any (-1) w1).mono ?_)
      rintro e w' ⟨rfl, rfl⟩
      rw [show inK (-1) 5 = false from rfl]
      go_wp2_with fail
      go_ret2
      exact ⟨rfl, hB⟩
    | succ q =>
      rw [if_pos (by simp)]
      have hm := inK_true.2 (show 0 ≤ ((q + 1 : Nat) : Int) - 1 ∧ ((q + 1 : Nat) : Int) - 1 < 5 by omega)
      have e1 : (!(q + 1 == 0)) = true := by simp
      rw [e1]
      obtain ⟨z, hz⟩ : ∃ z, ((q + 1 : Nat) : Int) = z := ⟨_, rfl⟩
      rw [hz] at c1 hm ⊢
      have z1 : 1 ≤ z := by omega
      have z2 : z ≤ 5 := by omega
      clear hz e1
      go_enter Try.func26, Try.ntmps26
      go_upto_region 1 with fail
      generalize w.alloc (.cells (iA (zV v)) 27) = w1 at hI hB c1
      generalize hbe : w.heap.size = b at c1
      clear hI zl
      go_wp2_with fail
      (with_reducible refine (mach_any (k : Int) w1).mono ?_)
      rintro e w' ⟨rfl, rfl⟩
      rw [hk]
      go_wp2_with fail
      (with_reducible refine (mach_any (z - 1) w1).mono ?_)
      rintro e w' ⟨rfl, rfl⟩
      rw [hm]
      go_wp2_with fail
      go_ret2
      exact ⟨rfl, hB⟩
end Go.Proofs.Ytoknodkgmeinmaa
