/- The walk of RowRights: it returns true at all arguments and leaves what was there as it was. -/
import Derived.Test.YthacenajocchcaaRowG
namespace Go.Proofs.Ythacenajocchcaa.rowRights
open Go.RowKit

attribute [local go_sem ↓] loadRowF_fold
attribute [local go_sem] loadRowF_has
set_option maxRecDepth 100000 in
set_option maxHeartbeats 1600000 in
theorem walk (w : World) (zs : List Int) (hl : zs.length = 174) (hw : wf64 zs) :
    Calls Try.prog 4 #[.agg (iA zs)] w fun e w' => e = .returned (.bool true) ∧ Below w.heap.size w w' := by
  have hI0 : IBlk (w.alloc (.cells (iA zs) 53)) w.heap.size 53 zs := IBlk.new _ _ _
  have hB0 : Below w.heap.size w (w.alloc (.cells (iA zs) 53)) := (Below.refl _ _).alloc (Nat.le_refl _) _
  have HR := rowRight_any zs hl hw
  have HL := lawRight_any zs hl hw
  generalize okRow zs = ok at HR HL
  have HZ := hide hl
  clear hl hw
  go_enter Try.func4, Try.ntmps4
  go_wp2_with fail
  generalize w.alloc (.cells (iA zs) 53) = w0 at hI0 hB0
  generalize hbe : w.heap.size = b at hI0
  (with_reducible refine (fit4_any w0).mono ?_)
  rintro e w1 ⟨rfl, hb1⟩
  have hI1 := hI0.below hb1 hI0.lt
  have hB1 := hB0.trans (hb1.mono hB0.size)
  clear hI0 hB0 hb1
  go_wp2_with fail
  have hB1d := hB1.drew
  obtain ⟨r1, h1⟩ := hI1.drew.whole HZ.out
  go_region_with (first
    | (go_at_call 24; (with_reducible refine (HR w1.drew).mono ?_); rintro e w2 ⟨rfl, hb2⟩; have hI2 := hI1.drew.below hb2 hI1.lt; have hB2 := hB1d.trans (hb2.mono hB1d.size); obtain ⟨r2, h2⟩ := hI2.whole HZ.out)
    | (go_at_call 25; (with_reducible refine (HL w2).mono ?_); rintro e w3 ⟨rfl, hb3⟩; have hB3 := hB2.trans (hb3.mono hB2.size)))
  all_goals
    go_wp2_with fail
    go_ret
    exact ⟨rfl, hB3⟩
end Go.Proofs.Ythacenajocchcaa.rowRights
