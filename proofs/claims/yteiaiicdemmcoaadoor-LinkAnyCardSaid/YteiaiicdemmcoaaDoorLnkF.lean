/- Law 10's fit. -/
import Derived.Test.YteiaiicdemmcoaaDoorLnkQ
namespace Go.Proofs.YteiaiicdemmcoaaDoor
open Go.RowKit

theorem one_x : (strOfNums [120]).toList = [120] := by rw [Lib.strOfNums_toList]; rfl
set_option maxRecDepth 100000 in
set_option maxHeartbeats 4000000 in
theorem fit_runs (w : World) (hL : Laid w) : Calls Tryd.prog 7 #[] w fun e w' => e = .returned (.bool true) ∧ Below w.heap.size w w' := by
  have hcv := Lib.run_convert_bytes_const (P := Tryd.prog) w 23 5 #[.int .u8 120] 1 1 Tryd.underlying23 Tryd.underlying5
  go_enter Tryd.func7, Tryd.ntmps7
  have hb0 : Below w.heap.size w (w.alloc (.cells #[.int .u8 120] 5 (1, 2))) := (Below.refl _ _).alloc (Nat.le_refl _) _
  have hF := hide (Frame_at (w.alloc (.cells #[.int .u8 120] 5 (1, 2))) (hL.alloc _) (x := 0) (y := 1) (i := 0) (j := 1) rfl rfl (by omega) (by omega) _ 1 1 [120] (const_slIn 5 (1, 2) (zs := [120]) (c := 1) (by decide) (Nat.le_refl _) (by unfold maxLen; omega)) (by omega))
  go_wp2_with fail
  (with_reducible refine hF.out.mono ?_)
  rintro e w1 ⟨f, rfl, hz, hn, ho, hb1⟩
  have hB1 := hb0.trans (hb1.mono hb0.size)
  have hk := ho.ok (by rw [hz]; exact wf_u8 (frL_bd (by omega) (by omega) (by decide)))
  clear hF hcv hb1 hb0 ho
  have hO := hide (Open_at w1 (hL.below hB1 hL.lt) (x := 0) (y := 1) (i := 0) (j := 1) rfl rfl f.A f.n f.c f.zs hk.in_ (by omega))
  go_wp2_with fail
  (with_reducible refine hO.out.mono ?_)
  rintro e w2 ⟨hb2, ⟨_, x, rfl, ex, en, hx⟩ | ⟨h, _⟩⟩
  rotate_left
  · rw [hz, opB_frL] at h; exact absurd h (by decide)
  have hB2 := hB1.trans (hb2.mono hB1.size)
  have hk2 : SlIn w2 w2.heap.size ⟨f.A, f.n, f.c, f.zs⟩ := ⟨(hk.in_.reads.below hb2).more hb2.size, hk.in_.n_le, hk.in_.c_le, hk.in_.wf⟩
  clear hO hb2
  have hO := hide (Open_at w2 (hL.below hB2 hL.lt) (x := 1) (y := 0) (i := 1) (j := 0) rfl rfl f.A f.n f.c f.zs hk2 (by omega))
  have hX : x.zs = [120] := by rw [ex, hz, body_frL]
  go_wp2_with fail
  (with_reducible refine hO.out.mono ?_)
  rintro e w3 ⟨hb3, ⟨h, _⟩ | ⟨_, rfl⟩⟩
  · rw [hz, opB_frL] at h; exact absurd h (by decide)
  have hB3 := hB2.trans (hb3.mono hB2.size)
  have hs := reads_string (hx.in_.reads.below hb3) x.c
  rw [hX] at hs
  have hq : ((strOfNums [120]).toList == [120]) = true := by rw [one_x]; rfl
  generalize strOfNums [120] = xs at hs hq
  have hT := of_none w3 (hL.below hB3 hL.lt)
  clear hO hb3 hk2 hk hx ex hX en hn hz hB1 hB2
  go_wp2_with fail
  (with_reducible refine hT.mono ?_)
  rintro e w4 ⟨rfl, rfl⟩
  go_wp2_with fail
  go_ret
  exact ⟨rfl, hB3⟩
end Go.Proofs.YteiaiicdemmcoaaDoor
