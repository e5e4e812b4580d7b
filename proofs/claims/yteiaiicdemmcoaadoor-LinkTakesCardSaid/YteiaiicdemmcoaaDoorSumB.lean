/- The contract of sum.Put. -/
import Derived.Test.YteiaiicdemmcoaaDoorSumA
import Derived.Laws.BytesArg
import Derived.Lib.Bytes
namespace Go.Proofs.YteiaiicdemmcoaaDoor
open Go.RowKit

theorem Reads.four (w : World) (x y z u4 : Value) (e : TypeId) : Reads (w.alloc (.cells #[x, y, z, u4] e)) (w.heap.size + 1) 1 (some ⟨w.heap.size, 0, none⟩) 4 [x, y, z, u4] := by
  refine ⟨rfl, fun _ => ⟨_, rfl, by simp, fun j u hu => ?_⟩⟩
  rw [Go.WideShapes.add_plain]
  match j, hu with
  | 0, hu => simp at hu; subst hu; rw [World.cell?_alloc_at _ _ _ _ rfl]; rfl
  | 1, hu => simp at hu; subst hu; rw [World.cell?_alloc_at _ _ _ _ rfl]; rfl
  | 2, hu => simp at hu; subst hu; rw [World.cell?_alloc_at _ _ _ _ rfl]; rfl
  | 3, hu => simp at hu; subst hu; rw [World.cell?_alloc_at _ _ _ _ rfl]; rfl
theorem putL_map (zs : List Int) : zs.map (Value.int .u8) ++ [.int .u8 (crcOf zs % 256), .int .u8 (crcOf zs / 256 % 256), .int .u8 (crcOf zs / 65536 % 256), .int .u8 (crcOf zs / 16777216)] = (putL zs).map (Value.int .u8) := by
  obtain ⟨c0, c1⟩ := crcOf_bd zs
  have : crcOf zs / 16777216 % 256 = crcOf zs / 16777216 := by omega
  simp [putL, sumBytes, this]

set_option maxHeartbeats 1000000 in
theorem put_any (A : Option Addr) (n c : Nat) (zs : List Int) (w : World) (hl : Laid w) (hp : Part.Fit w ⟨A, n, c, zs⟩) (hn : n ≤ 70368744177664) :
    Calls Tryd.prog 17 #[.slice A n c] w fun e w' => ∃ v, e = .returned v ∧ w'.ownsRow w.heap.size 5 1 v (n + 4) ((putL zs).map (Value.int .u8)) ∧ Below w.heap.size w w' := by
  obtain ⟨i0, hi, hz0, hz1, hz2⟩ := info_parts Tryd.infoByte
  obtain ⟨c0, c1⟩ := crcOf_bd zs
  have HP := hide (putL_map zs)
  go_enter Tryd.func17, Tryd.ntmps17
  go_wp2_with fail
  refine (of_one _ A n c zs w rfl hl hp).mono ?_
  rintro e w' ⟨rfl, rfl⟩
  generalize crcOf zs = s at c0 c1 HP
  have hb0 : Below w.heap.size w (w.alloc (.cells #[.slice A n c] 23)) := (Below.refl _ _).alloc (Nat.le_refl _) _
  have hp0 := hp.alloc (.cells #[.slice A n c] 23)
  go_wp2_with (first
    | (at_make; refine wpList_make_own _ rfl _ _ 23 rfl w.heap.size 5 i0 (.int .u8 0) 1 Tryd.underlying23 hi hz0 hz1 .i64 .i64 _ (n + 4) rfl rfl (by omega) (by rw [hz2]; omega) (by unfold maxLen; omega) (by simp) ?_; intro w1 hown1 hgrow1; simp only [World.size_alloc] at hown1; have hb1 := hb0.grown hgrow1 (by simp) (fun g hg => by cases hg); have hp1 := hp.below hb1; have hs1 := hb1.size)
    | (at_builtin; refine wpList_append_any _ rfl (.tmp 12) (.tmp 13) 23 rfl w.heap.size 5 i0 (.int .u8 0) 1 1 Tryd.underlying23 hi hz0 hz1 hz2 rfl (by decide) _ _ _ rfl hown1 w1.heap.size A n c (zs.map (Value.int .u8)) rfl hp1.1 (oneCell_ints _) (by unfold maxLen; omega) (by omega) (by omega) ?_; intro v2 w2 hown2 hgrow2 _; simp only [Nat.zero_add, List.nil_append] at hown2; have hb2 := hb1.grown hgrow2 hs1 (own_base hown1); have hs2 := hb2.size)
    | (at_builtin; refine wpList_append_any _ rfl (.tmp 15) (.tmp 27) 23 rfl w.heap.size 5 i0 (.int .u8 0) 1 1 Tryd.underlying23 hi hz0 hz1 hz2 rfl (by decide) _ _ _ rfl (hown2.alloc _) (w2.heap.size + 1) (some ⟨w2.heap.size, 0, none⟩) 4 4 _ rfl (Reads.four _ _ _ _ _ _) (by intro u hu; simp at hu; rcases hu with rfl | rfl | rfl | rfl <;> rfl) (by unfold maxLen; omega) (by omega) (by simp; omega) ?_; intro v3 w3 hown3 hgrow3 _))
  have hb3 : Below w.heap.size w w3 := (hb2.alloc hs2 _).grown hgrow3 (by simp; omega) (own_base hown2)
  go_ret
  refine ⟨v3, rfl, ?_, hb3⟩
  rw [← HP.out]
  exact hown3
end Go.Proofs.YteiaiicdemmcoaaDoor
