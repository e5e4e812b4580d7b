/- The contracts of the Writer's cells and Row. -/
import Derived.Test.YtfhepoihhigcaaaCodB
import Derived.Test.YtfhepoihhigcaaaCodRow
import Derived.Test.YtfhepoihhigcaaaCodSep
import Derived.Deep.DeepCutAuto
namespace Go.Proofs.Ytfhepoihhigcaaa
open Go.RowKit

theorem Try.indexInts (l : List Int) (k : Nat) (hk : k < 5) (hl : l.length = 5) (w : World) : (Instr.index 36 (.agg (iA l)) (.int .i64 (k : Int))).run Try.prog w = .ok (.int .i64 (l.getD k 0)) w := by
  obtain ⟨a, b, c, d, e, rfl⟩ : ∃ a b c d e, l = [a, b, c, d, e] := by
    match l, hl with
    | [a, b, c, d, e], _ => exact ⟨_, _, _, _, _, rfl⟩
  rcases (by omega : k = 0 ∨ k = 1 ∨ k = 2 ∨ k = 3 ∨ k = 4) with rfl | rfl | rfl | rfl | rfl
  all_goals kernel_rfl
section
variable {P : Program} {ops : Array Oper} {rest : List Oper} {op : Oper} {a : Act} {w : World} {Q : Exit → Act → World → Prop}
theorem wpList_index_i (hgd : op.guard = none) (t : TypeId) (x y : Operand) (ho : op.op = .index t x y) (vx vy : Value) (hx : a.eval x = vx) (hy : a.eval y = vy) (v : Value) (hrun : (Instr.index t vx vy).run P w = .ok v w)
    (h : wpList P ops Q rest (a.put op.dst v) w) : wpList P ops Q (op :: rest) a w :=
  wpList_plain hgd fun _ hK => by
    unfold Oper.wp execOp
    simp only [ho, hx, hy, Sem.run_bind, Sem.run_pure, Result.andThen_ok, hrun]
    exact hK _ _ h
theorem run_part_agg {e : TypeId} {d : TypeDesc} (hu : P.underlying e = some d) (hd : d.isRow = true) {i : TypeInfo} (hi : P.info? e = some i) (cs : Array Value) (off : Nat) : (part e cs off).run P w = .ok (.agg (cs.extract off (off + i.size))) w := by
  cases d <;> simp [part, isAgg, run_underlying hu, sizeOf, typeInfo, hi] at hd ⊢
theorem run_index_agg {t e : TypeId} {n : Nat} {d : TypeDesc} (ht : P.underlying t = some (.array n e)) (hu : P.underlying e = some d) (hd : d.isRow = true) {s : Nat} (hi : (P.info? e).map (·.size) = some s) (zs : List Int) (k : Nat) (hk : k < n) :
    (Instr.index t (.agg (iA zs)) (.int .i64 (k : Int))).run P w = .ok (.agg (iA ((zs.drop (k * s)).take s))) w := by
  cases hq : P.info? e with
  | none => simp [hq] at hi
  | some i =>
    have hs : i.size = s := by simpa [hq] using hi
    have hp := run_part_agg (w := w) hu hd hq (iA zs) (k * s)
    rw [hs] at hp
    have he : (iA zs).extract (k * s) (k * s + s) = iA ((zs.drop (k * s)).take s) := by
      apply Array.ext'
      rw [Array.toList_extract, iA_toList, iA_toList, ← iV_chunk]
      simp [List.extract]
    simp [Instr.index, asIntOf, run_underlying ht, sizeOf, typeInfo, hq, hs, hk, hp, he]
end

set_option maxRecDepth 100000 in
set_option maxHeartbeats 1600000 in
theorem wcells_any (g : Nat) (v : Value) (bs zs : List Int) (w : World) (h : Wr w g v bs) (hz : ∀ z ∈ zs, 0 ≤ z ∧ z < 9223372036854775808) (hl : zs.length = 28) (hn : bs.length ≤ 1000000) :
    Calls Try.prog 36 #[.pointer (some ⟨g, 0, none⟩), .agg (iA zs)] w fun e w' => e = .returned (.tuple #[]) ∧ ∃ v', Wr w' g v' (bs ++ encL zs) ∧ Wrote w w' g v v' := by
  have HZ := hide hz
  have HL := hide hl
  have hi28 := Try.infoCells
  have hi7 := Try.infoCell
  clear hz hl
  go_enter Try.func36, Try.ntmps36
  have hb0 : IBlk (w.alloc (.cells (iA zs) 39)) w.heap.size 39 zs := IBlk.new _ _ _
  go_wp2_with (refine wpList_load_i rfl 39 (.tmp 3) rfl hb0 0 28 rfl (by have := HL.out; omega) Try.underlying39 rfl hi28 ?_; rw [List.drop_zero, List.take_of_length_le (Nat.le_of_eq HL.out)])
  go_loopw [7] (fun i wr => ∃ (k : Nat) (v' : Value), k ≤ 4 ∧ i = .int .i64 k ∧ Wr wr g v' (bs ++ encL (zs.take (7 * k))) ∧ Wrote w wr g v v') (fun i _ => 4 - (intOf i).toNat)
  case atStart => exact ⟨0, v, by omega, rfl, by simpa [encL] using h.alloc _, (Wrote.refl _ _ _).first ((Only.refl _ _).alloc _)⟩
  case round =>
    clear hb0 h
    obtain ⟨k, v', hk, rfl, hW, hO⟩ := hrel
    by_cases hlt : k < 4
    · obtain ⟨ch, hch⟩ : ∃ ch, ch = (zs.drop (k * 7)).take 7 := ⟨_, rfl⟩
      have hcl : ch.length = 7 := by rw [hch, List.length_take, List.length_drop, HL.out]; omega
      have hcz : ∀ z ∈ ch, 0 ≤ z ∧ z < 9223372036854775808 := fun z hz => HZ.out z (by rw [hch] at hz; exact List.mem_of_mem_drop (List.mem_of_mem_take hz))
      have hT : Hid (encL (zs.take (7 * (k + 1))) = encL (zs.take (7 * k)) ++ encL ch) := hide (by rw [show 7 * (k + 1) = 7 * k + 7 by omega, List.take_add, encL_append, hch, Nat.mul_comm k 7])
      have hlS : (encL (zs.take (7 * k))).length ≤ 9 * 28 := by
        have := encL_len (l := zs.take (7 * k)) (fun m hm => (HZ.out m (List.mem_of_mem_take hm)).2)
        rw [List.length_take, HL.out] at this; omega
      have hix : ∀ w, (Instr.index 39 (.agg (iA zs)) (.int .i64 (k : Int))).run Try.prog w = .ok (.agg (iA ch)) w := fun w => by
        rw [hch]; exact run_index_agg Try.underlying39 Try.underlying38 rfl hi7 zs k hlt
      obtain ⟨c0, c1, gs, rfl⟩ : ∃ c0 c1 gs, ch = c0 :: c1 :: gs := by
        match ch, hcl with
        | c0 :: c1 :: gs, _ => exact ⟨_, _, _, rfl⟩
      have hgl : gs.length = 5 := by simpa using hcl
      have HG5 := hide hgl
      have HC7 := hide hcl
      have HCZ := hide hcz
      clear hch hgl hcl hcz
      generalize encL (zs.take (7 * k)) = E at hW hT hlS
      have hnew : IBlk (wr.alloc (.cells (iA (zeros 7)) 38)) wr.heap.size 38 (zeros 7) := IBlk.new _ _ _
      have hn7 : 0 + (c0 :: c1 :: gs).length ≤ (zeros 7).length := by rw [HC7.out]; decide
      have hI := hnew.setN hn7
      rw [show (zeros 7).take 0 ++ (c0 :: c1 :: gs) ++ (zeros 7).drop (0 + (c0 :: c1 :: gs).length) = c0 :: c1 :: gs by rw [HC7.out]; simp [zeros]] at hI
      have hO4 : Only (fun _ => False) wr ((wr.alloc (.cells (iA (zeros 7)) 38)).setCells wr.heap.size 0 (iV (c0 :: c1 :: gs))) := Only.setCells _ (.inr (Nat.le_refl _)) _ _ ((Only.refl _ _).alloc _)
      have hW4 := hW.only hO4 (fun h => h) (fun _ _ h => h)
      have hO5 : Wrote w ((wr.alloc (.cells (iA (zeros 7)) 38)).setCells wr.heap.size 0 (iV (c0 :: c1 :: gs))) g v v' := hO.trans ((Wrote.refl _ _ _).first hO4)
      obtain ⟨X, hX⟩ : ∃ X, X = c0 :: c1 :: gs := ⟨_, rfl⟩
      rw [← hX] at hix hn7 hI hO4 hW4 hO5
      have HX7 : Hid (X.length = 7) := hide (by rw [hX]; exact HC7.out)
      have HXE := hide hX
      clear hX
      go_wp2_with (first
        | refine wpList_index_i rfl 39 (.tmp 6) (.tmp 7) rfl _ _ rfl rfl _ (hix _) ?_
        | refine wpList_alloc_i rfl 38 rfl (iA (zeros 7)) Try.allocCell ?_
        | refine wpList_store_i rfl 38 (.tmp 5) (.tmp 9) rfl hnew 0 X rfl rfl hn7 (by rw [HX7.out]; exact hi7) ?_)
      generalize (wr.alloc (.cells (iA (zeros 7)) 38)).setCells wr.heap.size 0 (iV X) = w4 at hI hO4 hW4 hO5
      have hc0 : w4.drew.cell? ⟨wr.heap.size, 0, none⟩ = some (.int .i64 c0) := hI.drew.cellAt 0 c0 (by rw [HXE.out]; rfl)
      have hc1 : w4.drew.cell? ⟨wr.heap.size, 1, none⟩ = some (.int .i64 c1) := hI.drew.cellAt 1 c1 (by rw [HXE.out]; rfl)
      have hWd := hW4.drew
      have hsz : wr.heap.size < w4.heap.size := hI.lt
      have hN1 : ∀ b, b = w4.heap.size → Calls Try.prog 10 #[.pointer (some ⟨g, 0, none⟩), .slice (some ⟨b, 0, none⟩) 2 2] ((w4.alloc (.cells #[.int .i64 c0, .int .i64 c1] 3)).drew) fun e w' => e = .returned (.pointer (some ⟨g, 0, none⟩)) ∧ ∃ v2, Wr w' g v2 (bs ++ E ++ encL [c0, c1]) ∧ Wrote w4 w' g v' v2 := by
        intro b hb
        have hz := HCZ.out
        have := wnum_new g b v' (bs ++ E) [c0, c1] #[.int .i64 c0, .int .i64 c1] w4.drew hb hWd rfl (fun z hz' => hz z (by simp at hz' ⊢; rcases hz' with rfl | rfl <;> simp)) (by simp; omega) 2 2 rfl
        exact this.mono fun e w' ⟨he, v2, h1, h2⟩ => ⟨he, v2, h1, h2.first ((Only.refl _ _).drew)⟩
      have hN2 : ∀ w6 v2, Wr w6 g v2 (bs ++ E ++ encL [c0, c1]) → Wrote w4 w6 g v' v2 → Calls Try.prog 10 #[.pointer (some ⟨g, 0, none⟩), .slice (some ⟨wr.heap.size, 2, none⟩) 5 5] w6 fun e w' => e = .returned (.pointer (some ⟨g, 0, none⟩)) ∧ ∃ v3, Wr w' g v3 (bs ++ (E ++ encL (c0 :: c1 :: gs))) ∧ Wrote w4 w' g v' v3 := by
        intro w6 v2 hW6 hO6
        have hfar := hW4.far hI (by decide) (by decide)
        have hI6 := hI.only hO6.only hfar
        have hr := hI6.reads 2 5 (by rw [HX7.out]; omega)
        have he : (X.drop 2).take 5 = gs := by rw [HXE.out]; show gs.take 5 = gs; exact List.take_of_length_le (Nat.le_of_eq HG5.out)
        rw [he] at hr
        have hz := HCZ.out
        refine (wnum_any g v2 _ (some ⟨wr.heap.size, 2, none⟩) 5 5 gs w6 hW6 hr (fun ad e => by cases e; exact hW6.far hI6 (by decide) (by decide)) (fun z hz' => hz z (by simp [hz'])) ?_).mono ?_
        · have := encL_len (l := [c0, c1]) (fun z hz' => (hz z (by simp at hz' ⊢; rcases hz' with rfl | rfl <;> simp)).2)
          simp at this ⊢; omega
        · rintro e w' ⟨rfl, v3, hW7, hO7⟩
          refine ⟨rfl, v3, ?_, hO6.trans hO7⟩
          rw [show c0 :: c1 :: gs = [c0, c1] ++ gs from rfl, encL_append]
          rw [show bs ++ (E ++ (encL [c0, c1] ++ encL gs)) = bs ++ E ++ encL [c0, c1] ++ encL gs by simp only [List.append_assoc]]
          exact hW7
      go_region_with (first
        | (go_at_call 10; (with_reducible refine (hN1 _ (by simp)).mono ?_); rintro e w6 ⟨rfl, v2, hW6, hO6⟩)
        | (go_at_call 10; (with_reducible refine (hN2 _ _ hW6 hO6).mono ?_); rintro e w7 ⟨rfl, v3, hW7, hO7⟩))
      all_goals
        go_wp2_with fail
        go_roundw
        case rel => exact ⟨k + 1, v3, by omega, by go_num, by rw [hT.out]; exact hW7, hO5.trans hO7⟩
        case measure => simp [intOf]; omega
    · have he : zs.take (7 * k) = zs := List.take_of_length_le (by rw [HL.out]; omega)
      rw [he] at hW
      clear he
      go_wp2_with fail
      go_end0
      exact ⟨rfl, v', hW, hO⟩
end Go.Proofs.Ytfhepoihhigcaaa
