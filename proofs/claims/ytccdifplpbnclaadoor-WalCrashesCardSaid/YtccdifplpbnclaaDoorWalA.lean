/- A log's small calls: Pieces, Len, Room, grow. -/
import Derived.Test.YtccdifplpbnclaaDoorWalP
import Derived.Test.YtccdifplpbnclaaDoorDskE
namespace Go.Proofs.YtccdifplpbnclaaDoor
open Go.RowKit

theorem pcs_w {n : Nat} (h : ¬ (n : Int) < 1) : ((n : Int) - 1) / 52 + 1 = (pcs n : Int) := by
  unfold pcs
  rw [show max n 1 = n by omega]
  omega
set_option maxRecDepth 100000 in
theorem Pieces_runs (w : World) (n : Nat) (h : n ≤ 9223372036854775807) : Calls Tryd.prog 18 #[.int .i64 n] w fun e w' => e = .returned (.int .i64 (pcs n : Int)) ∧ w = w' := by
  go_enter Tryd.func18, Tryd.ntmps18
  by_cases g : (n : Int) < 1
  · have h0 : n = 0 := by omega
    subst h0
    go_wp2_with fail
    all_goals
      go_ret
      exact ⟨rfl, rfl⟩
  · go_wp2_with fail
    all_goals
      go_ret
      exact ⟨ret_int (pcs_w (by go_light; omega)), rfl⟩
/-- The log l of the disk d: so many records, so many sectors. -/
def LogIs (w : World) (l d k e : Nat) : Prop := VBlk w l 56 [.pointer (some ⟨d, 0, none⟩), .int .i64 (k : Int), .int .i64 (e : Int)]
set_option maxRecDepth 100000 in
theorem Len_runs (w : World) (l d k e : Nat) (h : LogIs w l d k e) : Calls Tryd.prog 16 #[.pointer (some ⟨l, 0, none⟩)] w fun x w' => x = .returned (.int .i64 (k : Int)) ∧ w = w' := by
  have c1 := h.cellAt (i := 1) rfl
  go_enter Tryd.func16, Tryd.ntmps16
  go_wp2_with fail
  go_ret
  exact ⟨rfl, rfl⟩
set_option maxRecDepth 100000 in
theorem Room_runs (w : World) (l d k e : Nat) (h : LogIs w l d k e) (he : e ≤ 2048) : Calls Tryd.prog 19 #[.pointer (some ⟨l, 0, none⟩)] w fun x w' => x = .returned (.int .i64 ((2048 - e : Nat) : Int)) ∧ w = w' := by
  have c2 := h.cellAt (i := 2) rfl
  go_enter Tryd.func19, Tryd.ntmps19
  go_wp2_with fail
  go_ret
  exact ⟨ret_int (by go_light; omega), rfl⟩
set_option maxRecDepth 100000 in
theorem grow_runs (w : World) (l d k e n : Nat) (h : LogIs w l d k e) (hn : n ≤ 20000) (hk : k ≤ 10000) (he : e ≤ 10000) : Calls Tryd.prog 24 #[.pointer (some ⟨l, 0, none⟩), .int .i64 n] w fun x w' => (∃ v, x = .returned v) ∧ LogIs w' l d (k + 1) (e + pcs n) ∧ Only (· = l) w w' := by
  have c1 := h.cellAt (i := 1) rfl
  have c2 := h.cellAt (i := 2) rfl
  have z1 := h.frozen 1
  have z2 := h.frozen 2
  have hp : pcs n ≤ 400 := by unfold pcs; omega
  have h1 : VBlk (w.setCell ⟨l, 1, none⟩ (.int .i64 ((k : Int) + 1))) l _ _ := VBlk.set h 1 (.int .i64 ((k : Int) + 1))
  have o1 := only_cell w l 1 (.int .i64 ((k : Int) + 1))
  go_enter Tryd.func24, Tryd.ntmps24
  go_upto_region 1 with fail
  generalize w.setCell ⟨l, 1, none⟩ (.int .i64 ((k : Int) + 1)) = w1 at *
  have d2 := h1.drew.cellAt (i := 2) rfl
  have y2 := h1.drew.frozen 2
  have h2 : VBlk (w1.drew.setCell ⟨l, 2, none⟩ (.int .i64 ((e : Int) + (pcs n : Int)))) l _ _ := VBlk.set h1.drew 2 (.int .i64 ((e : Int) + (pcs n : Int)))
  have o2 := o1.drew.trans_ (only_cell w1.drew l 2 (.int .i64 ((e : Int) + (pcs n : Int))))
  have h2' : LogIs (w1.drew.setCell ⟨l, 2, none⟩ (.int .i64 ((e : Int) + (pcs n : Int)))) l d (k + 1) (e + pcs n) := h2
  have hw : IntKind.i64.wrap ((e : Int) + (pcs n : Int)) = (e : Int) + (pcs n : Int) := IntWalk.i64_in _ (by omega)
  go_region_with (go_at_call 18; refine (Pieces_runs _ n (by omega)).mono ?_; rintro e' w' ⟨rfl, rfl⟩)
  all_goals
    go_wp2_with fail
    go_end0
    exact ⟨⟨_, rfl⟩, h2', o2⟩
end Go.Proofs.YtccdifplpbnclaaDoor
