/- A box's select: lay and Take. -/
import Derived.Test.YteiaiicdemmcoaaDoorBoxQ
import Derived.Conc.LoneSelect
namespace Go.Proofs.YteiaiicdemmcoaaDoor
open Go.RowKit Go.Conc

set_option maxRecDepth 100000 in
theorem lay_runs (w : World) (Q : Nat → Prop) (p c N : Nat) (Fs : List Sl) (s : Sl) (h : BoxAt w Q p c N Fs) (hs : SlOk w Q s) : Calls Tryd.prog 26 #[.pointer (some ⟨p, 0, none⟩), .slice s.A s.n s.c] w fun e w' =>
    if Fs.length < N then e = .returned (.bool true) ∧ BoxAt w' Q p c N (Fs ++ [s]) ∧ Only (· = c) w w' else e = .returned (.bool false) ∧ w = w' := by
  have c0 := h.ptr.cellAt (i := 0) rfl
  obtain ⟨sn, rn, hc⟩ := h.chan
  by_cases hl : Fs.length < N
  · simp only [if_pos hl]
    refine calls_of_loneTo fun cs => ?_
    have e : Frame.enter Tryd.prog 26 #[.pointer (some ⟨p, 0, none⟩), .slice s.A s.n s.c] .normal = (base 26).at ⟨#[.pointer (some ⟨p, 0, none⟩), .slice s.A s.n s.c, undef, undef, undef, undef, undef, undef, undef, undef, undef, undef, undef], []⟩ [.code (Tryd.f26.body.getD .skip)] := by
      simp [Frame.enter, Frame.at, Tryd.func26, base, Tryd.f26]
    rw [e]
    refine LoneTo.goes (n := 40) ?_
    simp only [Tryd.f26, Option.getD_some]
    s_c stepG_seq
    s_reg
    s_op
    s_c stepG_region_end
    s_c stepG_seq
    s_c stepG_seq
    s_reg
    s_op
    s_op
    s_op
    s_op
    s_c stepG_region_end
    s_reg
    s_op
    s_c stepG_region_end
    s_c stepG_seq
    s_reg
    s_stop
    refine LoneTo.step (step_lone_select_send_room (c := c) (v := .slice s.A s.n s.c) (z' := .slice none 0 0) (cap := N) (buf := (Fs.map slV).toArray) (s := sn) (r := rn) (tm := false)
      (stepG_comm (cases := #[scase c (.slice s.A s.n s.c) (.slice none 0 0)]) (blocking := false) (shape := .select) (w' := w) rfl rfl (by decide) (by simp [go_sem, execOp, scase, Act.eval])) hc (by simpa using hl)) ?_
    rw [Frame.finish_at]
    walk_nrm
    refine LoneTo.goes (n := 30) ?_
    s_op
    s_op
    s_c stepG_region_end
    s_c stepG_block
    s_cond true
    s_c stepG_seq
    s_reg
    s_op
    s_c stepG_region_end
    s_c stepG_ret'
    s_stop
    refine LoneTo.done ⟨.returned (.bool true), _, rfl, ⟨rfl, ?_⟩, rfl, rfl, rfl, rfl, _, Tryd.func26, by simp [results, Tryd.f26, Frame.at]⟩
    have k := h.turn (Gs := Fs ++ [s]) (by simp; omega) (fun t ht => by
      rcases List.mem_append.1 ht with ht | ht
      · exact h.each t ht
      · obtain rfl := List.mem_singleton.1 ht; exact hs) (sn + 1) rn
    rw [List.map_append] at k
    exact ⟨k, only_setChan _ _ _ _ _ _ _ _⟩
  · simp only [if_neg hl]
    refine calls_of_loneTo fun cs => ?_
    have e : Frame.enter Tryd.prog 26 #[.pointer (some ⟨p, 0, none⟩), .slice s.A s.n s.c] .normal = (base 26).at ⟨#[.pointer (some ⟨p, 0, none⟩), .slice s.A s.n s.c, undef, undef, undef, undef, undef, undef, undef, undef, undef, undef, undef], []⟩ [.code (Tryd.f26.body.getD .skip)] := by
      simp [Frame.enter, Frame.at, Tryd.func26, base, Tryd.f26]
    rw [e]
    refine LoneTo.goes (n := 40) ?_
    simp only [Tryd.f26, Option.getD_some]
    s_c stepG_seq
    s_reg
    s_op
    s_c stepG_region_end
    s_c stepG_seq
    s_c stepG_seq
    s_reg
    s_op
    s_op
    s_op
    s_op
    s_c stepG_region_end
    s_reg
    s_op
    s_c stepG_region_end
    s_c stepG_seq
    s_reg
    s_stop
    refine LoneTo.step (step_lone_select_send_full (c := c) (v := .slice s.A s.n s.c) (z' := .slice none 0 0) (cap := N) (buf := (Fs.map slV).toArray) (s := sn) (r := rn) (tm := false)
      (stepG_comm (cases := #[scase c (.slice s.A s.n s.c) (.slice none 0 0)]) (blocking := false) (shape := .select) (w' := w) rfl rfl (by decide) (by simp [go_sem, execOp, scase, Act.eval])) hc (by simpa using Nat.le_of_not_lt hl)) ?_
    rw [Frame.finish_at]
    walk_nrm
    refine LoneTo.goes (n := 30) ?_
    s_op
    s_op
    s_c stepG_region_end
    s_c stepG_block
    s_cond false
    s_c stepG_seq
    s_reg
    s_op
    s_c stepG_region_end
    s_c stepG_ret'
    s_stop
    refine LoneTo.done ⟨.returned (.bool false), _, rfl, ⟨rfl, rfl⟩, rfl, rfl, rfl, rfl, _, Tryd.func26, by simp [results, Tryd.f26, Frame.at]⟩
set_option maxRecDepth 100000 in
theorem Take_none (w : World) (Q : Nat → Prop) (p c N : Nat) (h : BoxAt w Q p c N []) : Calls Tryd.prog 22 #[.pointer (some ⟨p, 0, none⟩)] w fun e w' => e = .returned (.tuple #[.slice none 0 0, .bool false]) ∧ w = w' := by
  have c0 := h.ptr.cellAt (i := 0) rfl
  obtain ⟨sn, rn, hc⟩ := h.chan
  refine calls_of_loneTo fun cs => ?_
  have e : Frame.enter Tryd.prog 22 #[.pointer (some ⟨p, 0, none⟩)] .normal = (base 22).at ⟨#[.pointer (some ⟨p, 0, none⟩), undef, undef, undef, undef, undef, undef, undef, undef, undef, undef, undef, undef, undef], []⟩ [.code (Tryd.f22.body.getD .skip)] := by
    simp [Frame.enter, Frame.at, Tryd.func22, base, Tryd.f22]
  rw [e]
  refine LoneTo.goes (n := 40) ?_
  simp only [Tryd.f22, Option.getD_some]
  s_c stepG_seq
  s_reg
  s_op
  s_op
  s_c stepG_region_end
  s_c stepG_seq
  s_reg
  s_op
  s_op
  s_op
  s_op
  s_c stepG_region_end
  s_c stepG_seq
  s_reg
  s_stop
  refine LoneTo.step (step_lone_select_default (c := c) (z := .slice none 0 0) (cap := N) (s := sn) (r := rn) (tm := false)
    (stepG_comm (cases := #[rcase c (.slice none 0 0)]) (blocking := false) (shape := .select) (w' := w) rfl rfl (by decide) (by simp [go_sem, execOp, rcase, Act.eval])) hc) ?_
  rw [Frame.finish_at]
  walk_nrm
  refine LoneTo.goes (n := 30) ?_
  s_op
  s_op
  s_c stepG_region_end
  s_c stepG_block
  s_cond false
  s_c stepG_seq
  s_reg
  s_op
  s_op
  s_c stepG_region_end
  s_c stepG_ret'
  s_stop
  refine LoneTo.done ⟨.returned (.tuple #[.slice none 0 0, .bool false]), _, rfl, ⟨rfl, rfl⟩, rfl, rfl, rfl, rfl, _, Tryd.func22, by simp [results, Tryd.f22, Frame.at]⟩
set_option maxRecDepth 100000 in
theorem Take_some (w : World) (Q : Nat → Prop) (p c N : Nat) (s : Sl) (Fs : List Sl) (h : BoxAt w Q p c N (s :: Fs)) : Calls Tryd.prog 22 #[.pointer (some ⟨p, 0, none⟩)] w fun e w' => e = .returned (.tuple #[.slice s.A s.n s.c, .bool true]) ∧ BoxAt w' Q p c N Fs ∧ Only (· = c) w w' ∧ SlOk w' Q s := by
  have c0 := h.ptr.cellAt (i := 0) rfl
  obtain ⟨sn, rn, hc⟩ := h.chan
  refine calls_of_loneTo fun cs => ?_
  have e : Frame.enter Tryd.prog 22 #[.pointer (some ⟨p, 0, none⟩)] .normal = (base 22).at ⟨#[.pointer (some ⟨p, 0, none⟩), undef, undef, undef, undef, undef, undef, undef, undef, undef, undef, undef, undef, undef], []⟩ [.code (Tryd.f22.body.getD .skip)] := by
    simp [Frame.enter, Frame.at, Tryd.func22, base, Tryd.f22]
  rw [e]
  refine LoneTo.goes (n := 40) ?_
  simp only [Tryd.f22, Option.getD_some]
  s_c stepG_seq
  s_reg
  s_op
  s_op
  s_c stepG_region_end
  s_c stepG_seq
  s_reg
  s_op
  s_op
  s_op
  s_op
  s_c stepG_region_end
  s_c stepG_seq
  s_reg
  s_stop
  refine LoneTo.step (step_lone_select_recv_buf (c := c) (z := .slice none 0 0) (cap := N) (buf := ((s :: Fs).map slV).toArray) (closed := false) (s := sn) (r := rn) (tm := false)
    (stepG_comm (cases := #[rcase c (.slice none 0 0)]) (blocking := false) (shape := .select) (w' := w) rfl rfl (by decide) (by simp [go_sem, execOp, rcase, Act.eval])) hc (by simp)) ?_
  rw [Frame.finish_at]
  walk_nrm
  refine LoneTo.goes (n := 30) ?_
  s_op
  s_op
  s_c stepG_region_end
  s_c stepG_block
  s_cond true
  s_c stepG_seq
  s_reg
  s_op
  s_op
  s_c stepG_region_end
  s_c stepG_seq
  s_reg
  s_op
  s_op
  s_op
  s_c stepG_region_end
  s_c stepG_ret'
  s_stop
  refine LoneTo.done ⟨.returned (.tuple #[.slice s.A s.n s.c, .bool true]), _, rfl, ⟨rfl, ?_⟩, rfl, rfl, rfl, rfl, _, Tryd.func22, by simp [results, Tryd.f22, Frame.at]⟩
  have k := h.turn (Gs := Fs) (by have := h.le; simp at this; omega) (fun t ht => h.each t (by simp [ht])) sn (rn + 1)
  rw [List.take_of_length_le (by simp)]
  exact ⟨k, only_setChan _ _ _ _ _ _ _ _, (h.each s (by simp)).chan h.chan (only_setChan _ _ _ _ _ _ _ _)⟩
end Go.Proofs.YteiaiicdemmcoaaDoor
