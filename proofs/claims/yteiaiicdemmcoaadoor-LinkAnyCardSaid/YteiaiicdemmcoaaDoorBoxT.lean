/- A box's Clone, Put. -/
import Derived.Test.YteiaiicdemmcoaaDoorBoxS
namespace Go.Proofs.YteiaiicdemmcoaaDoor
open Go.RowKit Go.Conc

attribute [local go_sem ↓] app8F_fold
attribute [local go_sem] app8F_has
theorem own_empty (w : World) (t : TypeId) : (w.alloc (.cells #[] t)).ownsRow w.heap.size t 1 (.slice (some ⟨w.heap.size, 0, none⟩) 0 0) 0 [] :=
  ⟨rfl, .inr ⟨w.heap.size, 0, #[], rfl, Nat.le_refl _, heap_alloc_new w _, Nat.le_refl _, Nat.zero_le _, rfl, rfl⟩⟩
/-- A slice of bytes that is owned is one that is read. -/
theorem own_sl {w : World} {base n : Nat} {v : Value} {zs : List Int} (h : w.ownsRow base 5 1 v n (u8V zs)) (hz : ∀ z ∈ zs, (Lit.int .u8 z).wf = true) : ∃ s : Sl, v = slV s ∧ s.zs = zs ∧ s.n = n ∧ SlOk w (fun b => base ≤ b) s := by
  obtain ⟨A, c, rfl, h1, h2⟩ := own_form h
  refine ⟨⟨A, n, c, zs⟩, rfl, rfl, rfl, ⟨⟨Reads.of_own h, h1, h2, hz⟩, fun h0 ad ha => own_base h _ ?_⟩⟩
  simp only at ha
  subst ha
  rfl
/-- Bytes of one's own, in memory from there on. -/
def OwnS (w : World) (base : Nat) (t : Sl) : Prop := w.ownsRow base 5 1 (slV t) t.n (u8V t.zs)
theorem OwnS.chan {w w' : World} {base c N : Nat} {vs : List Value} {t : Sl} (h : OwnS w base t) (hc : ChanIs w c N vs) (k : Only (· = c) w w') : OwnS w' base t := own_only h k (own_noChan h hc)
theorem OwnS.mono {w : World} {base base' : Nat} {t : Sl} (h : OwnS w base t) (hb : base' ≤ base) : OwnS w base' t :=
  ⟨h.1, h.2.elim .inl fun ⟨g, cap, cur, e, hg, r⟩ => .inr ⟨g, cap, cur, e, Nat.le_trans hb hg, r⟩⟩
theorem OwnS.ok {w : World} {base : Nat} {t : Sl} (h : OwnS w base t) (hz : ∀ z ∈ t.zs, (Lit.int .u8 z).wf = true) : SlOk w (fun b => base ≤ b) t := by
  obtain ⟨s, e, e1, e2, hs⟩ := own_sl h hz
  obtain ⟨A, n, c, zs⟩ := t
  obtain ⟨A', n', c', zs'⟩ := s
  injection e with e3 e4 e5
  subst e3 e4 e5
  simp only at e1
  subst e1
  exact hs
/-- A copy in new memory. -/
def IsClone (w w' : World) (s : Sl) (v : Value) : Prop := ∃ t : Sl, v = slV t ∧ t.zs = s.zs ∧ t.n = s.n ∧ OwnS w' w.heap.size t
set_option maxRecDepth 100000 in
theorem Clone_runs (w : World) (s : Sl) (B : Nat) (hs : SlIn w B s) (hB : B ≤ w.heap.size) (hn : s.n ≤ 90000) : Calls Tryd.prog 27 #[.slice s.A s.n s.c] w fun e w' =>
    ∃ v, e = .returned v ∧ IsClone w w' s v ∧ Below w.heap.size w w' := by
  obtain ⟨A, n, c, zs⟩ := s
  have hq := Lib.run_eql_slice_nil (P := Tryd.prog) w 23 5 A n c 0 0 Tryd.underlying23
  rcases A with _ | ad
  · have h0 : n = 0 := by
      rcases Nat.eq_zero_or_pos n with h | h
      · exact h
      · obtain ⟨ad, e, _⟩ := hs.reads.2 h
        cases e
    subst h0
    have hz : zs = [] := by have := hs.len; simpa using this
    subst hz
    go_enter Tryd.func27, Tryd.ntmps27
    go_wp2_with fail
    go_ret
    exact ⟨_, rfl, ⟨⟨none, 0, 0, []⟩, rfl, rfl, rfl, World.ownsRow_nil _ _ _ _⟩, Below.refl _ _⟩
  · have hn : n ≤ 90000 := hn
    have hb : Below w.heap.size w (w.alloc (.cells #[] 5)) := (Below.refl _ w).alloc (Nat.le_refl _) _
    obtain ⟨h1, h2⟩ := app8_any (own_empty w 5) (c := c) (hs.reads.alloc hB (.cells #[] 5)) (by omega) (by simp)
    have hbd := hs.wf
    have hfin : ∀ q : Value × World, app8P (w.alloc (.cells #[] 5)) (.slice (some ⟨w.heap.size, 0, none⟩) 0 0) (.slice (some ad) n c) = q → IsClone w q.2 ⟨some ad, n, c, zs⟩ q.1 ∧ Below w.heap.size w q.2 := fun q hq => by
      obtain ⟨g1, g2⟩ := h2 q hq
      rw [List.nil_append, Nat.zero_add] at g1
      obtain ⟨t, e1, e2, e3, _⟩ := own_sl g1 hbd
      exact ⟨⟨t, e1, e2, e3, by unfold OwnS; rw [← e1, e2, e3]; exact g1⟩, hb.grown g2 (by simp) (fun k hk => by simp [Value.ownBlock] at hk; omega)⟩
    clear h2
    have HF := hide hfin
    clear hfin
    go_enter Tryd.func27, Tryd.ntmps27
    go_wp2_with fail
    go_ret
    exact ⟨_, rfl, (HF.out _ rfl).1, (HF.out _ rfl).2⟩
/-- What Put leaves: x waits last, as a copy; or nothing. -/
def PutIs (w w' : World) (Q : Nat → Prop) (p c N : Nat) (Fs : List Sl) (zs : List Int) (e : Ending) : Prop :=
  if Fs.length < N then e = .returned (.bool true) ∧ (∃ t : Sl, t.zs = zs ∧ OwnS w' w.heap.size t ∧ BoxAt w' Q p c N (Fs ++ [t])) ∧ Only (· = c) w w'
  else e = .returned (.bool false) ∧ BoxAt w' Q p c N Fs ∧ Only (fun _ => False) w w'
set_option maxRecDepth 100000 in
theorem Put_runs (w : World) (Q : Nat → Prop) (p c N B : Nat) (Fs : List Sl) (s : Sl) (h : BoxAt w Q p c N Fs) (hs : SlIn w B s) (hB : B ≤ w.heap.size) (hn : s.n ≤ 90000) (hQ : ∀ b, w.heap.size ≤ b → Q b) : Calls Tryd.prog 21 #[.pointer (some ⟨p, 0, none⟩), .slice s.A s.n s.c] w fun e w' => PutIs w w' Q p c N Fs s.zs e := by
  have HC := hide (Clone_runs w s B hs hB hn)
  go_enter Tryd.func21, Tryd.ntmps21
  go_wp2_with fail
  (with_reducible refine HC.out.mono ?_)
  rintro x w1 ⟨v, rfl, ⟨t, rfl, e1, e2, ht⟩, hb⟩
  have h1 := h.below hb
  have hl := lay_runs w1 Q p c N Fs t h1 ((ht.ok (by rw [e1]; exact hs.wf)).mono fun b _ h => hQ b h)
  have hc := h1.chan
  clear HC
  go_wp2_with fail
  (with_reducible refine hl.mono ?_)
  rintro x w2 hx
  by_cases hlt : Fs.length < N
  · rw [if_pos hlt] at hx
    obtain ⟨rfl, h2, k⟩ := hx
    go_wp2_with fail
    go_ret
    unfold PutIs
    rw [if_pos hlt]
    exact ⟨rfl, ⟨t, e1, ht.chan hc k, h2⟩, (only_of_below hb _).trans_ k⟩
  · rw [if_neg hlt] at hx
    obtain ⟨rfl, rfl⟩ := hx
    go_wp2_with fail
    go_ret
    unfold PutIs
    rw [if_neg hlt]
    exact ⟨rfl, h1, only_of_below hb _⟩
end Go.Proofs.YteiaiicdemmcoaaDoor
