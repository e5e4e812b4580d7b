/- A box's other calls: Clone, Put, Turn, Twice, Clear. -/
import Derived.Test.YtejdmeheafgmbaaBoxS
namespace Go.Proofs.Ytejdmeheafgmbaa
open Go.RowKit Go.Conc

attribute [local go_sem ↓] app8F_fold
attribute [local go_sem] app8F_has
theorem own_empty (w : World) (t : TypeId) : (w.alloc (.cells #[] t)).ownsRow w.heap.size t 1 (.slice (some ⟨w.heap.size, 0, none⟩) 0 0) 0 [] :=
  ⟨rfl, .inr ⟨w.heap.size, 0, #[], rfl, Nat.le_refl _, heap_alloc_new w _, Nat.le_refl _, Nat.zero_le _, rfl, rfl⟩⟩
/-- A slice of bytes that is owned is one that is read. -/
theorem own_sl {w : World} {base n : Nat} {v : Value} {zs : List Int} (h : w.ownsRow base 5 1 v n (u8V zs)) (hz : ∀ z ∈ zs, (Lit.int .u8 z).wf = true) : ∃ s : Sl, v = slV s ∧ s.zs = zs ∧ s.n = n ∧ SlOk w (fun b => base ≤ b) s := by
  obtain ⟨A, c, rfl, h1, h2⟩ := own_form h
  refine ⟨⟨A, n, c, zs⟩, rfl, rfl, rfl, ⟨⟨Reads.of_own h, h1, h2, hz⟩, fun h0 ad ha => own_base h _ ?_⟩⟩
  simp only at ha
  subst ha
  rfl
/-- Bytes of one's own, in memory from there on. -/
def OwnS (w : World) (base : Nat) (t : Sl) : Prop := w.ownsRow base 5 1 (slV t) t.n (u8V t.zs)
theorem OwnS.chan {w w' : World} {base c N : Nat} {vs : List Value} {t : Sl} (h : OwnS w base t) (hc : ChanIs w c N vs) (k : Only (· = c) w w') : OwnS w' base t := own_only h k (own_noChan h hc)
theorem OwnS.mono {w : World} {base base' : Nat} {t : Sl} (h : OwnS w base t) (hb : base' ≤ base) : OwnS w base' t :=
  ⟨h.1, h.2.elim .inl fun ⟨g, cap, cur, e, hg, r⟩ => .inr ⟨g, cap, cur, e, Nat.le_trans hb hg, r⟩⟩
theorem OwnS.ok {w : World} {base : Nat} {t : Sl} (h : OwnS w base t) (hz : ∀ z ∈ t.zs, (Lit.int .u8 z).wf = true) : SlOk w (fun b => base ≤ b) t := by
  obtain ⟨s, e, e1, e2, hs⟩ := own_sl h hz
  obtain ⟨A, n, c, zs⟩ := t
  obtain ⟨A', n', c', zs'⟩ := s
  injection e with e3 e4 e5
  subst e3 e4 e5
  simp only at e1
  subst e1
  exact hs
/-- A copy in new memory. -/
def IsClone (w w' : World) (s : Sl) (v : Value) : Prop := ∃ t : Sl, v = slV t ∧ t.zs = s.zs ∧ t.n = s.n ∧ OwnS w' w.heap.size t
set_option maxRecDepth 100000 in
theorem Clone_runs (w : World) (s : Sl) (B : Nat) (hs : SlIn w B s) (hB : B ≤ w.heap.size) (hn : s.n ≤ 90000) : Calls Try.prog 15 #[.slice s.A s.n s.c] w fun e w' =>
    ∃ v, e = .returned v ∧ IsClone w w' s v ∧ Below w.heap.size w w' := by
  obtain ⟨A, n, c, zs⟩ := s
  have hq := Lib.run_eql_slice_nil (P := Try.prog) w 27 5 A n c 0 0 Try.underlying27
  rcases A with _ | ad
  · have h0 : n = 0 := by
      rcases Nat.eq_zero_or_pos n with h | h
      · exact h
      · obtain ⟨ad, e, _⟩ := hs.reads.2 h
        cases e
    subst h0
    have hz : zs = [] := by have := hs.len; simpa using this
    subst hz
    go_enter Try.func15, Try.ntmps15
    go_wp2_with fail
    go_ret
    exact ⟨_, rfl, ⟨⟨none, 0, 0, []⟩, rfl, rfl, rfl, World.ownsRow_nil _ _ _ _⟩, Below.refl _ _⟩
  · have hn : n ≤ 90000 := hn
    have hb : Below w.heap.size w (w.alloc (.cells #[] 5)) := (Below.refl _ w).alloc (Nat.le_refl _) _
    obtain ⟨h1, h2⟩ := app8_any (own_empty w 5) (c := c) (hs.reads.alloc hB (.cells #[] 5)) (by omega) (by simp)
    have hbd := hs.wf
    have hfin : ∀ q : Value × World, app8P (w.alloc (.cells #[] 5)) (.slice (some ⟨w.heap.size, 0, none⟩) 0 0) (.slice (some ad) n c) = q → IsClone w q.2 ⟨some ad, n, c, zs⟩ q.1 ∧ Below w.heap.size w q.2 := fun q hq => by
      obtain ⟨g1, g2⟩ := h2 q hq
      rw [List.nil_append, Nat.zero_add] at g1
      obtain ⟨t, e1, e2, e3, _⟩ := own_sl g1 hbd
      exact ⟨⟨t, e1, e2, e3, by unfold OwnS; rw [← e1, e2, e3]; exact g1⟩, hb.grown g2 (by simp) (fun k hk => by simp [Value.ownBlock] at hk; omega)⟩
    clear h2
    have HF := hide hfin
    clear hfin
    go_enter Try.func15, Try.ntmps15
    go_wp2_with fail
    go_ret
    exact ⟨_, rfl, (HF.out _ rfl).1, (HF.out _ rfl).2⟩
/-- What Put leaves: x waits last, as a copy; or nothing. -/
def PutIs (w w' : World) (Q : Nat → Prop) (p c N : Nat) (Fs : List Sl) (zs : List Int) (e : Ending) : Prop :=
  if Fs.length < N then e = .returned (.bool true) ∧ (∃ t : Sl, t.zs = zs ∧ OwnS w' w.heap.size t ∧ BoxAt w' Q p c N (Fs ++ [t])) ∧ Only (· = c) w w'
  else e = .returned (.bool false) ∧ BoxAt w' Q p c N Fs ∧ Only (fun _ => False) w w'
set_option maxRecDepth 100000 in
theorem Put_runs (w : World) (Q : Nat → Prop) (p c N B : Nat) (Fs : List Sl) (s : Sl) (h : BoxAt w Q p c N Fs) (hs : SlIn w B s) (hB : B ≤ w.heap.size) (hn : s.n ≤ 90000) (hQ : ∀ b, w.heap.size ≤ b → Q b) : Calls Try.prog 12 #[.pointer (some ⟨p, 0, none⟩), .slice s.A s.n s.c] w fun e w' => PutIs w w' Q p c N Fs s.zs e := by
  have HC := hide (Clone_runs w s B hs hB hn)
  go_enter Try.func12, Try.ntmps12
  go_wp2_with fail
  (with_reducible refine HC.out.mono ?_)
  rintro x w1 ⟨v, rfl, ⟨t, rfl, e1, e2, ht⟩, hb⟩
  have h1 := h.below hb
  have hl := lay_runs w1 Q p c N Fs t h1 ((ht.ok (by rw [e1]; exact hs.wf)).mono fun b _ h => hQ b h)
  have hc := h1.chan
  clear HC
  go_wp2_with fail
  (with_reducible refine hl.mono ?_)
  rintro x w2 hx
  by_cases hlt : Fs.length < N
  · rw [if_pos hlt] at hx
    obtain ⟨rfl, h2, k⟩ := hx
    go_wp2_with fail
    go_ret
    unfold PutIs
    rw [if_pos hlt]
    exact ⟨rfl, ⟨t, e1, ht.chan hc k, h2⟩, (only_of_below hb _).trans_ k⟩
  · rw [if_neg hlt] at hx
    obtain ⟨rfl, rfl⟩ := hx
    go_wp2_with fail
    go_ret
    unfold PutIs
    rw [if_neg hlt]
    exact ⟨rfl, h1, only_of_below hb _⟩
set_option maxRecDepth 100000 in
theorem Turn_none (w : World) (Q : Nat → Prop) (p c N : Nat) (h : BoxAt w Q p c N []) : Calls Try.prog 9 #[.pointer (some ⟨p, 0, none⟩)] w fun e w' => e = .returned (.bool false) ∧ w = w' := by
  have HC := Take_none w Q p c N h
  go_enter Try.func9, Try.ntmps9
  go_wp2_with fail
  (with_reducible refine HC.mono ?_)
  rintro x w1 ⟨rfl, rfl⟩
  clear HC
  go_wp2_with fail
  go_ret
  exact ⟨rfl, rfl⟩
set_option maxRecDepth 100000 in
theorem Turn_some (w : World) (Q : Nat → Prop) (p c N : Nat) (s : Sl) (Fs : List Sl) (h : BoxAt w Q p c N (s :: Fs)) : Calls Try.prog 9 #[.pointer (some ⟨p, 0, none⟩)] w fun e w' => e = .returned (.bool true) ∧ BoxAt w' Q p c N (Fs ++ [s]) ∧ Only (· = c) w w' := by
  have HC := hide (Take_some w Q p c N s Fs h)
  have hle : Fs.length < N := by have := h.le; simp at this; omega
  go_enter Try.func9, Try.ntmps9
  go_wp2_with fail
  (with_reducible refine HC.out.mono ?_)
  rintro x w1 ⟨rfl, h1, k1, hs⟩
  have HL := lay_runs w1 Q p c N Fs s h1 hs
  simp only [if_pos hle] at HL
  clear HC
  go_wp2_with fail
  (with_reducible refine HL.mono ?_)
  rintro x w2 ⟨rfl, h2, k2⟩
  clear HL
  go_wp2_with fail
  go_ret
  exact ⟨rfl, h2, k1.trans_ k2⟩
/-- A list turned so many times. -/
def rotL (Fs : List Sl) (k : Nat) : List Sl := Fs.drop k ++ Fs.take k
theorem rotL_zero (Fs : List Sl) : rotL Fs 0 = Fs := by simp [rotL]
theorem rotL_all (Fs : List Sl) : rotL Fs Fs.length = Fs := by simp [rotL]
theorem rotL_succ {Fs : List Sl} {k : Nat} (h : k < Fs.length) : ∃ s Gs, rotL Fs k = s :: Gs ∧ rotL Fs (k + 1) = Gs ++ [s] := by
  refine ⟨Fs[k], Fs.drop (k + 1) ++ Fs.take k, ?_, ?_⟩
  · unfold rotL
    rw [List.drop_eq_getElem_cons h]
    rfl
  · unfold rotL
    rw [List.take_succ_eq_append_getElem h, List.append_assoc]
theorem rotL_len (Fs : List Sl) (k : Nat) : (rotL Fs k).length = Fs.length := by
  unfold rotL
  rw [List.length_append, List.length_drop, List.length_take]
  omega
set_option maxRecDepth 100000 in
theorem Clear_runs (w : World) (Q : Nat → Prop) (p c N : Nat) (Fs : List Sl) (h : BoxAt w Q p c N Fs) (hN : N ≤ 1000) : Calls Try.prog 11 #[.pointer (some ⟨p, 0, none⟩)] w fun e w' => (∃ v, e = .returned v) ∧ BoxAt w' Q p c N [] ∧ Only (· = c) w w' := by
  have hL := Len_runs w Q p c N Fs h
  have hle := h.le
  go_enter Try.func11, Try.ntmps11
  go_wp2_with fail
  (with_reducible refine hL.mono ?_)
  rintro x w1 ⟨rfl, rfl⟩
  clear hL
  go_wp2_with fail
  go_loopw [4] (fun s4 wr => ∃ j : Nat, j ≤ Fs.length ∧ s4 = .int .i64 j ∧ BoxAt wr Q p c N (Fs.drop j) ∧ Only (· = c) w wr) (fun s4 _ => Fs.length - (intOf s4).toNat)
  case atStart => exact ⟨0, Nat.zero_le _, rfl, by simpa using h, Only.refl _ _⟩
  case round =>
    obtain ⟨j, hj, rfl, hb, hk⟩ := hrel
    by_cases hlt : j < Fs.length
    · have dl : (j : Int) < (Fs.length : Int) := by omega
      rw [List.drop_eq_getElem_cons hlt] at hb
      have hT := hide (Take_some _ Q p c N _ _ hb)
      generalize Fs[j] = s at hT
      go_wp2_with fail
      (with_reducible refine hT.out.mono ?_)
      rintro x w2 ⟨rfl, h2, k2, _⟩
      have k3 := hk.trans_ k2
      clear hT
      go_wp2_with fail
      go_roundw
      case rel => go_light; exact ⟨j + 1, by omega, by go_num, h2, k3⟩
      case measure => go_light; simp [intOf]; omega
    · obtain rfl : j = Fs.length := by omega
      rw [List.drop_length] at hb
      go_wp2_with fail
      go_end0
      exact ⟨⟨_, rfl⟩, hb, hk⟩
set_option maxRecDepth 100000 in
theorem Twice_none (w : World) (Q : Nat → Prop) (p c N : Nat) (h : BoxAt w Q p c N []) : Calls Try.prog 10 #[.pointer (some ⟨p, 0, none⟩)] w fun e w' => e = .returned (.bool false) ∧ w = w' := by
  have HC := Take_none w Q p c N h
  go_enter Try.func10, Try.ntmps10
  go_wp2_with fail
  (with_reducible refine HC.mono ?_)
  rintro x w1 ⟨rfl, rfl⟩
  clear HC
  go_wp2_with fail
  go_ret
  exact ⟨rfl, rfl⟩
/-- What Twice leaves: the first ones wait once more, last, as a copy; or as it was. -/
def TwiceIs (w w' : World) (Q : Nat → Prop) (p c N : Nat) (Fs : List Sl) (zs : List Int) (e : Ending) : Prop :=
  if Fs.length < N then e = .returned (.bool true) ∧ (∃ t : Sl, t.zs = zs ∧ OwnS w' w.heap.size t ∧ BoxAt w' Q p c N (Fs ++ [t])) ∧ Only (· = c) w w'
  else e = .returned (.bool false) ∧ BoxAt w' Q p c N Fs ∧ Only (· = c) w w'
set_option maxRecDepth 100000 in
theorem Twice_some (w : World) (Q : Nat → Prop) (p c N : Nat) (s : Sl) (Fs : List Sl) (h : BoxAt w Q p c N (s :: Fs)) (hN : N ≤ 1000) (hn : s.n ≤ 90000) (hQ : ∀ b, w.heap.size ≤ b → Q b) : Calls Try.prog 10 #[.pointer (some ⟨p, 0, none⟩)] w fun e w' => TwiceIs w w' Q p c N (s :: Fs) s.zs e := by
  have HC := hide (Take_some w Q p c N s Fs h)
  have hle : Fs.length < N := by have := h.le; simp at this; omega
  have hlen : (s :: Fs).length = Fs.length + 1 := rfl
  go_enter Try.func10, Try.ntmps10
  go_wp2_with fail
  (with_reducible refine HC.out.mono ?_)
  rintro x w1 ⟨rfl, h1, k1, hs1⟩
  have HL := lay_runs w1 Q p c N Fs s h1 hs1
  simp only [if_pos hle] at HL
  have hc1 := h1.chan
  clear HC
  go_wp2_with fail
  (with_reducible refine HL.mono ?_)
  rintro x w2 ⟨rfl, h2, k2⟩
  have k12 := k1.trans_ k2
  have hs2 := hs1.chan hc1 k2
  have hLn := Len_runs w2 Q p c N _ h2
  have e2 : (Fs ++ [s]).length = Fs.length + 1 := by simp
  rw [e2] at hLn
  have r2 : BoxAt w2 Q p c N (rotL (s :: Fs) 1) := by simpa [rotL] using h2
  clear HL h1 k1 hs1 hc1 h2 k2 e2 h
  generalize hGs : s :: Fs = Gs at *
  go_wp2_with fail
  (with_reducible refine hLn.mono ?_)
  rintro x w3 ⟨rfl, rfl⟩
  clear hLn
  have hw : IntKind.i64.wrap (((Fs.length + 1 : Nat) : Int) - 1) = (Fs.length : Int) := by rw [IntWalk.i64_in _ (by omega)]; omega
  go_wp2_with fail
  go_loopw [18] (fun s18 wr => ∃ j : Nat, j ≤ Fs.length ∧ s18 = .int .i64 j ∧ BoxAt wr Q p c N (rotL Gs (1 + j)) ∧ Only (· = c) w wr ∧ SlOk wr Q s) (fun s18 _ => Fs.length - (intOf s18).toNat)
  case atStart => exact ⟨0, Nat.zero_le _, rfl, r2, k12, hs2⟩
  case round =>
    obtain ⟨j, hj, rfl, hb, hk, hs⟩ := hrel
    by_cases hlt : j < Fs.length
    · have dl : (j : Int) < (Fs.length : Int) := by omega
      obtain ⟨t, Ts, e1, e2⟩ := rotL_succ (Fs := Gs) (k := 1 + j) (by omega)
      rw [e1] at hb
      have hT := hide (Turn_some _ Q p c N t Ts hb)
      rw [← e2] at hT
      have hc := hb.chan
      clear hb e1 e2
      go_wp2_with fail
      (with_reducible refine hT.out.mono ?_)
      rintro x w4 ⟨rfl, h4, k4⟩
      have k5 := hk.trans_ k4
      have s5 := hs.chan hc k4
      clear hT
      go_wp2_with fail
      go_roundw
      case rel => go_light; exact ⟨j + 1, by omega, by go_num, h4, k5, s5⟩
      case measure => go_light; simp [intOf]; omega
    · obtain rfl : j = Fs.length := by omega
      rw [show 1 + Fs.length = Gs.length by omega, rotL_all] at hb
      have HP := hide (Put_runs _ Q p c N _ Gs s hb hs.in_ (Nat.le_refl _) hn (fun b h => hQ b (Nat.le_trans hk.size h)))
      clear hb hs r2 hs2 k12
      go_wp2_with fail
      (with_reducible refine HP.out.mono ?_)
      rintro x w4 hx
      unfold PutIs at hx
      by_cases hg : Gs.length < N
      · rw [if_pos hg] at hx
        obtain ⟨rfl, ⟨t, t1, t2, t3⟩, k4⟩ := hx
        go_wp2_with fail
        go_ret
        unfold TwiceIs
        rw [hGs, if_pos hg]
        exact ⟨rfl, ⟨t, t1, t2.mono hk.size, t3⟩, hk.trans_ k4⟩
      · rw [if_neg hg] at hx
        obtain ⟨rfl, t3, k4⟩ := hx
        go_wp2_with fail
        go_ret
        unfold TwiceIs
        rw [hGs, if_neg hg]
        exact ⟨rfl, t3, hk.trans k4 fun _ e => e.elim⟩
end Go.Proofs.Ytejdmeheafgmbaa
