/- Send and Take. -/
import Derived.Test.YteiaiicdemmcoaaDoorLnkQ
import Derived.Test.YteiaiicdemmcoaaDoorNetW
namespace Go.Proofs.YteiaiicdemmcoaaDoor
open Go.RowKit Go.Conc

section
variable {w w' : World} {Q : Nat → Prop} {B b : Nat} {P C : Nat → Nat} {Fs : Nat → List Sl}
set_option maxRecDepth 100000 in
/-- What is too long is lost. -/
theorem sendL_long (w : World) (b : Nat) (x y : Int) (A : Option Addr) (n c : Nat) (h : 3000 < n) (hn : n ≤ 9223372036854775807) :
    Calls Tryd.prog 12 #[.pointer (some ⟨b, 0, none⟩), .int .i64 x, .int .i64 y, .slice A n c] w fun e w' => e = .returned (.bool false) ∧ w = w' := by
  have d : ¬ (n : Int) ≤ 3000 := by omega
  go_enter Tryd.func12, Tryd.ntmps12
  go_wp2_with fail
  go_ret
  exact ⟨rfl, rfl⟩
set_option maxRecDepth 100000 in
set_option maxHeartbeats 1000000 in
theorem sendL_some (hL : Laid w) (h : NetAt w Q B b P C 25 Fs) {x y : Int} {i j : Nat} (hx : x = i) (hy : y = j) (hi : i < 5) (hj : j < 5) (hne : i ≠ j) (A : Option Addr) (n c : Nat) (zs : List Int) (hs : SlIn w w.heap.size ⟨A, n, c, zs⟩) (hn : n ≤ 3000) (hQ : ∀ b, w.heap.size ≤ b → Q b) :
    Calls Tryd.prog 12 #[.pointer (some ⟨b, 0, none⟩), .int .i64 x, .int .i64 y, .slice A n c] w fun e w' => SendIs w w' Q B b P C Fs (i * 5 + j) (frL i j zs) e := by
  subst hx hy
  have d : (n : Int) ≤ 3000 := by omega
  have hF := hide (Frame_at w hL (x := i) (y := j) rfl rfl (by omega) (by omega) A n c zs hs (by omega))
  have hbd := bytes_bd hs.wf
  clear hs
  go_enter Tryd.func12, Tryd.ntmps12
  go_wp2_with fail
  (with_reducible refine hF.out.mono ?_)
  rintro e w1 ⟨f, rfl, hz, hfn, ho, hb1⟩
  clear hF
  have hk := ho.ok (by rw [hz]; exact wf_u8 (frL_bd (by omega) (by omega) hbd))
  have hS := hide (send_some (h.below hb1) hi hj hne f hk.in_ (Nat.le_refl _) (by omega) (fun b hb => hQ b (Nat.le_trans hb1.size hb)))
  rw [hz] at hS
  clear hk ho hbd
  go_wp2_with fail
  (with_reducible refine hS.out.mono ?_)
  rintro e w2 hx
  have hR : SendIs w w2 Q B b P C Fs (i * 5 + j) (frL i j zs) e := by
    unfold SendIs at hx ⊢
    split at hx
    · rw [if_pos ‹_›]; exact ⟨hx.1, hx.2.1, (only_of_below hb1 _).trans_ hx.2.2⟩
    · rw [if_neg ‹_›]; exact ⟨hx.1, hx.2.1, (only_of_below hb1 _).trans_ hx.2.2⟩
  have HR := hide hR
  unfold SendIs at hx
  clear hS hR
  by_cases g : (Fs (i * 5 + j)).length < 8
  · rw [if_pos g] at hx
    obtain ⟨rfl, _⟩ := hx
    clear g
    go_wp2_with fail
    go_ret
    exact HR.out
  · rw [if_neg g] at hx
    obtain ⟨rfl, _⟩ := hx
    clear g
    go_wp2_with fail
    go_ret
    exact HR.out

theorem send_at (h : NetAt w Q B b P C 25 Fs) {x y : Int} {i j : Nat} (hx : x = i) (hy : y = j) (hi : i < 5) (hj : j < 5) (hn : i ≠ j) (A : Option Addr) (n c : Nat) (zs : List Int) {B' : Nat} (hs : SlIn w B' ⟨A, n, c, zs⟩) (hB : B' ≤ w.heap.size) (hl : n ≤ 90000) (hQ : ∀ b, w.heap.size ≤ b → Q b) :
    Calls Tryd.prog 11 #[.pointer (some ⟨b, 0, none⟩), .int .i64 x, .int .i64 y, .slice A n c] w fun e w' => SendIs w w' Q B b P C Fs (i * 5 + j) zs e := by
  subst hx hy
  exact send_some h hi hj hn ⟨A, n, c, zs⟩ hs hB hl hQ

/-! ### Take -/
set_option maxRecDepth 100000 in
/-- By no way nothing comes. -/
theorem takeL_off (h : NetAt w Q B b P C 25 Fs) (x y : Int) (hn : ¬ (inM x = true ∧ inM y = true ∧ x ≠ y)) :
    Calls Tryd.prog 13 #[.pointer (some ⟨b, 0, none⟩), .int .i64 x, .int .i64 y] w fun e w' => e = .returned (.tuple #[.slice none 0 0, .bool false]) ∧ w = w' := by
  have hw := way_any h x y
  rw [wayA_none hn] at hw
  go_enter Tryd.func13, Tryd.ntmps13
  go_wp2_with fail
  (with_reducible refine hw.mono ?_)
  rintro e wx ⟨rfl, rfl⟩
  go_wp2_with fail
  go_ret2
  exact ⟨rfl, rfl⟩
set_option maxRecDepth 100000 in
theorem takeL_none (h : NetAt w Q B b P C 25 Fs) {x y : Int} {i j : Nat} (hx : x = i) (hy : y = j) (hi : i < 5) (hj : j < 5) (hne : i ≠ j) (h0 : Fs (i * 5 + j) = []) :
    Calls Tryd.prog 13 #[.pointer (some ⟨b, 0, none⟩), .int .i64 x, .int .i64 y] w fun e w' => e = .returned (.tuple #[.slice none 0 0, .bool false]) ∧ w = w' := by
  subst hx hy
  have hw := way_any h i j
  rw [wayA_some hi hj hne] at hw
  obtain ⟨o1, o2⟩ := off_ne hi hj hne
  have hb := h.box _ o1 o2
  rw [h0] at hb
  have hT := Take_none _ _ _ _ _ hb
  go_enter Tryd.func13, Tryd.ntmps13
  go_wp2_with fail
  (with_reducible refine hw.mono ?_)
  rintro e wx ⟨rfl, rfl⟩
  go_wp2_with fail
  (with_reducible refine hT.mono ?_)
  rintro e wx ⟨rfl, rfl⟩
  go_wp2_with fail
  go_ret2
  exact ⟨rfl, rfl⟩
set_option maxRecDepth 100000 in
set_option maxHeartbeats 1000000 in
/-- The next one is taken off, a frame or not. -/
theorem takeL_some (hL : Laid w) (h : NetAt w Q B b P C 25 Fs) (hB : 0 < B) {x y : Int} {i j : Nat} (hx : x = i) (hy : y = j) (hi : i < 5) (hj : j < 5) (hne : i ≠ j) {s : Sl} {Gs : List Sl} (h0 : Fs (i * 5 + j) = s :: Gs) (hn : s.n ≤ 100000) :
    Calls Tryd.prog 13 #[.pointer (some ⟨b, 0, none⟩), .int .i64 x, .int .i64 y] w fun e w' => NetAt w' Q B b P C 25 (upd Fs (i * 5 + j) Gs) ∧ Only (· = C (i * 5 + j)) w w' ∧
      ((opB i j s.zs = true ∧ ∃ t : Sl, e = .returned (.tuple #[slV t, .bool true]) ∧ t.zs = bodyL s.zs ∧ t.n = s.n - 6 ∧ SlOk w' (fun b => w.heap.size ≤ b) t) ∨
      (opB i j s.zs = false ∧ e = .returned (.tuple #[.slice none 0 0, .bool false]))) := by
  subst hx hy
  have hw := way_any h i j
  rw [wayA_some hi hj hne] at hw
  obtain ⟨o1, o2⟩ := off_ne hi hj hne
  have hb := h.box _ o1 o2
  rw [h0] at hb
  have hT := hide (Take_some _ _ _ _ _ _ _ hb)
  go_enter Tryd.func13, Tryd.ntmps13
  go_wp2_with fail
  (with_reducible refine hw.mono ?_)
  rintro e wx ⟨rfl, rfl⟩
  go_wp2_with fail
  (with_reducible refine hT.out.mono ?_)
  rintro e w1 ⟨rfl, hb1, k1, hs⟩
  have h1 := h.turn o1 o2 hb1 k1
  have hL1 : Laid w1 := fun k hk => (k1.cell (hL.lt) (fun (e : 0 = C (i * 5 + j)) => by have := h.low _ o1 o2; omega)).trans (hL k hk)
  have hO := hide (Open_at w1 hL1 (x := i) (y := j) rfl rfl s.A s.n s.c s.zs hs.in_ hn)
  clear hT hb hb1 hL hL1 hw
  go_wp2_with fail
  (with_reducible refine hO.out.mono ?_)
  rintro e w2 ⟨hb2, ⟨ht, t, rfl, e1, e2, hx⟩ | ⟨ht, rfl⟩⟩
  · have k2 := k1.below hb2
    have h2 := h1.below hb2
    have hs1 := k1.size
    clear hO
    go_wp2_with fail
    go_ret2
    exact ⟨h2, k2, .inl ⟨ht, t, rfl, e1, e2, hx.mono fun b _ hb => Nat.le_trans hs1 hb⟩⟩
  · have k2 := k1.below hb2
    have h2 := h1.below hb2
    clear hO
    go_wp2_with fail
    go_ret2
    exact ⟨h2, k2, .inr ⟨ht, rfl⟩⟩
end
end Go.Proofs.YteiaiicdemmcoaaDoor
