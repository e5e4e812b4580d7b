/- What stands behind the records is wiped. -/
import Derived.Test.YtccdifplpbnclaaDoorWalN
namespace Go.Proofs.YtccdifplpbnclaaDoor
open Go.RowKit Go.Maps

attribute [local go_sem ↓] loadS_fold storeS_fold allocS_fold buildS_fold eqS_fold
attribute [local go_sem] loadS_has storeS_has allocS_run buildS_none eqS_run

/-- A disk that is up, with nothing that waits. -/
def idleS (f : Sects) (lf : Int) : DS := ⟨f, [], false, lf, false⟩
theorem Moved.trans {B B' B'' : Nat → Prop} {w w1 w2 : World} (h : Moved B B' w w1) (k : Moved B' B'' w1 w2) : Moved B B'' w w2 :=
  ⟨fun b hb => (k.1 b hb).elim (h.1 b) (fun e => .inr (Nat.le_trans h.2.size e)), h.2.trans k.2 fun i hi => h.1 i hi⟩
theorem Moved.of_below {B : Nat → Prop} {w w' : World} (h : Below w.heap.size w w') : Moved B B w w' := ⟨fun _ h => .inl h, only_of_below h _⟩
theorem wrtS_idle {f : Sects} {ws : List (Int × List Int)} {lf x : Int} (h0 : 0 ≤ x) (h1 : x < 2048) : wrtS x [] ⟨f, ws, false, lf, false⟩ = (0, ⟨f, ws ++ [(x, zs64)], false, lf, false⟩) := by
  unfold wrtS takS
  rw [if_neg (by simp; omega)]
  simp [padB, zs64]
theorem read_none {f : Sects} {x : Int} {ws : List (Int × List Int)} (h : ∀ p ∈ ws, p.1 < x) : readF f ws x = f x := fold_miss ws _ fun p hp e => by have := h p hp; omega
theorem sync_zero {f : Sects} : ∀ {ws : List (Int × List Int)}, (∀ p ∈ ws, p.2 = zs64) → ∀ y, (∀ p ∈ ws, p.1 ≠ y) ∧ syncF f ws y = f y ∨ (∃ p ∈ ws, p.1 = y) ∧ syncF f ws y = zs64 := by
  intro ws
  induction ws generalizing f with
  | nil => intro _ y; exact .inl ⟨by simp, rfl⟩
  | cons p ws ih =>
    intro h y
    have hp := h p (by simp)
    have e : syncF f (p :: ws) y = syncF (updF f p.1 p.2) ws y := rfl
    rw [e]
    rcases ih (f := updF f p.1 p.2) (fun q hq => h q (by simp [hq])) y with ⟨h1, h2⟩ | ⟨⟨q, hq, h1⟩, h2⟩
    · by_cases hy : y = p.1
      · refine .inr ⟨⟨p, by simp, hy.symm⟩, ?_⟩
        rw [h2]; unfold updF; rw [if_pos hy, hp]
      · refine .inl ⟨fun q hq => ?_, ?_⟩
        · rcases List.mem_cons.1 hq with rfl | hq
          · exact fun e => hy e.symm
          · exact h1 q hq
        · rw [h2]; unfold updF; rw [if_neg hy]
    · exact .inr ⟨⟨q, by simp [hq], h1⟩, h2⟩
/-- What is wiped so far. -/
structure Wip (f : Sects) (e j : Nat) (ws : List (Int × List Int)) : Prop where
  zero : ∀ p ∈ ws, p.2 = zs64 ∧ (e : Int) ≤ p.1 ∧ p.1 < j
  all : ∀ y : Int, (e : Int) ≤ y → y < j → f y = zs64 ∨ ∃ p ∈ ws, p.1 = y
theorem Wip.start (f : Sects) (e : Nat) : Wip f e e [] := ⟨by simp, fun y h1 h2 => by omega⟩
theorem Wip.pass {f : Sects} {e j : Nat} {ws : List (Int × List Int)} (h : Wip f e j ws) (hz : f (j : Int) = zs64) : Wip f e (j + 1) ws :=
  ⟨fun p hp => by have := h.zero p hp; exact ⟨this.1, this.2.1, by have := this.2.2; omega⟩, fun y h1 h2 => by
    by_cases hy : y = (j : Int)
    · subst hy; exact .inl hz
    · exact h.all y h1 (by omega)⟩
theorem Wip.put {f : Sects} {e j : Nat} {ws : List (Int × List Int)} (h : Wip f e j ws) (he : e ≤ j) : Wip f e (j + 1) (ws ++ [((j : Int), zs64)]) :=
  ⟨fun p hp => by
    rcases List.mem_append.1 hp with hp | hp
    · have := h.zero p hp; exact ⟨this.1, this.2.1, by have := this.2.2; omega⟩
    · obtain rfl : p = ((j : Int), zs64) := by simpa using hp
      exact ⟨rfl, by show (e : Int) ≤ (j : Int); omega, by show (j : Int) < ((j + 1 : Nat) : Int); omega⟩, fun y h1 h2 => by
    by_cases hy : y = (j : Int)
    · exact .inr ⟨_, List.mem_append_right _ (List.mem_singleton.2 rfl), hy.symm⟩
    · rcases h.all y h1 (by omega) with h | ⟨p, hp, hy⟩
      · exact .inl h
      · exact .inr ⟨p, by simp [hp], hy⟩⟩
theorem Wip.done {f : Sects} {e : Nat} {ws : List (Int × List Int)} (h : Wip f e 2048 ws) : (∀ y : Int, y < e → syncF f ws y = f y) ∧ (∀ y : Int, (e : Int) ≤ y → y < 2048 → syncF f ws y = zs64) ∧ (∀ y : Int, 2048 ≤ y → syncF f ws y = f y) := by
  have hs := sync_zero (f := f) (ws := ws) fun p hp => (h.zero p hp).1
  refine ⟨fun y hy => ?_, fun y h1 h2 => ?_, fun y hy => ?_⟩
  · rcases hs y with ⟨_, h2⟩ | ⟨⟨p, hp, rfl⟩, _⟩
    · exact h2
    · have := h.zero p hp; omega
  · rcases hs y with ⟨h3, h4⟩ | ⟨_, h4⟩
    · rw [h4]
      exact (h.all y h1 (by omega)).elim id fun ⟨p, hp, e⟩ => absurd e (h3 p hp)
    · exact h4
  · rcases hs y with ⟨_, h2⟩ | ⟨⟨p, hp, rfl⟩, _⟩
    · exact h2
    · have := h.zero p hp; omega

set_option maxRecDepth 100000 in
set_option maxHeartbeats 8000000 in
theorem wipe_runs (w : World) (B : Nat → Prop) (d N l k e : Nat) (f : Sects) (lf : Int) (h : DiskAt w B d N (idleS f lf)) (hN : N + 2048 < 50000) (hL : LogIs w l d k e) (hl : ¬ B l) (he : e ≤ 2048) :
    Calls Tryd.prog 25 #[.pointer (some ⟨l, 0, none⟩)] w fun x w' => x = .returned (.int .i64 0) ∧ ∃ B' f', DiskAt w' B' d (N + 2048) (idleS f' lf) ∧ Moved B B' w w' ∧
      (∀ y : Int, y < e → f' y = f y) ∧ (∀ y : Int, (e : Int) ≤ y → y < 2048 → f' y = zs64) ∧ (∀ y : Int, 2048 ≤ y → f' y = f y) := by
  have c2 := VBlk.cellAt hL (i := 2) rfl
  have hsf := h.sure
  have hll := VBlk.lt hL
  go_enter Tryd.func25, Tryd.ntmps25
  go_wp2_with fail
  clear c2
  go_loopw [3, 4] (fun s3 _ wr => ∃ (j : Nat) (Bj : Nat → Prop) (ws : List (Int × List Int)), e ≤ j ∧ j ≤ 2048 ∧ s3 = .int .i64 j ∧ DiskAt wr Bj d (N + (j - e)) ⟨f, ws, false, lf, false⟩ ∧ Moved B Bj w wr ∧ Wip f e j ws) (fun s3 _ _ => 2048 - (intOf s3).toNat)
  case atStart => exact ⟨e, B, [], Nat.le_refl _, he, rfl, h.more (by omega), Moved.refl _ _, Wip.start f e⟩
  case round =>
    obtain ⟨j, Bj, ws, hej, hj, rfl, hD, hM, hW⟩ := hrel
    have Lr : LogIs wr l d k e := VBlk.only hL hM.2 hl
    have c0 := VBlk.cellAt Lr (i := 0) rfl
    have hs0 := hM.2.size
    by_cases hlt : j < 2048
    · have dl : (j : Int) < 2048 := by omega
      have kx : Key (j : Int) := WalkArith.wf_i64 (by omega)
      have hrd := read_none (f := f) (x := (j : Int)) (ws := ws) fun p hp => (hW.zero p hp).2.2
      have hR := Read_runs wr Bj d (N + (j - e)) _ (j : Int) hD (by omega) kx
      dsimp only at hR
      rw [hrd] at hR
      have hse : Sect (f (j : Int)) := hsf (j : Int)
      have hz0 := sect_zs
      go_wp2_with fail
      (with_reducible refine hR.mono ?_)
      rintro x w1 ⟨rfl, hB1⟩
      have D1 := hD.below hB1
      have M1 : Moved B Bj w w1 := hM.trans (Moved.of_below hB1)
      have L1 : LogIs w1 l d k e := VBlk.only hL M1.2 hl
      have c1 := VBlk.cellAt L1 (i := 0) rfl
      cases hd : decide (f (j : Int) = zs64) with
      | true =>
        have W1 := hW.pass (of_decide_eq_true hd)
        have D2 := D1.more (N' := N + (j + 1 - e)) (by omega)
        go_wp2_with fail
        go_roundw
        case rel => go_light; exact ⟨j + 1, Bj, ws, by omega, by omega, by go_num, D2, M1, W1⟩
        case measure => go_light; simp [intOf]; omega
      | false =>
        have W1 := hW.put hej
        have hWr := Write_runs w1 Bj d (N + (j - e)) _ (j : Int) none 0 0 w1.heap.size [] D1 (by omega) (by omega) (by omega) Reads.none_ (Nat.le_refl _) (fun h => absurd h (Nat.lt_irrefl 0)) (Nat.zero_le _) (by simp)
        rw [wrtS_idle (by omega) (by omega)] at hWr
        go_wp2_with fail
        (with_reducible refine hWr.mono ?_)
        rintro x w2 ⟨rfl, B2, D2, M2⟩
        have M3 := M1.trans M2
        have D3 := D2.more (N' := N + (j + 1 - e)) (by omega)
        go_wp2_with fail
        go_roundw
        case rel => go_light; exact ⟨j + 1, B2, _, by omega, by omega, by go_num, D3, M3, W1⟩
        case measure => go_light; simp [intOf]; omega
    · obtain rfl : j = 2048 := by omega
      have dl : ¬ ((2048 : Nat) : Int) < 2048 := by omega
      have hS := Sync_runs wr Bj d _ _ hD (by omega)
      have es : synS ⟨f, ws, false, lf, false⟩ = (0, idleS (syncF f ws) lf) := by simp [synS, idleS]
      rw [es] at hS
      obtain ⟨W1, W2, W3⟩ := hW.done
      go_wp2_with fail
      (with_reducible refine hS.mono ?_)
      rintro x w1 ⟨rfl, D1, O1⟩
      go_wp2_with fail
      go_ret
      exact ⟨rfl, Bj, _, D1.more (by omega), hM.trans ⟨fun _ h => .inl h, O1⟩, W1, W2, W3⟩
end Go.Proofs.YtccdifplpbnclaaDoor
