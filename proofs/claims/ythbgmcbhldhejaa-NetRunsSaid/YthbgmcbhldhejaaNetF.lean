/- Law 9's fit. -/
import Derived.Test.YthbgmcbhldhejaaNetN
import Derived.Test.YthbgmcbhldhejaaNetW
import Derived.Test.YthbgmcbhldhejaaNetL
import Derived.Test.YthbgmcbhldhejaaBoxC
namespace Go.Proofs.Ythbgmcbhldhejaa
open Go.RowKit Go.Conc

/-- Nothing is on any way. -/
def noneF : Nat → List Sl := fun _ => []
theorem nil_slIn (w : World) (B : Nat) : SlIn w B ⟨none, 0, 0, []⟩ := ⟨Reads.none_, Nat.le_refl _, Nat.zero_le _, by simp⟩
theorem below_net {w0 w w' : World} {Q : Nat → Prop} {b k : Nat} {P C : Nat → Nat} {Fs : Nat → List Sl} {l : Nat} (h : NetAt w Q w0.heap.size b P C k Fs) (hB : Below w0.heap.size w0 w) (hl : l < k) (hd : l % 6 ≠ 0) (k1 : Only (· = C l) w w') : Below w0.heap.size w0 w' :=
  below_all hB (h.low l hl hd) k1
set_option maxRecDepth 100000 in
set_option maxHeartbeats 4000000 in
theorem fit_runs (w : World) : Calls Try.prog 5 #[] w fun e w' => e = .returned (.bool true) ∧ Below w.heap.size w w' := by
  go_enter Try.func5, Try.ntmps5
  go_wp2_with fail
  (with_reducible refine (newN_runs w allQ).mono ?_)
  rintro x w1 ⟨b, P, C, rfl, hb, h1, B1⟩
  go_wp2_with fail
  go_loopw [6] (fun s6 wr => ∃ (j : Nat) (Gs : List Sl), j ≤ 8 ∧ s6 = .int .i64 j ∧ Gs.length = j ∧ NetAt wr allQ w.heap.size b P C 25 (upd noneF 1 Gs) ∧ Below w.heap.size w wr) (fun s6 _ => 8 - (intOf s6).toNat)
  case atStart => exact ⟨0, [], by omega, rfl, rfl, by rw [show upd noneF 1 [] = noneF by funext l; unfold upd noneF; split <;> rfl]; exact h1, B1⟩
  case round =>
    obtain ⟨j, Gs, hj, rfl, hl, hn, hB⟩ := hrel
    by_cases hj8 : j < 8
    · have dj : (j : Int) < 8 := by omega
      have hv := conv_one wr 120
      have hbw : Below wr.heap.size wr (oneW wr 120) := (Below.refl _ _).alloc (Nat.le_refl _) _
      have hn1 := hn.below hbw
      have HS : Hid (Calls Try.prog 8 #[.pointer (some ⟨b, 0, none⟩), .int .i64 0, .int .i64 1, .slice (some ⟨wr.heap.size, 0, none⟩) 1 1] (oneW wr 120) fun e w' => SendIs (oneW wr 120) w' allQ w.heap.size b P C (upd noneF 1 Gs) 1 [120] e) :=
        hide (send_some hn1 (i := 0) (j := 1) (by omega) (by omega) (by omega) (oneS wr 120) (one_slIn 120 rfl) (Nat.le_refl _) (Nat.le_trans (Nat.le_refl 1) (by decide)) (fun _ _ => trivial))
      go_wp2_with fail
      (with_reducible refine HS.out.mono ?_)
      rintro x w2 hx
      unfold SendIs at hx
      rw [if_pos (by rw [upd_at]; omega)] at hx
      obtain ⟨rfl, ⟨t, t1, h2⟩, k2⟩ := hx
      clear HS hv
      have hB2 := below_net hn1 (hB.trans (hbw.mono hB.size)) (by omega) (by omega) k2
      rw [upd_upd, upd_at] at h2
      clear hn hn1 hbw k2 hB
      go_wp2_with fail
      go_roundw
      case rel => go_light; exact ⟨j + 1, Gs ++ [t], by omega, by go_num, by rw [List.length_append, hl]; rfl, h2, hB2⟩
      case measure => go_light; simp [intOf]; omega
    · obtain rfl : j = 8 := by omega
      have hW1 := way_any hn 0 1
      have e1 : wayA P 0 1 = .pointer (some ⟨P 1, 0, none⟩) := wayA_some (i := 0) (j := 1) (by omega) (by omega) (by omega)
      have hW2 := way_any hn 1 1
      have e2 : wayA P 1 1 = .pointer none := wayA_none (by rintro ⟨_, _, h⟩; exact h rfl)
      rw [e1] at hW1
      have hx1 := hn.box 1 (by omega) (by omega)
      rw [upd_at] at hx1
      have hL := Len_runs _ _ _ _ 8 _ hx1
      rw [hl] at hL
      have hS : Hid (Calls Try.prog 8 #[.pointer (some ⟨b, 0, none⟩), .int .i64 0, .int .i64 1, .slice none 0 0] wr fun e w' => SendIs wr w' allQ w.heap.size b P C (upd noneF 1 Gs) 1 [] e) :=
        hide (send_some hn (i := 0) (j := 1) (by omega) (by omega) (by omega) ⟨none, 0, 0, []⟩ (nil_slIn _ _) (Nat.le_refl _) (Nat.zero_le _) (fun _ _ => trivial))
      have es : sumL (upd noneF 1 Gs) 25 = 8 := by
        have h := sumL_upd noneF 1 Gs (by omega) (k := 25) (by omega)
        have h0 : sumL noneF 25 = 0 := sumL_none 25
        have h1 : (noneF 1).length = 0 := rfl
        omega
      clear e1 e2 hx1 h1 B1 hW2
      go_wp2_with fail
      (with_reducible refine hW1.mono ?_)
      rintro x w2 ⟨rfl, rfl⟩
      clear hW1
      go_wp2_with fail
      (with_reducible refine hL.mono ?_)
      rintro x w2 ⟨rfl, rfl⟩
      clear hL
      go_wp2_with fail
      (with_reducible refine hS.out.mono ?_)
      rintro x w2 hx
      unfold SendIs at hx
      rw [if_neg (by rw [upd_at]; omega)] at hx
      obtain ⟨rfl, h2, k2⟩ := hx
      have B2 := below_only hB k2 (fun _ e => e.elim) hB.size
      have hN := lenN_any h2
      rw [es] at hN
      clear hS hn hB k2
      go_wp2_with fail
      (with_reducible refine hN.mono ?_)
      rintro x w3 ⟨rfl, hb3⟩
      have h3 := h2.below hb3
      have B3 := B2.trans (hb3.mono B2.size)
      have hW2 := way_any h3 1 1
      rw [show wayA P 1 1 = .pointer none from wayA_none (by rintro ⟨_, _, h⟩; exact h rfl)] at hW2
      clear hN h2 hb3 B2
      go_wp2_with fail
      (with_reducible refine hW2.mono ?_)
      rintro x w4 ⟨rfl, rfl⟩
      clear hW2 h3
      have hX := New_runs w3 allQ 1
      go_wp2_with fail
      (with_reducible refine hX.mono ?_)
      rintro x w5 ⟨p, c, rfl, _, _, _, B5⟩
      have B5 := B3.trans (B5.mono B3.size)
      clear hX B3
      go_wp2_with fail
      go_ret
      exact ⟨rfl, B5⟩
end Go.Proofs.Ythbgmcbhldhejaa
