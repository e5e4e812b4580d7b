/- A network's Way and Send. -/
import Derived.Test.YteiaiicdemmcoaaDoorNetQ
namespace Go.Proofs.YteiaiicdemmcoaaDoor
open Go.RowKit Go.Conc

def inM (n : Int) : Bool := decide (0 ≤ n) && decide (n < 5)
theorem inM_true {n : Int} : inM n = true ↔ 0 ≤ n ∧ n < 5 := by simp [inM]
theorem machine_any (n : Int) (w : World) :
    Calls Tryd.prog 25 #[.int .i64 n] w fun e w' => e = .returned (.bool (inM n)) ∧ w = w' := by
  by_cases h0 : 0 ≤ n
  · by_cases h1 : n < 5
    · have d0 : decide (0 ≤ n) = true := by simpa using h0
      have d1 : decide (n < 5) = true := by simpa using h1
      rw [inM, d0, d1]
      go_enter Tryd.func25, Tryd.ntmps25
      go_wp2
      go_ret
      exact ⟨rfl, rfl⟩
    · have d0 : decide (0 ≤ n) = true := by simpa using h0
      have d1 : decide (n < 5) = false := by simpa using h1
      rw [inM, d0, d1]
      go_enter Tryd.func25, Tryd.ntmps25
      go_wp2
      go_ret
      exact ⟨rfl, rfl⟩
  · have d0 : decide (0 ≤ n) = false := by simpa using h0
    rw [inM, d0]
    go_enter Tryd.func25, Tryd.ntmps25
    go_wp2
    go_ret
    exact ⟨rfl, rfl⟩
/-- What Way answers of two numbers that may be no machines. -/
def wayA (P : Nat → Nat) (i j : Int) : Value := if inM i = true ∧ inM j = true then wayV P 25 (i.toNat * 5 + j.toNat) else .pointer none
section
variable {w : World} {Q : Nat → Prop} {B b : Nat} {P C : Nat → Nat} {Fs : Nat → List Sl}
set_option maxRecDepth 100000 in
theorem way_any (h : NetAt w Q B b P C 25 Fs) (i j : Int) : Calls Tryd.prog 20 #[.pointer (some ⟨b, 0, none⟩), .int .i64 i, .int .i64 j] w fun e w' => e = .returned (wayA P i j) ∧ w = w' := by
  have hi := machine_any i w
  have hj := machine_any j w
  by_cases e1 : inM i = true
  · rw [e1] at hi
    by_cases e2 : inM j = true
    · rw [e2] at hj
      unfold wayA
      rw [if_pos ⟨e1, e2⟩]
      obtain ⟨a, rfl⟩ := Int.eq_ofNat_of_zero_le (inM_true.1 e1).1
      obtain ⟨c, rfl⟩ := Int.eq_ofNat_of_zero_le (inM_true.1 e2).1
      have l1 := (inM_true.1 e1).2
      have l2 := (inM_true.1 e2).2
      have l3 : a < 5 := by omega
      have l4 : c < 5 := by omega
      have c0 := h.blk.cellAt (netV_at P 25 (l := a * 5 + c) (by omega))
      simp only [Int.toNat_natCast]
      generalize wayV P 25 (a * 5 + c) = v at *
      clear e1 e2
      go_enter Tryd.func20, Tryd.ntmps20
      go_wp2_with fail
      (with_reducible refine hi.mono ?_)
      rintro x wx ⟨rfl, rfl⟩
      go_wp2_with fail
      (with_reducible refine hj.mono ?_)
      rintro x wx ⟨rfl, rfl⟩
      clear hi hj
      go_wp2_with fail
      go_ret
      exact ⟨rfl, rfl⟩
    · have HV : wayA P i j = .pointer none := if_neg fun h => e2 h.2
      rw [HV]
      rw [Bool.not_eq_true] at e2
      rw [e2] at hj
      go_enter Tryd.func20, Tryd.ntmps20
      go_wp2_with fail
      (with_reducible refine hi.mono ?_)
      rintro x wx ⟨rfl, rfl⟩
      go_wp2_with fail
      (with_reducible refine hj.mono ?_)
      rintro x wx ⟨rfl, rfl⟩
      go_wp2_with fail
      go_ret
      exact ⟨rfl, rfl⟩
  · have HV : wayA P i j = .pointer none := if_neg fun h => e1 h.1
    rw [HV]
    rw [Bool.not_eq_true] at e1
    rw [e1] at hi
    go_enter Tryd.func20, Tryd.ntmps20
    go_wp2_with fail
    (with_reducible refine hi.mono ?_)
    rintro x wx ⟨rfl, rfl⟩
    go_wp2_with fail
    go_ret
    exact ⟨rfl, rfl⟩
/-- No way leads from one to itself, nor to or from what is none. -/
theorem wayA_none {i j : Int} (h : ¬ (inM i = true ∧ inM j = true ∧ i ≠ j)) : wayA P i j = .pointer none := by
  unfold wayA
  split
  · rename_i hx
    have h1 := inM_true.1 hx.1
    have h2 := inM_true.1 hx.2
    have e : i = j := by
      rcases Int.decEq i j with g | g
      · exact absurd ⟨hx.1, hx.2, g⟩ h
      · exact g
    unfold wayV
    rw [if_neg (by omega)]
  · rfl
theorem wayA_some {i j : Nat} (hi : i < 5) (hj : j < 5) (h : i ≠ j) : wayA P (i : Int) (j : Int) = .pointer (some ⟨P (i * 5 + j), 0, none⟩) := by
  unfold wayA
  rw [if_pos ⟨inM_true.2 ⟨by omega, by omega⟩, inM_true.2 ⟨by omega, by omega⟩⟩, Int.toNat_natCast, Int.toNat_natCast]
  unfold wayV
  rw [if_pos (by omega)]
theorem off_ne {i j : Nat} (hi : i < 5) (hj : j < 5) (h : i ≠ j) : i * 5 + j < 25 ∧ (i * 5 + j) % 6 ≠ 0 := by omega
set_option maxRecDepth 100000 in
/-- What is sent on no way is lost. -/
theorem send_none (h : NetAt w Q B b P C 25 Fs) (i j : Int) (hn : ¬ (inM i = true ∧ inM j = true ∧ i ≠ j)) (s : Sl) : Calls Tryd.prog 11 #[.pointer (some ⟨b, 0, none⟩), .int .i64 i, .int .i64 j, .slice s.A s.n s.c] w fun e w' => e = .returned (.bool false) ∧ w = w' := by
  have hw := way_any h i j
  rw [wayA_none hn] at hw
  go_enter Tryd.func11, Tryd.ntmps11
  go_wp2_with fail
  (with_reducible refine hw.mono ?_)
  rintro x wx ⟨rfl, rfl⟩
  go_wp2_with fail
  go_ret
  exact ⟨rfl, rfl⟩
/-- What Send leaves: the bytes wait last on their way, as a copy; or nothing. -/
def SendIs (w w' : World) (Q : Nat → Prop) (B b : Nat) (P C : Nat → Nat) (Fs : Nat → List Sl) (l : Nat) (zs : List Int) (e : Ending) : Prop :=
  if (Fs l).length < 8 then e = .returned (.bool true) ∧ (∃ t : Sl, t.zs = zs ∧ NetAt w' Q B b P C 25 (upd Fs l (Fs l ++ [t]))) ∧ Only (· = C l) w w'
  else e = .returned (.bool false) ∧ NetAt w' Q B b P C 25 Fs ∧ Only (fun _ => False) w w'
set_option maxRecDepth 100000 in
theorem send_some (h : NetAt w Q B b P C 25 Fs) {i j : Nat} (hi : i < 5) (hj : j < 5) (hn : i ≠ j) (s : Sl) {B' : Nat} (hs : SlIn w B' s) (hB : B' ≤ w.heap.size) (hl : s.n ≤ 90000) (hQ : ∀ b, w.heap.size ≤ b → Q b) :
    Calls Tryd.prog 11 #[.pointer (some ⟨b, 0, none⟩), .int .i64 i, .int .i64 j, .slice s.A s.n s.c] w fun e w' => SendIs w w' Q B b P C Fs (i * 5 + j) s.zs e := by
  have hw := way_any h (i : Int) (j : Int)
  rw [wayA_some hi hj hn] at hw
  obtain ⟨o1, o2⟩ := off_ne hi hj hn
  have hp := Put_runs w Q _ _ 8 B' _ s (h.box _ o1 o2) hs hB hl hQ
  have HF := hide fun (e : Ending) (w' : World) (hx : PutIs w w' Q (P (i * 5 + j)) (C (i * 5 + j)) 8 (Fs (i * 5 + j)) s.zs e) => (show SendIs w w' Q B b P C Fs (i * 5 + j) s.zs e by
    unfold PutIs at hx
    unfold SendIs
    split
    · rename_i g
      rw [if_pos g] at hx
      obtain ⟨e1, ⟨t, t1, _, t2⟩, k⟩ := hx
      exact ⟨e1, ⟨t, t1, h.turn o1 o2 t2 k⟩, k⟩
    · rename_i g
      rw [if_neg g] at hx
      obtain ⟨e1, _, k⟩ := hx
      exact ⟨e1, h.below (k.toBelow fun _ e => e.elim), k⟩)
  go_enter Tryd.func11, Tryd.ntmps11
  go_wp2_with fail
  (with_reducible refine hw.mono ?_)
  rintro x wx ⟨rfl, rfl⟩
  go_wp2_with fail
  (with_reducible refine hp.mono ?_)
  rintro x wx hx
  have hf := HF.out x wx hx
  unfold PutIs at hx
  by_cases g : (Fs (i * 5 + j)).length < 8
  · rw [if_pos g] at hx
    obtain ⟨rfl, _⟩ := hx
    go_wp2_with fail
    go_ret
    exact hf
  · rw [if_neg g] at hx
    obtain ⟨rfl, _⟩ := hx
    go_wp2_with fail
    go_ret
    exact hf
end
end Go.Proofs.YteiaiicdemmcoaaDoor
