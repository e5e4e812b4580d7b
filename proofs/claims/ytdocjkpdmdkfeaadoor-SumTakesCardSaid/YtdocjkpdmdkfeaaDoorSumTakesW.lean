/- The walk of SumTakes: it returns true at all arguments and leaves what was there as it was. -/
import Derived.Test.YtdocjkpdmdkfeaaDoorSumTurn
namespace Go.Proofs.YtdocjkpdmdkfeaaDoor.sumTakes
open Go.RowKit

/-- A list with one byte turned is no bytes with their sum. -/
theorem turned {xs : List Int} {i : Nat} {x : Int} (hx : ∀ z ∈ xs, 0 ≤ z ∧ z < 256) (hi : i < xs.length + 4) (h0 : 0 ≤ x) (h1 : x < 256) (hne : x ≠ 0) :
    takeB ((putL xs).set i (bits .xor .u8 ((putL xs).getD i 0) x)) = false := by
  have hil : i < (putL xs).length := by rw [putL_length]; exact hi
  have hz : 0 ≤ (putL xs).getD i 0 ∧ (putL xs).getD i 0 < 256 := by
    have := putL_bd hx (putL xs)[i] (List.getElem_mem _)
    simpa [List.getD, hil] using this
  cases hT : takeB ((putL xs).set i (bits .xor .u8 ((putL xs).getD i 0) x)) with
  | false => rfl
  | true =>
    exfalso
    have h := takeB_window (t := i) (p := (putL xs).set i (bits .xor .u8 ((putL xs).getD i 0) x)) (fun z hz' => by
      rcases List.mem_or_eq_of_mem_set hz' with h | rfl
      · exact putL_bd hx z h
      · exact xor_bd _ _ hz ⟨h0, h1⟩) hx (by simp) (fun j hj => by rw [List.getElem?_set_ne (by omega)]) hT
    have e := congrArg (·[i]?) h
    simp [hil] at e
    exact hne (xor_same _ _ hz ⟨h0, h1⟩ (by simpa [List.getD, hil] using e))

set_option maxHeartbeats 1600000 in
theorem walk (w : World) (hL : Laid w) (A : Option Addr) (n c : Nat) (xs : List Int) (hr : Reads w w.heap.size 1 A n (xs.map (Value.int .u8))) (hnc : n ≤ c) (_ : c ≤ maxLen) (hm : c * 1 ≤ 140737488351232) (hwf : ∀ z ∈ xs, (Lit.int .u8 z).wf = true)
    (t : Int) (_ : -9223372036854775808 ≤ t) (_ : t ≤ 9223372036854775807) (x : Int) (x0 : 0 ≤ x) (x1 : x ≤ 255) :
    Calls Tryd.prog 5 #[.slice A n c, .int .i64 t, .int .u8 x] w fun e w' => e = .returned (.bool true) ∧ Below w.heap.size w w' := by
  have b1 := bytes_bd hwf
  have L1 : Hid (xs.length = n) := hide (by have := hr.1; simpa using this)
  clear hwf
  go_enter Tryd.func5, Tryd.ntmps5
  go_wp2_with fail
  refine (fit_any _ hL).mono ?_
  rintro e w1 ⟨rfl, hb1⟩
  have hL1 := hL.below hb1 hL.lt
  have p1 : Part.Fit w1 ⟨A, n, c, xs⟩ := Part.Fit.below (w := w) ⟨hr, by show n ≤ _; omega, b1⟩ hb1
  clear hr
  by_cases hbig : 1000 < n
  · go_wp2_with fail
    go_ret
    exact ⟨rfl, hb1⟩
  · go_wp2_with fail
    refine (put_block A n c xs w1 hL1 p1 (by omega)).mono ?_
    rintro e w2 ⟨g, cap, rfl, hg1, hg2, hcap, hown, hb2⟩
    have hB2 := hb1.trans (hb2.mono hb1.size)
    have hL2 := hL1.below hb2 hL1.lt
    have p2 := p1.below hb2
    have q2 := own_fit hown (by omega) (putL_bd b1)
    go_wp2_with fail
    refine (take_long _ _ _ _ w2 hL2 q2 (by omega) hcap (by omega)).mono ?_
    rintro e w3 ⟨hb3, ⟨hT, B, rfl, hr3, _⟩ | ⟨hF, _⟩⟩
    · rw [takeL_putL, Nat.add_sub_cancel] at hr3
      have hB3 := hB2.trans (hb3.mono hB2.size)
      have hL3 := hL2.below hb3 hL2.lt
      have k1 := reads_string (p2.1.below hb3) c
      have k2 := reads_string hr3 n
      have hown3 := own_below hown hb3 (fun g' h => by cases h; exact hg2)
      clear hT hown q2 p2 p1 hr3
      by_cases hx : x = 0
      · subst hx
        go_wp2_with fail
        go_ret
        exact ⟨rfl, hB3⟩
      · have hxb : (x == 0) = false := by simpa using hx
        obtain ⟨q, i, e1, hq, e2, hi⟩ := place_of t n
        have hi' : i < n + 4 := hi
        have hcell : w3.cell? ⟨g, i, none⟩ = some (.int .u8 ((putL xs).getD i 0)) := by
          have hil : i < (putL xs).length := by rw [putL_length, L1.out]; exact hi
          rw [hown3.cellAt i (by omega)]
          simp [List.getD, hil]
        have hfrz := hown3.frozenAt i
        obtain ⟨hown4, hgr⟩ := hown3.stored i (.int .u8 (bits .xor .u8 ((putL xs).getD i 0) x))
        have hT := hide (turned b1 (by rw [L1.out]; exact hi) x0 (by omega) hx)
        have hz : 0 ≤ (putL xs).getD i 0 ∧ (putL xs).getD i 0 < 256 := getD_bd (putL_bd b1) (by omega) i
        have hown5 : (w3.setCell ⟨g, i, none⟩ (.int .u8 (bits .xor .u8 ((putL xs).getD i 0) x))).ownsRow w1.heap.size 5 1 (.slice (some ⟨g, 0, none⟩) (n + 4) cap) (n + 4) (((putL xs).set i (bits .xor .u8 ((putL xs).getD i 0) x)).map (Value.int .u8)) := by
          rw [List.map_set]; exact hown4
        have q5 := own_fit hown5 (by omega) (fun z hz' => by
          rcases List.mem_or_eq_of_mem_set hz' with h | rfl
          · exact putL_bd b1 z h
          · exact xor_bd _ _ hz ⟨x0, by omega⟩)
        have hL5 : Laid (w3.setCell ⟨g, i, none⟩ (.int .u8 (bits .xor .u8 ((putL xs).getD i 0) x))) := hL3.setCell (by show _ ≠ g; have := hL1.lt; omega) _
        have hB5 : Below w.heap.size w (w3.setCell ⟨g, i, none⟩ (.int .u8 (bits .xor .u8 ((putL xs).getD i 0) x))) := hB3.setCell (by show w.heap.size ≤ g; have := hb1.size; omega) _
        clear hown4 hown5 hgr hown3
        go_wp2_with fail
        refine (take_long _ _ _ _ _ hL5 q5 (by omega) hcap (by omega)).mono ?_
        rintro e w6 ⟨hb6, ⟨hT6, _⟩ | ⟨_, rfl⟩⟩
        · rw [hT.out] at hT6; exact absurd hT6 (by simp)
        · have hB6 := hB5.trans (hb6.mono hB5.size)
          go_wp2_with fail
          go_ret
          exact ⟨rfl, hB6⟩
    · exact absurd hF (by rw [takeB_putL]; simp)
end Go.Proofs.YtdocjkpdmdkfeaaDoor.sumTakes
