/- The walk of SumBursts: it returns true at all arguments and leaves what was there as it was. -/
import Derived.Test.YtdocjkpdmdkfeaaDoorSumTurn
import Derived.RegionTactic
namespace Go.Proofs.YtdocjkpdmdkfeaaDoor.sumBursts
open Go.RowKit

/-- The bytes once k places were gone over, and whether one was turned. -/
def Turn (xs : List Int) (i k : Nat) (p : List Int) (ch : Bool) : Prop :=
  p.length = (putL xs).length ∧ (∀ z ∈ p, 0 ≤ z ∧ z < 256) ∧ (∀ j, (j < i ∨ i + k ≤ j) → p[j]? = (putL xs)[j]?) ∧ (ch = false → p = putL xs) ∧ (ch = true → p ≠ putL xs)
theorem Turn.start {xs : List Int} (h : ∀ z ∈ xs, 0 ≤ z ∧ z < 256) (i : Nat) : Turn xs i 0 (putL xs) false :=
  ⟨rfl, putL_bd h, fun _ _ => rfl, fun _ => rfl, by simp⟩
theorem Turn.skip {xs : List Int} {i k : Nat} {p : List Int} {ch : Bool} (h : Turn xs i k p ch) : Turn xs i (k + 1) p ch :=
  ⟨h.1, h.2.1, fun j hj => h.2.2.1 j (by omega), h.2.2.2⟩
theorem Turn.turn {xs : List Int} {i k : Nat} {p : List Int} {ch : Bool} {x : Int} (h : Turn xs i k p ch) (hi : i + k < (putL xs).length) (h0 : 0 ≤ x) (h1 : x < 256) (hne : x ≠ 0) :
    Turn xs i (k + 1) (p.set (i + k) (bits .xor .u8 (p.getD (i + k) 0) x)) true := by
  obtain ⟨a1, a2, a3, a4, a5⟩ := h
  have hl : i + k < p.length := by omega
  have hz := getD_bd a2 (by omega) (i + k)
  refine ⟨by simpa using a1, fun z hz' => ?_, fun j hj => ?_, by simp, fun _ he => ?_⟩
  · rcases List.mem_or_eq_of_mem_set hz' with h | rfl
    · exact a2 z h
    · exact xor_bd _ _ hz ⟨h0, h1⟩
  · rw [List.getElem?_set_ne (by omega)]
    exact a3 j (by omega)
  · have e := congrArg (·[i + k]?) he
    have e2 := a3 (i + k) (by omega)
    simp only [List.getElem?_set_self hl] at e
    rw [← e2, List.getElem?_eq_getElem hl] at e
    exact hne (xor_same _ _ hz ⟨h0, h1⟩ (by simpa [List.getD, hl] using e))
theorem Turn.answer {xs : List Int} {i : Nat} {p : List Int} {ch : Bool} (hx : ∀ z ∈ xs, 0 ≤ z ∧ z < 256) (h : Turn xs i 4 p ch) : takeB p = !ch := by
  obtain ⟨a1, a2, a3, a4, a5⟩ := h
  cases ch with
  | false => rw [a4 rfl, takeB_putL]; rfl
  | true =>
    cases hT : takeB p with
    | false => rfl
    | true => exact absurd (takeB_window a2 hx a1 a3 hT) (a5 rfl)

/-- What holds at the loop's head. -/
def Rel (w : World) (base g cap n i : Nat) (xs : List Int) (ch k : Value) (wr : World) : Prop := ∃ (j : Nat) (b : Bool) (p : List Int), j ≤ 4 ∧ k = .int .i64 j ∧ ch = .bool b ∧ Turn xs i j p b ∧ Below w.heap.size w wr ∧
  wr.ownsRow base 5 1 (.slice (some ⟨g, 0, none⟩) (n + 4) cap) (n + 4) (p.map (Value.int .u8))

set_option maxHeartbeats 1600000 in
theorem walk (w : World) (hL : Laid w) (A : Option Addr) (n c : Nat) (xs : List Int) (hr : Reads w w.heap.size 1 A n (xs.map (Value.int .u8))) (hnc : n ≤ c) (_ : c ≤ maxLen) (hm : c * 1 ≤ 140737488351232) (hwf : ∀ z ∈ xs, (Lit.int .u8 z).wf = true)
    (t : Int) (_ : -9223372036854775808 ≤ t) (_ : t ≤ 9223372036854775807) (x : Int) (x0 : 0 ≤ x) (x1 : x ≤ 4294967295) :
    Calls Tryd.prog 6 #[.slice A n c, .int .i64 t, .int .u32 x] w fun e w' => e = .returned (.bool true) ∧ Below w.heap.size w w' := by
  have b1 := bytes_bd hwf
  have L1 : Hid (xs.length = n) := hide (by have := hr.1; simpa using this)
  clear hwf
  go_enter Tryd.func6, Tryd.ntmps6
  go_wp2_with fail
  refine (fit_any _ hL).mono ?_
  rintro e w1 ⟨rfl, hb1⟩
  have hL1 := hL.below hb1 hL.lt
  have p1 : Part.Fit w1 ⟨A, n, c, xs⟩ := Part.Fit.below (w := w) ⟨hr, by show n ≤ _; omega, b1⟩ hb1
  clear hr
  by_cases hbig : 1000 < n
  · go_wp2_with fail
    go_ret
    exact ⟨rfl, hb1⟩
  · by_cases hx : x = 0
    · subst hx
      go_wp2_with fail
      go_ret
      exact ⟨rfl, hb1⟩
    · have hxb : (x == 0) = false := by simpa using hx
      go_wp2_with fail
      refine (put_block A n c xs w1 hL1 p1 (by omega)).mono ?_
      rintro e w2 ⟨g, cap, rfl, hg1, hg2, hcap, hown, hb2⟩
      have hB2 := hb1.trans (hb2.mono hb1.size)
      obtain ⟨q, i, e1, hq, e2, hi⟩ := place_of t n
      go_wp2_with fail
      go_loopw [8, 28] (fun ch k wr => Rel w w1.heap.size g cap n i xs ch k wr) (fun _ k _ => 4 - (intOf k).toNat)
      case atStart => exact ⟨0, false, putL xs, by omega, rfl, rfl, Turn.start b1 i, hB2, hown⟩
      case round =>
        obtain ⟨j, b, p, hj, rfl, rfl, HT, hB, hown3⟩ := hrel
        clear hown
        have hpl : Hid (p.length = n + 4) := hide (by rw [HT.1, putL_length, L1.out])
        by_cases hlt : j < 4
        · by_cases hin : i + j < n + 4
          · have d1 : decide ((i : Int) + j < n + 4) = true := by simp; omega
            cases hy : (x / 2 ^ (8 * j) % 256 != 0)
            · have HS := HT.skip
              go_wp2_with fail
              go_roundw
              case rel => exact ⟨j + 1, b, p, by omega, by go_num, rfl, HS, hB, hown3⟩
              case measure => simp [intOf]; omega
            · have hy1 : x / 2 ^ (8 * j) % 256 ≠ 0 := by simpa using hy
              have hyb : 0 ≤ x / 2 ^ (8 * j) % 256 ∧ x / 2 ^ (8 * j) % 256 < 256 := by omega
              have HS := HT.turn (by rw [putL_length, L1.out]; exact hin) hyb.1 hyb.2 hy1
              have hcell : wr.cell? ⟨g, i + j, none⟩ = some (.int .u8 (p.getD (i + j) 0)) := by
                have hil : i + j < p.length := by rw [hpl.out]; exact hin
                rw [hown3.cellAt (i + j) (by omega)]
                simp [List.getD, hil]
              have hfrz := hown3.frozenAt (i + j)
              obtain ⟨hown4, _⟩ := hown3.stored (i + j) (.int .u8 (bits .xor .u8 (p.getD (i + j) 0) (x / 2 ^ (8 * j) % 256)))
              have hB4 : Below w.heap.size w (wr.setCell ⟨g, i + j, none⟩ (.int .u8 (bits .xor .u8 (p.getD (i + j) 0) (x / 2 ^ (8 * j) % 256)))) := hB.setCell (by show w.heap.size ≤ g; have := hb1.size; omega) _
              clear hown3 HT
              go_wp2_with fail
              go_region
              go_wp2_with fail
              go_roundw
              case rel => exact ⟨j + 1, true, _, by omega, by go_num, rfl, HS, hB4.drew, by rw [List.map_set]; exact hown4⟩
              case measure => simp [intOf]; omega
          · have d1 : decide ((i : Int) + j < n + 4) = false := by simp; omega
            have HS := HT.skip
            go_wp2_with fail
            go_roundw
            case rel => exact ⟨j + 1, b, p, by omega, by go_num, rfl, HS, hB, hown3⟩
            case measure => simp [intOf]; omega
        · obtain rfl : j = 4 := by omega
          have hA := hide (HT.answer b1)
          have q3 := own_fit hown3 (by omega) HT.2.1
          have hLr := hL.below hB hL.lt
          clear HT hown3
          go_wp2_with fail
          refine (take_long _ _ _ _ wr hLr q3 (by omega) hcap (by omega)).mono ?_
          rintro e w6 ⟨hb6, ⟨hT6, B, rfl, _, _⟩ | ⟨hF6, rfl⟩⟩
          · have hB6 := hB.trans (hb6.mono hB.size)
            rw [hA.out] at hT6
            obtain rfl : b = false := by simpa using hT6
            clear hT6 hA
            go_wp2_with fail
            go_ret
            exact ⟨rfl, hB6⟩
          · have hB6 := hB.trans (hb6.mono hB.size)
            rw [hA.out] at hF6
            obtain rfl : b = true := by simpa using hF6
            clear hF6 hA
            go_wp2_with fail
            go_ret
            exact ⟨rfl, hB6⟩
end Go.Proofs.YtdocjkpdmdkfeaaDoor.sumBursts
