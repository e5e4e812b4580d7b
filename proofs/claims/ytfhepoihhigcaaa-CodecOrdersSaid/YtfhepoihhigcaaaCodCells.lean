/- The contract of the Reader's cells. -/
import Derived.Test.YtfhepoihhigcaaaCodCell
namespace Go.Proofs.Ytfhepoihhigcaaa
open Go.RowKit

theorem Try.allocCells (w : World) : (Instr.alloc 39 true (.tuple #[])).run Try.prog w = .ok (.pointer (some ⟨w.heap.size, 0, none⟩)) (w.alloc (.cells (iA (zeros 28)) 39)) := by kernel_rfl
theorem Try.infoCells : (Try.prog.info? 39).map (·.size) = some 28 := by kernel_rfl
theorem zeros_add (a b : Nat) : zeros (a + b) = zeros a ++ zeros b := by simp [zeros]
theorem setN_next (acc l : List Int) (n : Nat) : (acc ++ zeros (l.length + n)).take acc.length ++ l ++ (acc ++ zeros (l.length + n)).drop (acc.length + l.length) = (acc ++ l) ++ zeros n := by
  rw [List.take_left, List.drop_append, zeros_add]
  simp [List.drop_eq_nil_of_le, zeros]

set_option maxRecDepth 100000 in
set_option maxHeartbeats 1600000 in
theorem cells_any (g : Nat) (T : Nat → Prop) (bs : List Int) (w : World) (h : Rd w g T bs false) (hb : ∀ z ∈ bs, 0 ≤ z ∧ z < 256) :
    Calls Try.prog 37 #[.pointer (some ⟨g, 0, none⟩)] w (Told (fun l => .agg (iA l)) (rdGo maxN [] 28 bs) w g T) := by
  have hlt := h.lt
  have hi28 := Try.infoCells
  have hi7 := Try.infoCell
  obtain ⟨G, hG0⟩ : ∃ G, G = rdGo maxN [] 28 bs := ⟨_, rfl⟩
  rw [← hG0]
  have HG := hide hG0
  clear hG0
  have hb1 : IBlk ((w.alloc (.cells (iA (zeros 28)) 39)).alloc (.cells (iA (zeros 28)) 39)) w.heap.size 39 (zeros 28) := (IBlk.new _ _ _).alloc _
  have hb2 : IBlk ((w.alloc (.cells (iA (zeros 28)) 39)).alloc (.cells (iA (zeros 28)) 39)) (w.heap.size + 1) 39 (zeros 28) := by
    have := IBlk.new (w.alloc (.cells (iA (zeros 28)) 39)) 39 (zeros 28)
    simpa using this
  have hO0 : Only (· = g) w ((w.alloc (.cells (iA (zeros 28)) 39)).alloc (.cells (iA (zeros 28)) 39)) := ((Only.refl _ _).alloc _).alloc _
  have hR0 : Rd ((w.alloc (.cells (iA (zeros 28)) 39)).alloc (.cells (iA (zeros 28)) 39)) g T bs false := h.only (((Only.refl (fun _ => False) _).alloc _).alloc _) (by simp) (by simp)
  go_enter Try.func37, Try.ntmps37
  go_wp2_with (refine wpList_alloc_i rfl 39 rfl (iA (zeros 28)) Try.allocCells ?_)
  go_loopw [5] (fun i wr => ∃ (k : Nat), k ≤ 4 ∧ i = .int .i64 k ∧ GoSt w g T maxN G (w.heap.size + 1) 39 28 w.heap.size 28 (28 - 7 * k) wr) (fun i _ => 4 - (intOf i).toNat)
  case atStart => exact ⟨0, by omega, rfl, [], bs, rfl, HG.out, hR0, hb, hO0, hb2, hb1⟩
  case round =>
    clear hb2 hb1 hO0 hR0 HG h hb
    obtain ⟨k, hk, rfl, acc, r, hl, hG, hR, hbr, hO, hI, hJ⟩ := hrel
    by_cases hlt4 : k < 4
    · obtain ⟨j, hj⟩ : ∃ j, 28 - 7 * k = 7 + j := ⟨21 - 7 * k, by omega⟩
      rw [hj] at hG hI hl
      have HN := cell_any g T r wr hR hbr
      cases hs : rdGo maxN [] 7 r with
      | none =>
        rw [rdGo_none hs] at hG
        rw [hs] at HN
        clear hs
        have HG := hide hG
        clear hG hI hJ hR hj
        go_wp2_with fail
        refine HN.mono ?_
        rintro e w5 hX
        obtain ⟨rfl, hR5, hO5⟩ := hX.no
        refine ⟨rfl, hO.trans_ hO5, ?_⟩
        rw [HG.out]
        exact ⟨rfl, hR5⟩
      | some x =>
        obtain ⟨l, r'⟩ := x
        rw [rdGo_some hs] at hG
        have hbr' := rdGo_bytes hbr hs
        have hl7 : l.length = 7 := by have := rdGo_len maxN 7 hs; simpa using this
        rw [hs] at HN
        clear hs
        have HG := hide hG
        have hae : acc.length = 7 * k := by omega
        have HJ := hide hj
        clear hG hj
        have hgb : ¬ w.heap.size + 1 = g := by omega
        go_wp2_with fail
        refine HN.mono ?_
        rintro e w5 hX
        obtain ⟨rfl, hR5, hO5⟩ := hX.rd
        have hI5 := hI.only hO5 hgb
        have hJ5 := hJ.only hO5 (by show ¬ w.heap.size = g; omega)
        go_wp2_with (refine wpList_store_i rfl 38 (.tmp 11) (.tmp 10) rfl hI5 (k * 7) l rfl rfl (by rw [List.length_append, zeros_length]; omega) (by rw [hl7]; exact hi7) ?_)
        go_roundw
        case rel =>
          have hO6 := only_cells w5 (w.heap.size + 1) (k * 7) (iV l)
          have hj := HJ.out
          refine ⟨k + 1, by omega, by go_num, acc ++ l, r', by simp; omega, by rw [HG.out, show 28 - 7 * (k + 1) = j by omega], hR5.only hO6 (by show ¬ g = w.heap.size + 1; omega) (fun i hi (e : i = w.heap.size + 1) => by omega), hbr', (hO.trans_ hO5).trans hO6 (fun i (e : i = w.heap.size + 1) => .inr (by omega)), ?_, hJ5.only hO6 (by show ¬ w.heap.size = w.heap.size + 1; omega)⟩
          have := hI5.setN (o := k * 7) (xs := l) (by rw [List.length_append, zeros_length]; omega)
          rw [show k * 7 = acc.length by omega, ← hl7, setN_next acc l j] at this
          rw [show 28 - 7 * (k + 1) = j by omega, show k * 7 = acc.length by omega]
          exact this
        case measure => simp [intOf]; omega
    · obtain rfl : k = 4 := by omega
      rw [show zeros (28 - 7 * 4) = [] from rfl, List.append_nil] at hI
      rw [show 28 - 7 * 4 = 0 from rfl] at hG
      have hae : acc.length = 28 := by omega
      have hn7 : 0 + acc.length ≤ (zeros 28).length := by rw [hae]; decide
      have hJ2 := hJ.setN hn7
      rw [show (zeros 28).take 0 ++ acc ++ (zeros 28).drop (0 + acc.length) = acc by rw [hae]; simp [zeros]] at hJ2
      have HG := hide hG
      clear hG hl
      go_wp2_with (first
        | (refine wpList_load_i rfl 39 (.tmp 3) rfl hI 0 28 rfl (by omega) Try.underlying39 rfl hi28 ?_; rw [List.drop_zero, List.take_of_length_le (Nat.le_of_eq hae)])
        | refine wpList_store_i rfl 39 (.tmp 2) (.tmp 13) rfl hJ 0 acc rfl rfl hn7 (by rw [hae]; exact hi28) ?_)
      have hO7 := only_cells wr w.heap.size 0 (iV acc)
      refine bodyPost_ret (results_i rfl rfl hJ2 Try.underlying39 rfl (by rw [hae]; exact hi28)) rfl ⟨hO.trans hO7 (fun i (e : i = w.heap.size) => .inr (by omega)), ?_⟩
      rw [HG.out]
      exact ⟨rfl, hR.only hO7 (by show ¬ g = w.heap.size; omega) (fun i hi (e : i = w.heap.size) => by omega)⟩
end Go.Proofs.Ytfhepoihhigcaaa
