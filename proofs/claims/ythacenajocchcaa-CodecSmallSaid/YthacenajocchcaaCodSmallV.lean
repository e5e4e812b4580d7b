/- The Reader's View, where what was laid is read. -/
import Derived.Test.YthacenajocchcaaCodSmallR
namespace Go.Proofs.Ythacenajocchcaa
open Go.RowKit

theorem Try.infoView : (Try.prog.info? 24).map (·.size) = some 7 := by kernel_rfl
theorem Try.allocView (w : World) : (Instr.alloc 24 true (.tuple #[])).run Try.prog w = .ok (.pointer (some ⟨w.heap.size, 0, none⟩)) (w.alloc (.cells (iA (zeros 7)) 24)) := by kernel_rfl
theorem Try.buildView (n m : Int) (w : World) : (Instr.build 24 #[(0, .int .i64 n), (1, .int .i64 m)]).run Try.prog w = .ok (.agg (iA ([n, m] ++ zeros 5))) w := run_build w _ _ _ (by kernel_rfl)
set_option maxRecDepth 100000 in
set_option maxHeartbeats 1600000 in
theorem view_tell (g : Nat) (T : Nat → Prop) (n0 n1 : Int) (gs r : List Int) (hg : gs.length = 5) (w : World) (h : Rd w g T (enc n0 ++ (enc n1 ++ (encL gs ++ r))) false) (hb : ∀ z ∈ enc n0 ++ (enc n1 ++ (encL gs ++ r)), 0 ≤ z ∧ z < 256)
    (a0 : 0 ≤ n0) (a1 : n0 < 9223372036854775808) (b0 : 0 ≤ n1) (b1 : n1 < 32) (hz : ∀ z ∈ gs, 0 ≤ z ∧ z < 6) :
    Calls Try.prog 20 #[.pointer (some ⟨g, 0, none⟩)] w (Told (fun l => .agg (iA l)) (some (n0 :: n1 :: gs, r)) w g T) := by
  have hal := Try.allocView
  have hbu := Try.buildView
  have hlt := h.lt
  have h1 : Rd (w.alloc (.cells (iA (zeros 7)) 24)) g T (enc n0 ++ (enc n1 ++ (encL gs ++ r))) false := h.only ((Only.refl (fun _ => False) _).alloc _) (by simp) (by simp)
  have hr1 : IBlk (w.alloc (.cells (iA (zeros 7)) 24)) w.heap.size 24 (zeros 7) := IBlk.new _ _ _
  have hO1 : Only (· = g) w (w.alloc (.cells (iA (zeros 7)) 24)) := (Only.refl _ _).alloc _
  have HN := num_tell g T n0 _ _ rfl _ h1 hb a0 a1
  have HM := fun w' h => small_tell g T n1 32 _ _ rfl w' h (bytes_tail hb) b0 (by omega) b1
  have hb2 : ∀ z ∈ encL gs ++ r, 0 ≤ z ∧ z < 256 := bytes_tail (bytes_tail hb)
  have HG : Hid (some (n0 :: n1 :: gs, r) = rdGo 6 [n0, n1] 5 (encL gs ++ r)) := hide (by
    have := rdGo_enc (lim := 6) (l := gs) [n0, n1] r (fun n hn => ⟨(hz n hn).1, by have := (hz n hn).2; omega, (hz n hn).2⟩)
    rw [hg] at this
    exact this.symm)
  obtain ⟨G, hGe⟩ : ∃ G, some (n0 :: n1 :: gs, r) = G := ⟨_, rfl⟩
  have HGS : Hid (∃ x, G = some x) := hide ⟨_, hGe.symm⟩
  rw [hGe] at HG ⊢
  clear hGe
  generalize encL gs ++ r = E2 at HM HN HG hb2
  generalize enc n1 ++ E2 = E at HN HM
  clear hb h h1 hg hz
  go_enter Try.func20, Try.ntmps20
  go_wp2_with fail
  refine HN.mono ?_
  rintro e w2 hX
  obtain ⟨rfl, hR2, hO2⟩ := hX.rd
  go_wp2_with fail
  refine (HM _ hR2).mono ?_
  rintro e w3 hX
  obtain ⟨rfl, hR3, hO3⟩ := hX.rd
  have hO13 := (hO1.trans_ hO2).trans_ hO3
  go_wp2_with fail
  have hnb2 : IBlk (w3.alloc (.cells (iA ([n0, n1] ++ zeros 5)) 24)) w3.heap.size 24 ([n0, n1] ++ zeros 5) := IBlk.new _ _ _
  have hb1' : IBlk w3 w.heap.size 24 (zeros 7) := ((hr1.only hO2 (by show ¬ w.heap.size = g; omega)).only hO3 (by show ¬ w.heap.size = g; omega))
  have hw3 : w.heap.size < w3.heap.size := hb1'.lt
  go_loopw [10] (fun i wr => ∃ (k : Nat), k ≤ 5 ∧ i = .int .i64 k ∧ GoSt w g T 6 G w3.heap.size 24 7 w.heap.size 7 (5 - k) wr) (fun i _ => 5 - (intOf i).toNat)
  case atStart => exact ⟨0, by omega, rfl, [n0, n1], E2, rfl, HG.out, hR3.only ((Only.refl (fun _ => False) _).alloc _) (by simp) (by simp), hb2, hO13.alloc _, hnb2, hb1'.alloc _⟩
  case round =>
    clear hnb2 hR3 hR2 hO2 hO3 hO13 hb1' hr1 hO1 HN HM HG
    obtain ⟨k, hk, rfl, acc, r, hl, hG, hR, hbr, hO, hI, hJ⟩ := hrel
    by_cases hlt : k < 5
    · obtain ⟨j, hj⟩ : ∃ j, 5 - k = j + 1 := ⟨4 - k, by omega⟩
      rw [hj] at hG hI hl
      have HN := small_any g T r 6 _ hR hbr
      cases hs : rdS 6 r with
      | none =>
        rw [rdGo_no hs] at hG
        obtain ⟨x, hx⟩ := HGS.out
        rw [hx] at hG
        cases hG
      | some x =>
        obtain ⟨n, r'⟩ := x
        rw [rdGo_yes hs] at hG
        have hbr' := rdS_bytes hbr hs
        rw [hs] at HN
        clear hs
        have HG := hide hG
        have hae : acc.length = 2 + k := by omega
        have HJ := hide hj
        clear hG hj
        have hgb : ¬ w3.heap.size = g := by omega
        go_wp2_with fail
        refine HN.mono ?_
        rintro e w5 hX
        obtain ⟨rfl, hR5, hO5⟩ := hX.rd
        have hI5 := hI.only hO5 hgb
        have hJ5 := hJ.only hO5 (by show ¬ w.heap.size = g; omega)
        have hc5 := hI5.cellAt acc.length 0 (replicate_getD acc j)
        have hz5 := hI5.frozen acc.length
        rw [hae] at hc5 hz5
        go_wp2_with fail
        go_roundw
        case rel =>
          have hO6 : Only (· = w3.heap.size) w5 (w5.setCell ⟨w3.heap.size, 2 + k, none⟩ (.int .i64 n)) := (Only.refl (· = w3.heap.size) w5).setCell (p := ⟨w3.heap.size, 2 + k, none⟩) (.inl rfl) _
          refine ⟨k + 1, by omega, by go_num, acc ++ [n], r', by have := HJ.out; simp; omega, by rw [HG.out, show 5 - (k + 1) = j by have := HJ.out; omega], hR5.only hO6 (by show ¬ g = w3.heap.size; omega) (fun i hi (e : i = w3.heap.size) => by omega), hbr', (hO.trans_ hO5).trans hO6 (fun i (e : i = w3.heap.size) => .inr (by omega)), ?_, hJ5.only hO6 (by show ¬ w.heap.size = w3.heap.size; omega)⟩
          have := hI5.set (2 + k) n
          rw [← hae, set_next acc j n, hae] at this
          rw [show 5 - (k + 1) = j by have := HJ.out; omega]
          exact this
        case measure => simp [intOf]; omega
    · obtain rfl : k = 5 := by omega
      rw [show zeros (5 - 5) = [] from rfl, List.append_nil] at hI
      rw [show 5 - 5 = 0 from rfl] at hG
      have hae : acc.length = 7 := by omega
      have hi7 := Try.infoView
      have hn7 : 0 + acc.length ≤ (zeros 7).length := by rw [hae]; decide
      have hJ2 := hJ.setN hn7
      rw [show (zeros 7).take 0 ++ acc ++ (zeros 7).drop (0 + acc.length) = acc by rw [hae]; simp [zeros]] at hJ2
      have HG := hide hG
      clear hG hl
      go_wp2_with (first
        | (refine wpList_load_i rfl 24 (.tmp 3) rfl hI 0 7 rfl (by omega) Try.underlying24 rfl hi7 ?_; rw [List.drop_zero, List.take_of_length_le (Nat.le_of_eq hae)])
        | refine wpList_store_i rfl 24 (.tmp 2) (.tmp 19) rfl hJ 0 acc rfl rfl hn7 (by rw [hae]; exact hi7) ?_)
      have hO7 : Only (· = w.heap.size) wr (wr.setCells w.heap.size 0 (iV acc)) := only_cells _ _ _ _
      refine bodyPost_ret (results_i rfl rfl hJ2 Try.underlying24 rfl (by rw [hae]; exact hi7)) rfl ⟨hO.trans hO7 (fun i (e : i = w.heap.size) => .inr (by omega)), ?_⟩
      rw [HG.out]
      exact ⟨rfl, hR.only hO7 (by show ¬ g = w.heap.size; omega) (fun i hi (e : i = w.heap.size) => by omega)⟩
end Go.Proofs.Ythacenajocchcaa
