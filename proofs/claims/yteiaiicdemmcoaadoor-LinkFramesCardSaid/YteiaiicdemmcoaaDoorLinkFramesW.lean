/- The walk of LinkFrames. -/
import Derived.Test.YteiaiicdemmcoaaDoorLnkF
import Derived.Test.YteiaiicdemmcoaaDoorBitsI
import Derived.Test.YteiaiicdemmcoaaDoorOpenA
import Derived.Deep.RegionWith
import Derived.RegionTactic
namespace Go.Proofs.YteiaiicdemmcoaaDoor.linkFrames
open Go.RowKit

theorem mask8 (x : Int) : ∃ i : Nat, bits .and .i64 x 255 = (i : Int) ∧ i < 256 := by
  refine ⟨(x % 256).toNat, ?_, by omega⟩
  rw [show bits .and .i64 x 255 = x % 256 from i64_and_mask x 8 (by omega)]; omega
theorem xor_one : ∀ i : Fin 256, bits .xor .i64 (i.val : Int) 1 = ((i.val ^^^ 1 : Nat) : Int) ∧ i.val ^^^ 1 < 256 ∧ i.val ^^^ 1 ≠ i.val := by decide +kernel
theorem mask7 (x : Int) : ∃ r : Nat, bits .and .i64 x 127 = (r : Int) ∧ r < 128 := by
  refine ⟨(x % 128).toNat, ?_, by omega⟩
  rw [show bits .and .i64 x 127 = x % 128 from i64_and_mask x 7 (by omega)]; omega
theorem place_N (a : Int) {N : Nat} (hN : 0 < N) : ∃ q p : Nat, bits .and .i64 a 65535 = (q : Int) ∧ (q : Int).tmod (N : Int) = (p : Int) ∧ (q : Int) % (N : Int) = (p : Int) ∧ p < N := by
  refine ⟨(a % 65536).toNat, (a % 65536).toNat % N, ?_, ?_, ?_, Nat.mod_lt _ hN⟩
  · rw [and_ffff]; omega
  · rw [Int.tmod_eq_emod_of_nonneg (by omega)]; push_cast; rfl
  · push_cast; rfl
set_option maxRecDepth 100000 in
set_option maxHeartbeats 8000000 in
theorem walk (w : World) (hL : Laid w) (ends : List Int) (hl : ends.length = 2) (_ : wf64 ends) (A : Option Addr) (n c : Nat) (zs : List Int) (hr : Reads w w.heap.size 1 A n (u8V zs)) (hnc : n ≤ c) (hcm : c ≤ maxLen) (_ : c * 1 ≤ 140737488351232) (hwf : ∀ z ∈ zs, (Lit.int .u8 z).wf = true)
    (t : Int) (_ : -9223372036854775808 ≤ t) (_ : t ≤ 9223372036854775807) :
    Calls Tryd.prog 3 #[.agg (iA ends), .slice A n c, .int .i64 t] w fun e w' => e = .returned (.bool true) ∧ Below w.heap.size w w' := by
  obtain ⟨a, d, rfl⟩ : ∃ a d, ends = [a, d] := by
    match ends, hl with
    | [a, d], _ => exact ⟨_, _, rfl⟩
  have hs : SlIn w w.heap.size ⟨A, n, c, zs⟩ := ⟨hr, hnc, hcm, hwf⟩
  have hbd := hide (bytes_bd hwf)
  have hlen := hs.len
  obtain ⟨i, hi, i8⟩ := mask8 a
  obtain ⟨j, hj, j8⟩ := mask8 d
  obtain ⟨hx, x8, xne⟩ := xor_one ⟨i, i8⟩
  simp only at hx x8 xne
  generalize i ^^^ 1 = k at hx x8 xne
  clear hr hwf hl
  have hI : IBlk (w.alloc (.cells (iA [a, d]) 22)) w.heap.size 22 [a, d] := IBlk.new _ _ _
  have hbox : Below w.heap.size w (w.alloc (.cells (iA [a, d]) 22)) := (Below.refl _ _).alloc (Nat.le_refl _) _
  go_enter Tryd.func3, Tryd.ntmps3
  go_wp2_with fail
  (with_reducible refine (fit_runs _ (hL.alloc _)).mono ?_)
  rintro e w1 ⟨rfl, hb0⟩
  have hI1 := hI.below hb0 hI.lt
  have hb1 := hbox.trans (hb0.mono hbox.size)
  have hL1 := hL.below hb1 hL.lt
  have hs1 := hs.next hb1
  clear hI hbox hs hb0
  by_cases hbig : 3000 < n
  · have d0 : (3000 : Int) < (n : Int) := by omega
    go_wp2_with fail
    go_ret
    exact ⟨rfl, hb1⟩
  · have d0 : ¬ (3000 : Int) < (n : Int) := by omega
    have c0 := hI1.drew.cellAt 0 a rfl
    have c1 := hI1.drew.cellAt 1 _ rfl
    go_wp2_with fail
    go_region
    have hB1 := hb1.drew
    have hL1 : Laid w1.drew := hL1
    have hs1 := hs1.drew
    clear c0 c1 hI1 hb1
    generalize w1.drew = w1 at *
    have hF := hide (Frame_at w1 hL1 (x := i) (y := j) rfl rfl i8 j8 A n c zs hs1 (by omega))
    go_wp2_with fail
    (with_reducible refine hF.out.mono ?_)
    rintro e w2 ⟨f, he, hz, hN, ho, hb2⟩
    obtain ⟨g, cap, hf, hg, hg2⟩ := World.ownsRow.form ho (by omega)
    obtain ⟨fA, N, fc, fz⟩ := f
    simp only at hz hN ho hf
    injection hf with e1 e2 e3
    subst e1 e3 hz
    obtain rfl : e = .returned (.slice (some ⟨g, 0, none⟩) N fc) := he
    have ho : w2.ownsRow w1.heap.size 5 1 (.slice (some ⟨g, 0, none⟩) N fc) N (u8V (frL i j zs)) := ho
    have hB2 := hB1.trans (hb2.mono hB1.size)
    have hL2 := hL1.below hb2 hL1.lt
    have hs2 := hs1.next hb2
    have hk : SlOk w2 (fun b => w1.heap.size ≤ b) ⟨some ⟨g, 0, none⟩, N, fc, frL i j zs⟩ := OwnS.ok ho (wf_u8 (frL_bd i8 j8 hbd.out))
    have HN := hide hN
    have hN9 : N ≤ 3006 := by omega
    have hN1 : 0 < N := by omega
    have hm : ((N : Int) != (n : Int) + 6) = false := by simp; omega
    clear hF hN hb2 e2
    have hO := hide (Open_at w2 hL2 (x := i) (y := j) rfl rfl _ N fc _ hk.in_ (by omega))
    go_wp2_with fail
    (with_reducible refine hO.out.mono ?_)
    rintro e w3 ⟨hb3, ⟨_, ⟨xA, xn, xc, xz⟩, he, ex, en, hx3⟩ | ⟨h, _⟩⟩
    rotate_left
    · rw [opB_frL] at h; exact absurd h (by simp)
    obtain rfl : e = .returned (.tuple #[.slice xA xn xc, .bool true]) := he
    rw [body_frL] at ex
    clear en
    have ex := ex.symm
    subst ex
    have hL3 := hL2.below hb3 hL2.lt
    have hk3 := hk.in_.next hb3
    clear hO
    have hO := hide (Open_at w3 hL3 (x := k) (y := j) rfl rfl _ N fc _ hk3 (by omega))
    go_wp2_with fail
    (with_reducible refine hO.out.mono ?_)
    rintro e w4 ⟨hb4, ⟨h, _⟩ | ⟨_, rfl⟩⟩
    · rw [opB_frL] at h; exact absurd h (by simp [xne])
    have hb5 := hb3.trans (hb4.mono hb3.size)
    have hL4 := hL2.below hb5 hL2.lt
    have hB4 := hB2.trans (hb5.mono hB2.size)
    have k1 := reads_string (hx3.in_.next hb4).reads xc
    have k2 := reads_string (hs2.next hb5).reads c
    have hq : ((strOfNums zs).toList != (strOfNums zs).toList) = false := by simp
    generalize strOfNums zs = st at k1 k2 hq
    clear hO hb3 hb4 hL3 hk3 hx3 hk hs2 hs1
    obtain ⟨q, p, q1, q2, q3, q4⟩ := place_N t hN1
    obtain ⟨r, r1, r2⟩ := mask7 (t / 65536)
    have hfN : (frL i j zs).length = N := by rw [frL_length]; have := HN.out; omega
    have ho4 := own_below ho hb5 (fun g' h => by cases h; exact hg2)
    obtain ⟨v, hv⟩ : ∃ v, (frL i j zs).getD p 0 = v := ⟨_, rfl⟩
    obtain ⟨u, hu⟩ : ∃ u, bits .xor .u8 v ((r : Int) + 1) = u := ⟨_, rfl⟩
    have hvb := getD_bd (frL_bd i8 j8 hbd.out) (by omega) p
    have HT := hide (opB_turned (k := i) (l := j) (p := p) (x := (r : Int) + 1) i8 j8 hbd.out (by have := HN.out; omega) (by omega) (by omega) (by omega))
    rw [hv] at hvb HT
    rw [hu] at HT
    have hub : 0 ≤ u ∧ u < 256 := by rw [← hu]; exact xor_bd _ _ hvb ⟨by omega, by omega⟩
    have hcell : w4.cell? ⟨g, p, none⟩ = some (.int .u8 v) := by
      rw [ho4.cellAt p (by rw [Nat.mul_one]; exact q4), ← hv]
      unfold u8V
      simp [List.getD, hfN, q4]
    have hfrz := ho4.frozenAt p
    obtain ⟨ho5, _⟩ := ho4.stored p (.int .u8 u)
    have ho6 : (w4.setCell ⟨g, p, none⟩ (.int .u8 u)).ownsRow w1.heap.size 5 1 (.slice (some ⟨g, 0, none⟩) N fc) N (u8V ((frL i j zs).set p u)) := by
      unfold u8V
      rw [List.map_set]
      exact ho5
    have hk6 : SlOk (w4.setCell ⟨g, p, none⟩ (.int .u8 u)) (fun b => w1.heap.size ≤ b) ⟨some ⟨g, 0, none⟩, N, fc, (frL i j zs).set p u⟩ := OwnS.ok ho6 (wf_u8 fun z hz => by
      rcases List.mem_or_eq_of_mem_set hz with h | rfl
      · exact frL_bd i8 j8 hbd.out z h
      · exact hub)
    have hL6 : Laid (w4.setCell ⟨g, p, none⟩ (.int .u8 u)) := hL4.setCell (by show _ ≠ g; have := hL1.lt; omega) _
    have hB6 : Below w.heap.size w (w4.setCell ⟨g, p, none⟩ (.int .u8 u)) := hB4.setCell (by show w.heap.size ≤ g; have := hB1.size; omega) _
    have hO := hide (Open_at _ hL6 (x := i) (y := j) rfl rfl _ N fc _ hk6.in_ (by omega))
    clear ho5 ho6 hk6 hL6 hv hvb hfN hub hB4 hL4
    clear ho ho4 hB2 hL2
    go_wp2_with fail
    (with_reducible refine hO.out.mono ?_)
    rintro e w7 ⟨hb7, ⟨h, _⟩ | ⟨_, rfl⟩⟩
    · rw [HT.out] at h; cases h
    have hB7 := hB6.trans (hb7.mono hB6.size)
    clear hO hb7 hB6
    go_wp2_with fail
    go_ret
    exact ⟨rfl, hB7⟩
end Go.Proofs.YteiaiicdemmcoaaDoor.linkFrames
