/- The walk of ViewMajors. -/
import Derived.Test.YtpofcnokbmaooaaVwF
namespace Go.Proofs.Ytpofcnokbmaooaa.viewMajors
open Go.RowKit

theorem set_pos : ∀ m : Fin 32, 0 < m.val → 0 < (setL (m.val : Int)).length := by decide +kernel
theorem enough_all {m : Nat} (h0 : 0 < m) (h1 : m < 32) : mostB (m : Int) (m : Int) = true := by
  rw [most_self]
  exact decide_eq_true (set_pos ⟨m, h1⟩ h0)
theorem both_not {a b c : Int} (ha : mostB a c = true) (hb : mostB b c = true) : (bits .and .i64 (bits .and .i64 a b) c == 0) = false := by
  have := halves a b c ha hb
  rw [beq_eq_false_iff_ne]
  intro e
  rw [e] at this
  exact absurd this (by decide +kernel)
attribute [local go_sem ↓] loadViewF_fold storeViewF_fold allocViewF_fold buildViewF_fold
attribute [local go_sem] loadViewF_has storeViewF_has allocViewF_run buildViewF_none buildViewF_two
set_option maxRecDepth 100000 in
set_option maxHeartbeats 3200000 in
theorem walk (w : World) (A : Option Addr) (n c : Nat) (zs : List Int) (hR : IntsIn w w.heap.size 3 A n zs) (_ : n ≤ c) (_ : c ≤ maxLen) (a : Int) (_ : -9223372036854775808 ≤ a) (_ : a ≤ 9223372036854775807) (b : Int) (_ : -9223372036854775808 ≤ b) (_ : b ≤ 9223372036854775807) :
    Calls Try.prog 4 #[.slice A n c, .int .i64 a, .int .i64 b] w fun e w' => e = .returned (.bool true) ∧ Below w.heap.size w w' := by
  go_enter Try.func4, Try.ntmps4
  go_wp2_with fail
  (with_reducible refine (fit11_any w).mono ?_)
  rintro e w1 ⟨rfl, B1⟩
  by_cases h40 : 40 < n
  · have d1 : (40 : Int) < (n : Int) := by omega
    go_wp2_with fail
    go_ret
    exact ⟨rfl, B1⟩
  have d1 : ¬ (40 : Int) < (n : Int) := by omega
  have hR1 := hR.below B1 (Nat.le_refl _)
  have HBH := behind_any A n c zs w1 ⟨hR1.len, hR1.wf, fun hn => by
    obtain ⟨ab, off, e, hb, hc⟩ := hR1.at_ hn
    exact ⟨ab, off, e, Nat.lt_of_lt_of_le hb B1.size, hc⟩⟩ (by omega)
  obtain ⟨o1, _, _⟩ := behV_ok zs n
  generalize behV zs n = bv at HBH o1
  obtain ⟨v, m⟩ := bv
  simp only at HBH o1
  have hvl := zV_length o1.len
  have hvi : Is 7 (zV v) := hvl
  go_wp2_with fail
  (with_reducible refine HBH.mono ?_)
  rintro e w2 ⟨rfl, hb2⟩
  have B2 := B1.trans (hb2.mono B1.size)
  clear B1 hb2 HBH hR1 d1
  obtain ⟨rm, hX, hO, B3⟩ := lay (t := 28) B2 hvl B2.size
  go_upto_region 6 with fail
  generalize w2.heap.size = p at hX hO B3
  generalize (w2.alloc (.cells (iA (zeros 7)) 28)).setCells p 0 (iV (zV v)) = w3 at hX hO B3
  clear rm hO B2
  have HA := fun (q : Int) (w : World) => enough_any v o1.len q w
  have h0 := enough_all o1.m1 o1.m2
  have hz : mostB 0 (v.m : Int) = false := most_zero _
  have hcell : ∀ {w : World}, IBlk w p 28 (zV v) → w.cell? ⟨p, 1, none⟩ = some (.int .i64 (v.m : Int)) := fun h => h.cell (i := 1) (by omega)
  have hboth := fun h1 h2 => both_not (a := a) (b := b) (c := (v.m : Int)) h1 h2
  generalize (v.m : Int) = mm at *
  obtain ⟨r3, h3⟩ := hX.whole hvl
  go_cut [37] (fun s37 wx => s37 = .bool false ∧ IBlk wx p 28 (zV v) ∧ Below w.heap.size w wx)
  case first =>
    go_wp2_with fail
    (with_reducible refine (HA a w3).mono ?_)
    rintro e w4 ⟨rfl, hb4⟩
    have hX4 := hX.below hb4 hX.lt
    have B4 := B3.trans (hb4.mono B3.size)
    cases hma : mostB a mm with
    | false =>
      go_wp2_with fail
      go_meet
      exact ⟨rfl, hX4, B4⟩
    | true =>
      obtain ⟨r4, h4⟩ := hX4.whole hvl
      go_wp2_with fail
      (with_reducible refine (HA b w4).mono ?_)
      rintro e w5 ⟨rfl, hb5⟩
      have hX5 := hX4.below hb5 hX4.lt
      have B5 := B4.trans (hb5.mono B4.size)
      cases hmb : mostB b mm with
      | false =>
        go_wp2_with fail
        go_meet
        exact ⟨rfl, hX5, B5⟩
      | true =>
        have hn := hboth hma hmb
        have c5 := hcell hX5
        go_wp2_with fail
        go_meet
        exact ⟨rfl, hX5, B5⟩
  case rest =>
    obtain ⟨rfl, hX4, B4⟩ := hcut
    clear hX B3 r3 h3 hboth
    go_wp2_with fail
    go_loopw [9, 10, 38] (fun _ _ s38 wr => ∃ k : Nat, k ≤ 5 ∧ s38 = .int .i64 k ∧ IBlk wr p 28 (zV v) ∧ Below w.heap.size w wr) (fun _ _ s38 _ => 5 - (intOf s38).toNat)
    case atStart => exact ⟨0, Nat.zero_le _, rfl, hX4, B4⟩
    case round =>
      clear hX4 B4
      obtain ⟨k, hk, rfl, hX, hB⟩ := hrel
      by_cases hlt : k < 5
      · go_wp2_with fail
        (with_reducible refine (witnesses_any k hlt wr).mono ?_)
        rintro e w5 ⟨W, cw, rfl, hRw, hb5⟩
        have hX5 := hX.below hb5 hX.lt
        have hB5 := hB.trans (hb5.mono hB.size)
        obtain ⟨bb, off, rfl, _, hc0⟩ := hRw.plain (by omega)
        have e0 : w5.cell? ⟨bb, off, none⟩ = some (.int .i64 (((k + 1) % 5 : Nat) : Int)) := hc0 0 _ rfl
        have e1 : w5.cell? ⟨bb, off + 1, none⟩ = some (.int .i64 (((k + 2) % 5 : Nat) : Int)) := hc0 1 _ rfl
        have m1 : ((k : Int) + 1).tmod 5 = (((k + 1) % 5 : Nat) : Int) := by rw [Int.tmod_eq_emod_of_nonneg (by omega)]; push_cast; rfl
        have m2 : ((k : Int) + 2).tmod 5 = (((k + 2) % 5 : Nat) : Int) := by rw [Int.tmod_eq_emod_of_nonneg (by omega)]; push_cast; rfl
        have n1 : ((k : Int) + 1) % 5 = (((k + 1) % 5 : Nat) : Int) := by push_cast; rfl
        have n2 : ((k : Int) + 2) % 5 = (((k + 2) % 5 : Nat) : Int) := by push_cast; rfl
        generalize (k + 1) % 5 = q1 at *
        generalize (k + 2) % 5 = q2 at *
        clear hc0 hRw hX hB hb5
        go_wp2_with fail
        go_roundw
        case rel => exact ⟨k + 1, by omega, by go_num, hX5, hB5⟩
        case measure => simp [intOf]; omega
      · have hk5 : k = 5 := by omega
        have dl : ¬ (k : Int) < 5 := by omega
        obtain ⟨r5, h5⟩ := hX.whole hvl
        have c5 := hcell hX
        have HA1 := fun w => HA mm w
        rw [h0] at HA1
        have HA2 := fun w => HA 0 w
        rw [hz] at HA2
        go_wp2_with fail
        (with_reducible refine (HA1 wr).mono ?_)
        rintro e w5 ⟨rfl, hb5⟩
        have hX5 := hX.below hb5 hX.lt
        have hB5 := hB.trans (hb5.mono hB.size)
        obtain ⟨r6, h6⟩ := hX5.whole hvl
        clear hX hB hb5 r5 h5 c5
        go_wp2_with fail
        (with_reducible refine (HA2 w5).mono ?_)
        rintro e w6 ⟨rfl, hb6⟩
        go_wp2_with fail
        go_ret
        exact ⟨rfl, hB5.trans (hb6.mono hB5.size)⟩
end Go.Proofs.Ytpofcnokbmaooaa.viewMajors
