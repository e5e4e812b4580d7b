/- Law 11's own Behind. -/
import Derived.Test.YtoknodkgmeinmaaVwN
import Derived.Test.YtoknodkgmeinmaaVwT
import Derived.Test.YtoknodkgmeinmaaIntsIn
import Derived.Test.YtoknodkgmeinmaaOpenVw
import Derived.Test.YtoknodkgmeinmaaChgO
namespace Go.Proofs.Ytoknodkgmeinmaa
open Go.RowKit

attribute [local go_sem ↓] loadViewF_fold storeViewF_fold allocViewF_fold buildViewF_fold loadChgF_fold storeChgF_fold allocChgF_fold buildChgF_fold
attribute [local go_sem] loadViewF_has storeViewF_has allocViewF_run buildViewF_none buildViewF_two loadChgF_has storeChgF_has allocChgF_run buildChgF_three
/-- The view behind so many changes; how many were. -/
def behV (zs : List Int) : Nat → V × Nat
  | 0 => (firstV, 0)
  | i + 1 => match nextL (behV zs i).1 (oneZ 3 zs i) with
    | none => behV zs i
    | some u => (u, (behV zs i).2 + 1)
theorem behV_no {zs : List Int} {i : Nat} (h : nextL (behV zs i).1 (oneZ 3 zs i) = none) : behV zs (i + 1) = behV zs i := by rw [behV, h]
theorem behV_yes {zs : List Int} {i : Nat} {u : V} (h : nextL (behV zs i).1 (oneZ 3 zs i) = some u) : behV zs (i + 1) = (u, (behV zs i).2 + 1) := by rw [behV, h]
theorem behV_ok (zs : List Int) : ∀ i, (behV zs i).1.Ok ∧ (behV zs i).1.e = (behV zs i).2 + 1 ∧ (behV zs i).2 ≤ i
  | 0 => ⟨firstV_ok, rfl, Nat.le_refl _⟩
  | i + 1 => by
    obtain ⟨h1, h2, h3⟩ := behV_ok zs i
    cases hn : nextL (behV zs i).1 (oneZ 3 zs i) with
    | none => rw [behV_no hn]; exact ⟨h1, h2, by omega⟩
    | some u =>
      rw [behV_yes hn]
      obtain ⟨k1, k2⟩ := nextV_ok h1 hn
      exact ⟨k1, by rw [k2, h2], by show (behV zs i).2 + 1 ≤ i + 1; omega⟩
set_option maxRecDepth 100000 in
set_option maxHeartbeats 3200000 in
theorem behind_any (A : Option Addr) (n c : Nat) (zs : List Int) (w : World) (hR : IntsIn w w.heap.size 3 A n zs) (hn : n ≤ 100000) :
    Calls Try.prog 7 #[.slice A n c] w fun e w' => e = .returned (.tuple #[.agg (iA (zV (behV zs n).1)), .int .i64 ((behV zs n).2 : Nat)]) ∧ Below w.heap.size w w' := by
  have hJ0 : IBlk (w.alloc (.cells (iA (zeros 7)) 27)) w.heap.size 27 (zeros 7) := IBlk.new _ _ _
  have hB0 : Below w.heap.size w (w.alloc (.cells (iA (zeros 7)) 27)) := (Below.refl _ _).alloc (Nat.le_refl _) _
  have i7 := Try.infoView
  have zfl : (zV firstV).length = 7 := rfl
  have zfi : Is 7 (zV firstV) := rfl
  go_enter Try.func7, Try.ntmps7
  go_wp2_with fail
  (with_reducible refine (first_any _).mono ?_)
  rintro e w1 ⟨rfl, hb1⟩
  have hJ1 := hJ0.below hb1 hJ0.lt
  have hB1 := hB0.trans (hb1.mono hB0.size)
  clear hJ0 hB0 hb1
  obtain ⟨rm, hX, hO, hB2⟩ := lay (t := 27) hB1 zfl hB1.size
  have hJ2 := hJ1.only hO (fun h => h)
  have hpl := hJ1.lt
  go_upto_region 2 with fail
  generalize w1.heap.size = p at hX hO hB2 hJ2 hpl
  generalize (w1.alloc (.cells (iA (zeros 7)) 27)).setCells p 0 (iV (zV firstV)) = w2 at hX hO hB2 hJ2
  clear rm hO hB1 hJ1 zfl zfi
  go_wp2_with fail
  go_loopw [5, 13] (fun s5 s13 wr => ∃ i : Nat, i ≤ n ∧ s13 = .int .i64 i ∧ s5 = .int .i64 ((behV zs i).2 : Nat) ∧ IBlk wr p 27 (zV (behV zs i).1) ∧ IBlk wr w.heap.size 27 (zeros 7) ∧ Below w.heap.size w wr) (fun _ s13 _ => n - (intOf s13).toNat)
  case atStart => exact ⟨0, Nat.zero_le _, rfl, rfl, hX, hJ2, hB2⟩
  case round =>
    clear hX hB2 hJ2
    obtain ⟨i, hi, rfl, rfl, hX, hJ, hB⟩ := hrel
    have hbo := behV_ok zs i
    by_cases hlt : i < n
    · obtain ⟨ab, off, rfl, habl, _⟩ := hR.at_ (by omega)
      obtain ⟨r0, h0⟩ := (hR.below hB (Nat.le_refl _)).got rfl hlt
      obtain ⟨hcl, hcw⟩ := hR.one hlt
      have hci : Is 3 (oneZ 3 zs i) := hcl
      have dl : (i : Int) < (n : Int) := by omega
      have HY := hide (fun (u : V) (h : nextL (behV zs i).1 (oneZ 3 zs i) = some u) => behV_yes h)
      have HN := hide (fun (h : nextL (behV zs i).1 (oneZ 3 zs i) = none) => behV_no h)
      obtain ⟨o1, o2, o3⟩ := hbo
      have HK := fun w => next_any (behV zs i).1 o1 (by omega) (oneZ 3 zs i) hcl w
      have HR := hide (fun (u : V) (h : nextL (behV zs i).1 (oneZ 3 zs i) = some u) => (nextV_ok o1 h).1.len)
      have hvl := zV_length o1.len
      generalize oneZ 3 zs i = c3 at *
      generalize hbe : behV zs i = bv at *
      obtain ⟨v, m⟩ := bv
      have HBE := hide hbe
      clear hbe
      simp only at hX HK HY HN HR o2 o3 hvl
      obtain ⟨rm, hC, hO, hB2⟩ := lay (t := 33) hB hcl hB.size
      have hX2 := hX.only hO (fun h => h)
      have hJ2 := hJ.only hO (fun h => h)
      clear hX hJ hB hO hcw
      go_upto_region 5 with fail
      generalize wr.heap.size = q at hC hB2 hX2 hJ2
      generalize (wr.alloc (.cells (iA (zeros 3)) 33)).setCells q 0 (iV c3) = w3 at hC hX2 hJ2 hB2
      clear rm r0 h0
      obtain ⟨r1, h1⟩ := hX2.whole hvl
      obtain ⟨r2, h2⟩ := hC.whole hcl
      go_wp2_with fail
      (with_reducible refine (HK w3).mono ?_)
      rintro e w4 ⟨rfl, hb4⟩
      have hX4 := hX2.below hb4 hX2.lt
      have hJ4 := hJ2.below hb4 hJ2.lt
      have hB4 := hB2.trans (hb4.mono hB2.size)
      clear hX2 hJ2 hB2 hC hb4 r1 h1 r2 h2 HK
      cases hnx : nextL v c3 with
      | none =>
        have hs := HN.out hnx
        have HS := hide hs
        clear HN HY HR hs hnx
        obtain ⟨rm, hZ, hO, hB5⟩ := lay (t := 27) hB4 (zeros_length 7) hB4.size
        have hX5 := hX4.only hO (fun h => h)
        have hJ5 := hJ4.only hO (fun h => h)
        have iz := is_zeros 7
        rw [show resVw none = zeros 7 from rfl, show resE none = 5 from rfl]
        go_wp2_with fail
        go_roundw
        case rel => exact ⟨i + 1, by omega, by go_num, by rw [HS.out], by rw [HS.out]; exact hX5, hJ5, hB5⟩
        case measure => simp [intOf]; omega
      | some u =>
        have hs := HY.out u hnx
        have HS := hide hs
        have hul := zV_length (HR.out u hnx)
        have hui : Is 7 (zV u) := hul
        clear HN HY HR hs hnx
        obtain ⟨rm, hZ, hO, hB5⟩ := lay (t := 27) hB4 hul hB4.size
        have hX5 := hX4.only hO (fun h => h)
        have hJ5 := hJ4.only hO (fun h => h)
        have hql := hX4.lt
        rw [show resVw (some u) = zV u from rfl, show resE (some u) = 0 from rfl]
        clear hX4 hJ4 hB4 hO
        go_upto_region 6 with fail
        generalize w4.heap.size = q5 at hZ hB5 hX5 hJ5 hql
        generalize (w4.alloc (.cells (iA (zeros 7)) 27)).setCells q5 0 (iV (zV u)) = w5 at hZ hB5 hX5 hJ5
        clear rm
        obtain ⟨r5, h5⟩ := hZ.whole hul
        have rm5 := hX5.room 0 7 (by omega)
        have hX6 := hX5.fill (ys := zV u) (by omega)
        have hO6 := only_cells w5 p 0 (iV (zV u))
        have hJ6 := hJ5.only hO6 (by omega)
        have hB6 := below_only hB5 hO6 (fun i (e : i = p) => by omega) hB5.size
        have hm : (m : Int) ≤ 100000 := by omega
        have hm0 : (0 : Int) ≤ (m : Int) := by omega
        clear hX5 hJ5 hB5 hO6 hZ
        go_wp2_with fail
        go_roundw
        case rel => exact ⟨i + 1, by omega, by go_num, by rw [HS.out]; go_num, by rw [HS.out]; exact hX6, hJ6, hB6⟩
        case measure => simp [intOf]; omega
    · obtain rfl : n = i := by omega
      have hvl := zV_length hbo.1.len
      have hvi : Is 7 (zV (behV zs n).1) := hvl
      obtain ⟨r5, h5⟩ := hX.whole hvl
      have rm5 := hJ.room 0 7 (by rw [zeros_length]; decide)
      have hJ6 := hJ.fill (ys := zV (behV zs n).1) hvl
      have hB6 := below_only hB (only_cells wr w.heap.size 0 (iV (zV (behV zs n).1))) (fun i (e : i = w.heap.size) => by omega) hB.size
      clear hbo
      go_wp2_with fail
      exact bodyPost_ret (results_i2 rfl rfl hJ6 Try.underlying27 rfl (by rw [hvl]; exact i7) _ rfl) rfl ⟨rfl, hB6⟩
end Go.Proofs.Ytoknodkgmeinmaa
