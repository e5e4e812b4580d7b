/- The contracts of row's Cell for any machine and key, and of book's Cell. -/
import Derived.Test.YtlegcjniakocoaaBookM
namespace Go.Proofs.Ytlegcjniakocoaa
open Go.RowKit

/-- A block that is made and stored whole. -/
theorem lay {n : Nat} {t : TypeId} {w : World} {B : Nat} {a : World} {g : List Int} (hB : Below B a w) (hg : g.length = n) (h : B ≤ w.heap.size) :
    Room (w.alloc (.cells (iA (zeros n)) t)) w.heap.size 0 n ∧ IBlk ((w.alloc (.cells (iA (zeros n)) t)).setCells w.heap.size 0 (iV g)) w.heap.size t g ∧
      Only (fun _ => False) w ((w.alloc (.cells (iA (zeros n)) t)).setCells w.heap.size 0 (iV g)) ∧ Below B a ((w.alloc (.cells (iA (zeros n)) t)).setCells w.heap.size 0 (iV g)) := by
  have hnew : IBlk (w.alloc (.cells (iA (zeros n)) t)) w.heap.size t (zeros n) := IBlk.new _ _ _
  have hO : Only (fun _ => False) w ((w.alloc (.cells (iA (zeros n)) t)).setCells w.heap.size 0 (iV g)) := Only.setCells _ (.inr (Nat.le_refl _)) _ _ ((Only.refl _ _).alloc _)
  exact ⟨hnew.room 0 n (by rw [zeros_length]; omega), hnew.fill (by rw [hg, zeros_length]), hO, below_only hB hO (fun _ e => e.elim) h⟩

/-- What row's Cell answers, of whatever machine and key. -/
def cellI (xs : List Int) (q : Nat) (o k : Int) : List Int × Int := if inK o 5 = true ∧ inK k 4 = true then cellV xs q o.toNat k.toNat else (zeros 7, -1)
theorem cellI_length {xs : List Int} (hl : xs.length = 174) (q : Nat) (o k : Int) : (cellI xs q o k).1.length = 7 := by
  unfold cellI
  split
  · rename_i h
    have h1 := inK_true.1 h.1
    have h2 := inK_true.1 h.2
    exact cellV_length hl (by omega) (by omega)
  · exact zeros_length 7
attribute [local go_sem ↓] loadRowF_fold storeRowF_fold allocRowF_fold loadCellF_fold storeCellF_fold buildCellF_fold allocCellF_fold loadRowsF_fold indexRowsF_fold
attribute [local go_sem] loadRowF_has storeRowF_has allocRowF_run loadCellF_has storeCellF_has buildCellF_none allocCellF_run loadRowsF_has indexRowsF_at
set_option maxRecDepth 100000 in
set_option maxHeartbeats 1600000 in
theorem cellI_any (xs : List Int) (hl : xs.length = 174) (hw : wf64 xs) (q : Nat) (hq : q < 5) (o k : Int) (w : World) :
    Calls Try.prog 25 #[.agg (iA xs), .int .i64 q, .int .i64 o, .int .i64 k] w fun e w' => e = .returned (.tuple #[.agg (iA (cellI xs q o k).1), .int .i64 (cellI xs q o k).2]) ∧ Below w.heap.size w w' := by
  by_cases h : inK o 5 = true ∧ inK k 4 = true
  · have h1 := inK_true.1 h.1
    have h2 := inK_true.1 h.2
    rw [cellI, if_pos h]
    have := cellRow_any xs hl (fun i hi => (wf_bd hw (29 + i) (by omega)).2) q o.toNat k.toNat hq (by omega) (by omega) w
    rwa [show ((o.toNat : Nat) : Int) = o by omega, show ((k.toNat : Nat) : Int) = k by omega] at this
  · have HV : Hid (cellI xs q o k = (zeros 7, -1)) := hide (by rw [cellI, if_neg h])
    have hJ : IBlk ((w.alloc (.cells (iA xs) 31)).alloc (.cells (iA (zeros 7)) 27)) (w.heap.size + 1) 27 (zeros 7) := by
      have := IBlk.new (w.alloc (.cells (iA xs) 31)) 27 (zeros 7)
      simpa using this
    have hB : Below w.heap.size w ((w.alloc (.cells (iA xs) 31)).alloc (.cells (iA (zeros 7)) 27)) := ((Below.refl _ _).alloc (Nat.le_refl _) _).alloc (by simp) _
    have iz := is_zeros 7
    have hi7 := Try.infoCell
    have hrm := hJ.room 0 7 (by rw [zeros_length]; decide)
    have f1 := hJ.fill (ys := zeros 7) rfl
    have f2 := below_only hB (only_cells _ (w.heap.size + 1) 0 (iV (zeros 7))) (fun i (e : i = w.heap.size + 1) => by omega) hB.size
    go_enter Try.func25, Try.ntmps25
    go_upto_region 1 with fail
    generalize (w.alloc (.cells (iA xs) 31)).alloc (.cells (iA (zeros 7)) 27) = w1 at hJ hB hrm f1 f2
    have hqk : inK (q : Int) 5 = true := inK_true.2 ⟨by omega, by omega⟩
    by_cases h1 : inK o 5 = true
    · have h2 : inK k 4 = false := by rw [← Bool.not_eq_true]; exact fun h2 => h ⟨h1, h2⟩
      clear h
      go_wp2_with fail
      (with_reducible refine (within_any q 5 w1).mono ?_)
      rintro e w' ⟨rfl, rfl⟩
      rw [hqk]
      go_wp2_with fail
      (with_reducible refine (within_any o 5 w1).mono ?_)
      rintro e w' ⟨rfl, rfl⟩
      rw [h1]
      go_wp2_with fail
      (with_reducible refine (within_any k 4 w1).mono ?_)
      rintro e w' ⟨rfl, rfl⟩
      rw [h2]
      go_wp2_with fail
      refine bodyPost_ret (results_i2 rfl rfl f1 Try.underlying27 rfl hi7 _ rfl) rfl ⟨?_, f2⟩
      rw [HV.out]
      rfl
    · rw [Bool.not_eq_true] at h1
      clear h
      go_wp2_with fail
      (with_reducible refine (within_any q 5 w1).mono ?_)
      rintro e w' ⟨rfl, rfl⟩
      rw [hqk]
      go_wp2_with fail
      (with_reducible refine (within_any o 5 w1).mono ?_)
      rintro e w' ⟨rfl, rfl⟩
      rw [h1]
      go_wp2_with fail
      refine bodyPost_ret (results_i2 rfl rfl f1 Try.underlying27 rfl hi7 _ rfl) rfl ⟨?_, f2⟩
      rw [HV.out]
      rfl

/-- The latest cell of a machine that the first so many rows have, and its version. -/
def bestC (bs : List Int) (o k : Int) : Nat → List Int × Int
  | 0 => (zeros 7, -1)
  | j + 1 => if (bestC bs o k j).2 < (cellI (rowB bs j) j o k).2 then cellI (rowB bs j) j o k else bestC bs o k j
def cellB (bs : List Int) (o k : Int) : List Int := (bestC bs o k 5).1
theorem bestC_length {bs : List Int} (hl : bs.length = 870) (o k : Int) : ∀ {j : Nat}, j ≤ 5 → (bestC bs o k j).1.length = 7
  | 0, _ => zeros_length 7
  | j + 1, h => by
    rw [bestC]
    split
    · exact cellI_length (rowB_length hl (by omega)) _ _ _
    · exact bestC_length hl o k (by omega)
set_option maxRecDepth 100000 in
set_option maxHeartbeats 3200000 in
theorem cellB_any {w : World} {b : Nat} {t : TypeId} {bs : List Int} (hl : bs.length = 870) (hw : wf64 bs) (hb : IBlk w b t bs) (o k : Int) :
    Calls Try.prog 14 #[.pointer (some ⟨b, 0, none⟩), .int .i64 o, .int .i64 k] w fun e w' => e = .returned (.agg (iA (cellB bs o k))) ∧ Below w.heap.size w w' := by
  have hbl := hb.lt
  have hb2 : IBlk ((w.alloc (.cells (iA (zeros 7)) 27)).alloc (.cells (iA (zeros 7)) 27)) b t bs := (hb.alloc _).alloc _
  have hJ2 : IBlk ((w.alloc (.cells (iA (zeros 7)) 27)).alloc (.cells (iA (zeros 7)) 27)) w.heap.size 27 (zeros 7) := (IBlk.new _ _ _).alloc _
  have hL2 : IBlk ((w.alloc (.cells (iA (zeros 7)) 27)).alloc (.cells (iA (zeros 7)) 27)) (w.heap.size + 1) 27 (zeros 7) := by
    have := IBlk.new (w.alloc (.cells (iA (zeros 7)) 27)) 27 (zeros 7)
    simpa using this
  have hB2 : Below w.heap.size w ((w.alloc (.cells (iA (zeros 7)) 27)).alloc (.cells (iA (zeros 7)) 27)) := ((Below.refl _ _).alloc (Nat.le_refl _) _).alloc (by simp) _
  have iz := is_zeros 7
  have hi7 := Try.infoCell
  have HL := hide hl
  have HC := hide (fun (j : Nat) (hj : j < 5) w => cellI_any (rowB bs j) (rowB_length hl hj) (wf64_chunk hw _ _) j hj o k w)
  have HCL := hide (fun (j : Nat) (hj : j < 5) => cellI_length (rowB_length hl hj) j o k)
  have HBL := hide (fun (j : Nat) (hj : j ≤ 5) => bestC_length hl o k hj)
  have HST : Hid (∀ j, bestC bs o k (j + 1) = if (bestC bs o k j).2 < (cellI (rowB bs j) j o k).2 then cellI (rowB bs j) j o k else bestC bs o k j) := hide fun _ => rfl
  clear hl hw
  go_enter Try.func14, Try.ntmps14
  have hrm := hL2.room 0 7 (by rw [zeros_length]; decide)
  have hO3 := only_cells ((w.alloc (.cells (iA (zeros 7)) 27)).alloc (.cells (iA (zeros 7)) 27)) (w.heap.size + 1) 0 (iV (zeros 7))
  have hL3 := hL2.fill (ys := zeros 7) rfl
  have hJ3 := hJ2.only hO3 (by omega)
  have hb3 := hb2.only hO3 (by omega)
  have hB3 := below_only hB2 hO3 (fun i (e : i = w.heap.size + 1) => by omega) hB2.size
  go_upto_region 2 with fail
  generalize ((w.alloc (.cells (iA (zeros 7)) 27)).alloc (.cells (iA (zeros 7)) 27)).setCells (w.heap.size + 1) 0 (iV (zeros 7)) = w3 at hL3 hJ3 hb3 hB3
  clear hb2 hJ2 hL2 hB2 hrm hO3
  obtain ⟨r0, h0⟩ := hb3.whole HL.out
  go_wp2_with fail
  clear r0 h0
  go_loopw [8, 18] (fun s8 s18 wr => ∃ j : Nat, j ≤ 5 ∧ s18 = .int .i64 j ∧ s8 = .int .i64 (bestC bs o k j).2 ∧ IBlk wr b t bs ∧ IBlk wr w.heap.size 27 (zeros 7) ∧ IBlk wr (w.heap.size + 1) 27 (bestC bs o k j).1 ∧ Below w.heap.size w wr) (fun _ s18 _ => 5 - (intOf s18).toNat)
  case atStart => exact ⟨0, by omega, rfl, rfl, hb3, hJ3, hL3, hB3⟩
  case round =>
    clear hb3 hJ3 hL3 hB3
    obtain ⟨j, hj, rfl, rfl, hb4, hJ4, hL4, hB4⟩ := hrel
    by_cases hlt : j < 5
    · have hix := indexRowsF_at (zs := bs) hlt
      have HCj := HC.out j hlt
      have hcl := HCL.out j hlt
      have hbl2 := HBL.out j (by omega)
      have hrl : ((bs.drop (j * 174)).take 174).length = 174 := by have := HL.out; rw [List.length_take, List.length_drop]; omega
      have hst := HST.out j
      unfold rowB at HCj hcl hst
      generalize (bs.drop (j * 174)).take 174 = rr at hix HCj hcl hrl hst
      generalize cellI rr j o k = cc at HCj hcl hst
      have HS := hide hst
      clear hst
      obtain ⟨cv, cn⟩ := cc
      generalize hbe : bestC bs o k j = be at hL4 hbl2 HS
      obtain ⟨bv, bn⟩ := be
      obtain ⟨rm1, hX5, hO5, hB5⟩ := lay (t := 31) hB4 hrl hB4.size
      have hb5 := hb4.only hO5 (fun h => h)
      have hJ5 := hJ4.only hO5 (fun h => h)
      have hL5 := hL4.only hO5 (fun h => h)
      have hri : Is 174 rr := hrl
      go_upto_region 5 with fail
      generalize hpe : wr.heap.size = p at hX5 hO5 hb5 hJ5 hL5 hB5
      generalize (wr.alloc (.cells (iA (zeros 174)) 31)).setCells p 0 (iV rr) = w5 at hX5 hO5 hb5 hJ5 hL5 hB5
      obtain ⟨r1, h1⟩ := hX5.whole hrl
      clear rm1 hpe hb4 hJ4 hL4 hB4 hO5 hri
      go_wp2_with fail
      (with_reducible refine (HCj w5).mono ?_)
      rintro e w6 ⟨rfl, hx⟩
      have hb6 := hb5.below hx hb5.lt
      have hJ6 := hJ5.below hx hJ5.lt
      have hL6 := hL5.below hx hL5.lt
      have hB6 := hB5.trans (hx.mono hB5.size)
      clear r1 h1 hX5 hb5 hJ5 hL5 hB5 hx HCj
      obtain ⟨rm1, hX7, hO7, hB7⟩ := lay (t := 27) hB6 hcl hB6.size
      have hb7 := hb6.only hO7 (fun h => h)
      have hJ7 := hJ6.only hO7 (fun h => h)
      have hL7 := hL6.only hO7 (fun h => h)
      have hci : Is 7 cv := hcl
      have hsz := hB6.size
      have hL6l := hL6.lt
      go_upto_region 6 with fail
      generalize hpe : w6.heap.size = p2 at hX7 hO7 hb7 hJ7 hL7 hB7 hsz hL6l
      generalize (w6.alloc (.cells (iA (zeros 7)) 27)).setCells p2 0 (iV cv) = w7 at hX7 hO7 hb7 hJ7 hL7 hB7
      clear rm1 hpe hb6 hJ6 hL6 hB6 hO7
      by_cases hv : bn < cn
      · have dv := decide_eq_true hv
        obtain ⟨r2, h2⟩ := hX7.whole hcl
        have hrm := hL7.room 0 7 (by rw [hbl2]; go_light; omega)
        have hO8 := only_cells w7 (w.heap.size + 1) 0 (iV cv)
        have hL8 := hL7.fill (ys := cv) (by rw [hcl]; exact hbl2.symm)
        have hJ8 := hJ7.only hO8 (by go_light; omega)
        have hb8 := hb7.only hO8 (by go_light; omega)
        have hB8 := below_only hB7 hO8 (fun i (e : i = w.heap.size + 1) => by go_light; omega) hB7.size
        have HS2 := hide (HS.out.trans (if_pos hv))
        go_wp2_with fail
        go_roundw
        case rel => go_light; exact ⟨j + 1, by omega, by go_num, by rw [HS2.out], hb8, hJ8, by rw [HS2.out]; exact hL8, hB8⟩
        case measure => go_light; simp [intOf]; omega
      · have dv := decide_eq_false hv
        have HS2 := hide (HS.out.trans (if_neg hv))
        go_wp2_with fail
        go_roundw
        case rel => go_light; exact ⟨j + 1, by omega, by go_num, by rw [HS2.out], hb7, hJ7, by rw [HS2.out]; exact hL7, hB7⟩
        case measure => go_light; simp [intOf]; omega
    · obtain rfl : j = 5 := by omega
      have hV : Hid ((bestC bs o k 5).1 = cellB bs o k) := hide rfl
      have hbl2 := HBL.out 5 (by omega)
      obtain ⟨r1, h1⟩ := hL4.whole hbl2
      have hbi : Is 7 (bestC bs o k 5).1 := hbl2
      have hrm := hJ4.room 0 7 (by rw [zeros_length]; decide)
      have f1 := hJ4.fill (ys := (bestC bs o k 5).1) (by rw [hbl2, zeros_length])
      have f2 := below_only hB4 (only_cells wr w.heap.size 0 (iV (bestC bs o k 5).1)) (fun i (e : i = w.heap.size) => by omega) hB4.size
      rw [hV.out] at *
      generalize hfe : cellB bs o k = fin at *
      have HFE := hide hfe
      clear hfe
      go_wp2_with fail
      refine bodyPost_ret (results_i rfl rfl f1 Try.underlying27 rfl (by rw [hbl2]; exact hi7)) rfl ⟨by rw [HFE.out], f2⟩
end Go.Proofs.Ytlegcjniakocoaa
