/- The contracts of the law package's fit, Filled; slices of rows. -/
import Derived.Test.YtlegcjniakocoaaBookR
namespace Go.Proofs.Ytlegcjniakocoaa
open Go.RowKit

/-! ### A slice of rows -/
structure RowsIn (w : World) (B : Nat) (A : Option Addr) (n : Nat) (zs : List Int) : Prop where
  len : zs.length = n * 174
  wf : wf64 zs
  at_ : 0 < n → ∃ b off, A = some ⟨b, off, none⟩ ∧ b < B ∧ ∀ j, j < n * 174 → w.cell? ⟨b, off + j, none⟩ = some (.int .i64 (zs.getD j 0))
section
variable {w w' : World} {B n : Nat} {A : Option Addr} {zs : List Int}
theorem RowsIn.below (h : RowsIn w B A n zs) {B' : Nat} (hx : Below B' w w') (hB : B ≤ B') : RowsIn w' B A n zs :=
  ⟨h.len, h.wf, fun hn => by
    obtain ⟨b, off, e, hb, hc⟩ := h.at_ hn
    exact ⟨b, off, e, hb, fun j hj => (hx.cell (by show b < B'; omega)).trans (hc j hj)⟩⟩
theorem RowsIn.drew (h : RowsIn w B A n zs) : RowsIn w.drew B A n zs := ⟨h.len, h.wf, h.at_⟩
theorem RowsIn.got (h : RowsIn w B A n zs) {b off : Nat} (hA : A = some ⟨b, off, none⟩) {i : Nat} (hi : i < n) : rowAt w b (off + i * 174) 174 = iA (rowB zs i) ∧ HasRow w b (off + i * 174) 174 := by
  obtain ⟨b', off', e, _, hc⟩ := h.at_ (by omega)
  rw [hA] at e
  injection e with e
  injection e with e1 e2
  subst e1
  subst e2
  have hc' : ∀ j, j < 174 → w.cell? ⟨b, off + i * 174 + j, none⟩ = some (.int .i64 (zs.getD (i * 174 + j) 0)) := fun j hj => by
    rw [Nat.add_assoc]
    exact hc (i * 174 + j) (by have : (i + 1) * 174 ≤ n * 174 := Nat.mul_le_mul_right _ hi
                               omega)
  have hl := h.len
  have hi2 : (i + 1) * 174 ≤ n * 174 := Nat.mul_le_mul_right _ hi
  refine ⟨?_, fun j hj => by rw [hc' j hj]; rfl⟩
  unfold rowAt iA rowB
  congr 1
  apply List.ext_getElem
  · rw [iV_length, List.length_take, List.length_drop]; simp; omega
  · intro j h1 h2
    have hj : j < 174 := by simpa using h1
    simp only [List.getElem_map, List.getElem_range]
    rw [hc' j hj]
    simp [iV, List.getD, show i * 174 + j < zs.length by omega]
end
theorem rowB_len {zs : List Int} {n i : Nat} (hl : zs.length = n * 174) (hi : i < n) : (rowB zs i).length = 174 := by
  have : (i + 1) * 174 ≤ n * 174 := Nat.mul_le_mul_right _ hi
  rw [rowB, List.length_take, List.length_drop]; omega

/-! ### fit -/
def fitX : List Int := ((zeros 174).set 1 5).set 0 1
def fitY : List Int := (fitX.set 4 2).set 0 2
def fitB : List Int := putB (zeros 870) 0 fitY
theorem fit_inc : growV (zeros 174) 0 5 0 = (fitX, 0) := by decide +kernel
theorem fit_give : giveV fitX 0 2 1 = (fitY, 0) := by decide +kernel
theorem fit_okX : okRow fitX = true := by decide +kernel
theorem fit_okY : okRow fitY = true := by decide +kernel
theorem fit_news : newsB (zeros 870) 0 fitY = true := by decide +kernel
theorem fit_merge : mergeB (zeros 870) 0 fitY = fitB := by rw [mergeB, if_pos fit_news]; rfl
theorem fit_r0 : rightsV fitB 0 0 = 3 := by decide +kernel
theorem fit_r1 : rightsV fitB 1 0 = 2 := by decide +kernel
theorem fit_v : valueV fitB 0 = 5 := by decide +kernel
theorem fit_lX : fitX.length = 174 := by decide +kernel
theorem fit_lY : fitY.length = 174 := by decide +kernel
theorem wf_dec {zs : List Int} (h : zs.all (fun z => decide (-9223372036854775808 ≤ z) && decide (z ≤ 9223372036854775807)) = true) : wf64 zs := by
  intro z hz
  have := List.all_eq_true.1 h z hz
  simp only [Bool.and_eq_true, decide_eq_true_eq] at this
  simp [Lit.wf, IntKind.min, IntKind.max, IntKind.signed, IntKind.bits]; omega
theorem fit_wY : wf64 fitY := wf_dec (by decide +kernel)
attribute [local go_sem ↓] loadRowF_fold storeRowF_fold buildRowF_fold allocRowF_fold allocBookF_fold allocRowsF_fold loadRowsF_fold storeRowsF_fold
attribute [local go_sem] loadRowF_has storeRowF_has buildRowF_none allocRowF_run allocBookF_run allocRowsF_run loadRowsF_has storeRowsF_has
set_option maxRecDepth 100000 in
set_option maxHeartbeats 3200000 in
theorem fit5_any (w : World) : Calls Try.prog 8 #[] w fun e w' => e = .returned (.bool true) ∧ Below w.heap.size w w' := by
  have hb0 : IBlk (w.alloc (.cells (iA (zeros 870)) 34)) w.heap.size 34 (zeros 870) := IBlk.new _ _ _
  have hB0 : Below w.heap.size w (w.alloc (.cells (iA (zeros 870)) 34)) := (Below.refl _ _).alloc (Nat.le_refl _) _
  have HC := fun w => inc_any (zeros 174) (zeros_length 174) ok_zeros (by decide) 0 5 w
  rw [fit_inc] at HC
  have HG := fun w => give_any fitX fit_lX fit_okX (by decide +kernel) 0 2 1 w
  rw [fit_give] at HG
  have HBO : BookOk fitB := bookOk_zeros.put fit_lY fit_wY fit_okY (q := 0) (by omega)
  have HXL := hide fit_lX
  have HYL := hide fit_lY
  have HM := fun {w : World} {b : Nat} (hb : IBlk w b 34 (zeros 870)) => merge_any (zeros_length 870) hb 0 fit_lY fit_wY
  rw [fit_news, fit_merge] at HM
  have HR0 := fun {w : World} {b : Nat} (hb : IBlk w b 34 fitB) => rights_any HBO hb 0 0
  have HR1 := fun {w : World} {b : Nat} (hb : IBlk w b 34 fitB) => rights_any HBO hb 1 0
  have HVA := fun {w : World} {b : Nat} (hb : IBlk w b 34 fitB) => value_any HBO hb 0
  rw [fit_r0] at HR0
  rw [fit_r1] at HR1
  rw [fit_v] at HVA
  generalize fitB = bs at *
  generalize fitY = ys at *
  generalize fitX = xs at *
  have hxi : Is 174 xs := HXL.out
  have hyi : Is 174 ys := HYL.out
  go_enter Try.func8, Try.ntmps8
  go_upto_region 2 with fail
  generalize w.alloc (.cells (iA (zeros 870)) 34) = w1 at hb0 hB0
  generalize hbe : w.heap.size = b at hb0
  go_wp2_with fail
  (with_reducible refine (HC w1).mono ?_)
  rintro e w2 ⟨rfl, hx⟩
  have hb2 := hb0.below hx hb0.lt
  have hB2 := hB0.trans (hx.mono hB0.size)
  clear hb0 hB0 hx HC
  obtain ⟨rm, hX3, hO3, hB3⟩ := lay (t := 31) hB2 HXL.out hB2.size
  have hb3 := hb2.only hO3 (fun h => h)
  go_upto_region 3 with fail
  generalize hpe : w2.heap.size = p at hX3 hO3 hB3 hb3
  generalize (w2.alloc (.cells (iA (zeros 174)) 31)).setCells p 0 (iV xs) = w3 at hX3 hO3 hB3 hb3
  have hpb : b ≠ p := by have := hb2.lt; omega
  have hpw : w.heap.size ≤ p := by have := hB2.size; omega
  clear rm hpe hO3 hb2 hB2
  obtain ⟨r1, h1⟩ := hX3.whole HXL.out
  go_wp2_with fail
  (with_reducible refine (HG w3).mono ?_)
  rintro e w4 ⟨rfl, hx⟩
  have hX4 := hX3.below hx hX3.lt
  have hb4 := hb3.below hx hb3.lt
  have hB4 := hB3.trans (hx.mono hB3.size)
  clear hX3 hb3 hB3 hx HG r1 h1
  have hrm := hX4.room 0 174 (by rw [HXL.out]; decide)
  have hO5 := only_cells w4 p 0 (iV ys)
  have hX5 := hX4.fill (ys := ys) (by rw [HXL.out, HYL.out])
  have hb5 := hb4.only hO5 hpb
  have hB5 := below_only hB4 hO5 (fun i (e : i = p) => by omega) hB4.size
  go_upto_region 4 with fail
  generalize w4.setCells p 0 (iV ys) = w5 at hX5 hb5 hB5
  clear hrm hO5 hX4 hb4 hB4
  obtain ⟨r1, h1⟩ := hX5.whole HYL.out
  go_wp2_with fail
  (with_reducible refine (HM hb5).mono ?_)
  rintro e w6 ⟨rfl, hb6, hO6⟩
  have hB6 := below_only hB5 hO6 (fun i (e : i = b) => by omega) hB5.size
  clear hX5 hb5 hB5 hO6 HM r1 h1
  go_wp2_with fail
  (with_reducible refine (HR0 hb6).mono ?_)
  rintro e w7 ⟨rfl, hx⟩
  have hb7 := hb6.below hx hb6.lt
  have hB7 := hB6.trans (hx.mono hB6.size)
  clear hb6 hB6 hx
  go_wp2_with fail
  (with_reducible refine (HR1 hb7).mono ?_)
  rintro e w8 ⟨rfl, hx⟩
  have hb8 := hb7.below hx hb7.lt
  have hB8 := hB7.trans (hx.mono hB7.size)
  clear hb7 hB7 hx
  go_wp2_with fail
  (with_reducible refine (HVA hb8).mono ?_)
  rintro e w9 ⟨rfl, hx⟩
  have hB9 := hB8.trans (hx.mono hB8.size)
  go_wp2_with fail
  go_ret
  exact ⟨rfl, by first | exact hB9 | exact hbe ▸ hB9⟩
end Go.Proofs.Ytlegcjniakocoaa
