/- Sectors held against one another; the law's pad and fit. -/
import Derived.Test.YthafhmpbhhpfbaaDskR
namespace Go.Proofs.Ythafhmpbhhpfbaa
open Go.RowKit Go.Maps

attribute [local go_sem ↓] loadS_fold storeS_fold allocS_fold loadW_fold storeW_fold allocW_fold buildW_fold boxW_fold lookS_fold putS_fold sliceS_fold copyS_fold
attribute [local go_sem] loadS_has storeS_has allocS_run loadW_has storeW_has allocW_run buildW_run boxW_run lookS_has putS_has sliceS_all sliceS_k copyS_k

/-! ### two sectors -/
def u8L (zs : List Int) : List Lit := zs.map (Lit.int .u8)
theorem u8L_inj {xs ys : List Int} (h : u8L xs = u8L ys) : xs = ys := (List.map_inj_right (fun x y h => by injection h)).1 h
theorem keys64 {zs : List Int} (h : Sect zs) : Try.prog.keyLits 2 33 (u8V zs) = some (u8L zs) := by
  have hc : Try.prog.cellsOf 5 = 1 := by kernel_rfl
  unfold Program.keyLits
  rw [Try.underlying33]
  simp only
  rw [if_pos (by rw [u8V_length, h.1]; kernel_rfl)]
  have hlz : (u8L zs).length = 64 := by simp [u8L, h.1]
  rw [mapM_some _ (fun i => ((u8L zs).drop (i * 1)).take 1) _ (fun i hi => by
    have hi : i < 64 := by simpa using hi
    have hl : i < zs.length := by rw [h.1]; exact hi
    rw [hc]
    have e1 : ((u8V zs).drop (i * 1)).take 1 = [.int .u8 zs[i]] := by
      rw [Nat.mul_one, List.drop_eq_getElem_cons (by rw [u8V_length]; exact hl)]
      simp [u8V]
    have e2 : ((u8L zs).drop (i * 1)).take 1 = [.int .u8 zs[i]] := by
      rw [Nat.mul_one, List.drop_eq_getElem_cons (by rw [hlz]; exact hi)]
      simp [u8L]
    rw [e1, e2]
    have hw := h.2 zs[i] (List.getElem_mem _)
    simp [Program.keyLits, Try.underlying5, hw])]
  show some _ = _
  rw [flatten_chunks _ _ _ (by rw [hlz]; decide)]
  rw [List.take_of_length_le (by rw [hlz]; decide)]
def buildS (x : Array (Nat × Value)) : Sem Value := Instr.build 33 x
theorem buildS_fold (x : Array (Nat × Value)) : Instr.build 33 x = buildS x := rfl
theorem buildS_none (w : World) : (buildS #[]).run Try.prog w = .ok (secV zs64) w := run_build w _ _ _ (by kernel_rfl)
def eqS (x y : Value) : Sem Bool := Op.equalIn 10000 33 x y
theorem eqS_fold (x y : Value) : Op.equalIn 10000 33 x y = eqS x y := rfl
theorem eqS_run {xs ys : List Int} (hx : Sect xs) (hy : Sect ys) (w : World) : (eqS (secV xs) (secV ys)).run Try.prog w = .ok (decide (xs = ys)) w := by
  have hf : ∀ zs : List Int, Sect zs → (secV zs).formed Try.prog 33 = true := fun zs hz => by
    have hc : Try.prog.cellsOf 33 = 64 := by kernel_rfl
    simp [Value.formed, Try.underlying33, hc, u8V_length, hz.1]
  obtain ⟨r, hr, he⟩ := run_equalIn_deep (P := Try.prog) (10000 - 8) 8 33 (by kernel_rfl) w 2 2 _ _ _ _ (hf xs hx) (hf ys hy) (by simpa [Value.cells] using keys64 hx) (by simpa [Value.cells] using keys64 hy)
  rw [show 10000 - 8 + 8 = 10000 by omega] at hr
  unfold eqS
  rw [hr]
  congr 1
  rw [Bool.eq_iff_iff, he]
  simp only [decide_eq_true_eq]
  exact ⟨u8L_inj, fun h => by rw [h]⟩
/-! ### a sector's byte -/
def indexS (x y : Value) : Sem Value := Instr.index 33 x y
theorem indexS_fold (x y : Value) : Instr.index 33 x y = indexS x y := rfl
theorem indexS_0 {zs : List Int} (h : Sect zs) (w : World) : (indexS (secV zs) (.int .i64 0)).run Try.prog w = .ok (.int .u8 (zs.getD 0 0)) w := by
  obtain ⟨z, r, rfl⟩ : ∃ z r, zs = z :: r := by
    cases zs with
    | nil => exact absurd h.1 (by decide)
    | cons z r => exact ⟨_, _, rfl⟩
  simp [indexS, Instr.index, asIntOf, run_underlying Try.underlying33, part, isAgg, run_underlying Try.underlying5, u8V, Result.andThen]

set_option maxRecDepth 100000 in
set_option maxHeartbeats 4000000 in
theorem pad_runs (w : World) (A : Option Addr) (n c Bd : Nat) (zs : List Int) (hR : Reads w Bd 1 A n (u8V zs)) (hBd : Bd ≤ w.heap.size) (hn : n ≤ 64) (hz : ∀ z ∈ zs, (Lit.int .u8 z).wf = true) :
    Calls Try.prog 11 #[.slice A n c] w fun e w' => e = .returned (secV (padB zs)) ∧ Below w.heap.size w w' := by
  have hzl : zs.length = n := by have := hR.1; rw [u8V_length] at this; omega
  have hps : Sect (padB zs) := padB_sect (by omega) hz
  have hs1 : (w.alloc (.cells (u8V zs64).toArray 33)).heap.size = w.heap.size + 1 := by simp
  have hB1 : Below w.heap.size w ((w.alloc (.cells (u8V zs64).toArray 33)).alloc (.cells (u8V zs64).toArray 33)) := ((Below.refl _ w).alloc (Nat.le_refl _) _).alloc (by omega) _
  have h2 := (VBlk.new w 33 (u8V zs64)).alloc (.cells (u8V zs64).toArray 33)
  have h3 := VBlk.new (w.alloc (.cells (u8V zs64).toArray 33)) 33 (u8V zs64)
  rw [hs1] at h3
  have hR1 : Reads ((w.alloc (.cells (u8V zs64).toArray 33)).alloc (.cells (u8V zs64).toArray 33)) Bd 1 A n (u8V zs) := (hR.alloc hBd _).alloc (by omega) _
  go_enter Try.func11, Try.ntmps11
  go_upto_region 2 with fail
  generalize (w.alloc (.cells (u8V zs64).toArray 33)).alloc (.cells (u8V zs64).toArray 33) = w1 at *
  have hcp := copy_src (ty := 3) (c := c) hR1 hn (h3.room 0 64 (by decide))
  have h3' := pad_fill h3 (zs := zs) (by omega)
  have o3 := only_cells w1 (w.heap.size + 1) 0 (u8V zs)
  have h2' := h2.only o3 (by show ¬ w.heap.size = w.heap.size + 1; omega)
  have hB2 := below_only hB1 o3 (fun i (e : i = w.heap.size + 1) => by omega) hB1.size
  go_upto_region 3 with fail
  generalize w1.setCells (w.heap.size + 1) 0 (u8V zs) = w2 at *
  obtain ⟨rr, hh⟩ := h3'.whole hps.vlen
  have hr2 := h2'.room 0 64 (by decide)
  have hi : Is 64 (u8V (padB zs)) := ⟨hps.vlen, u8V_one _⟩
  have hz2 := h2'.fill (us := u8V (padB zs)) (by rw [hps.vlen]; rfl)
  have hB3 := below_only hB2 (only_cells w2 w.heap.size 0 (u8V (padB zs))) (fun i (e : i = w.heap.size) => by omega) hB2.size
  clear hcp hR1 h2 h3 hB1 o3
  generalize hbs : padB zs = bs at *
  go_wp2_with fail
  exact bodyPost_ret (results_v rfl hz2 hps.vlen Try.underlying33 rfl Try.info64 rfl) rfl ⟨by rw [hbs], hB3⟩

/-! ### fit -/
theorem Moved.below {w0 w w' : World} {B B' : Nat → Prop} (h : Moved B B' w w') (hb : Below w0.heap.size w0 w) (hB : ∀ b, B b → w0.heap.size ≤ b) : Below w0.heap.size w0 w' ∧ ∀ b, B' b → w0.heap.size ≤ b :=
  ⟨below_only hb h.2 hB hb.size, fun b hb' => (h.1 b hb').elim (hB b) fun e => by have := hb.size; omega⟩
attribute [local go_sem ↓] indexS_fold eqS_fold
attribute [local go_sem] indexS_0 eqS_run
set_option maxRecDepth 100000 in
set_option maxHeartbeats 8000000 in
theorem fit_runs (w : World) : Calls Try.prog 6 #[] w fun e w' => e = .returned (.bool true) ∧ Below w.heap.size w w' := by
  have s1 : wrtS 3 [7] newS = (0, ⟨fun _ => zs64, [(3, padB [7])], false, 0, false⟩) := by simp [wrtS, takS, newS]
  have s2 : readF (fun _ => zs64) [(3, padB [7])] 3 = padB [7] := rfl
  have s3 : craS 0 (-1) 0 ⟨fun _ => zs64, [(3, padB [7])], false, 0, false⟩ = newS := by
    have hb : bitOn 0 0 = false := by decide
    simp [craS, crashF, crashStep, hb, newS]
  have s4 : readF newS.f newS.ws 3 = zs64 := rfl
  have p7 : Sect (padB [7]) := padB_sect (by decide) (by decide)
  have q7 : (padB [7]).getD 0 0 = 7 := rfl
  have q0 : zs64.getD 0 0 = 0 := rfl
  have pz := sect_zs
  have k3 : Key 3 := rfl
  go_enter Try.func6, Try.ntmps6
  go_wp2_with fail
  (with_reducible refine (New_runs w).mono ?_)
  rintro e w1 ⟨d, B, rfl, hD, hB, hb⟩
  go_wp2_with fail
  (with_reducible refine (Write_runs (w1.alloc (.cells #[.int .u8 7] 5)) B d 0 newS 3 (some ⟨w1.heap.size, 0, none⟩) 1 1 (w1.heap.size + 1) [7] (hD.below ((Below.refl _ _).alloc (Nat.le_refl _) _)) (by decide) (by decide) (by decide) (reads_one _ _ _) (by simp) (fun _ ad e _ hB => by injection e with e; rw [← e] at hB; exact absurd (hD.lt _ hB) (Nat.lt_irrefl _)) (by decide) (by decide)).mono ?_)
  rintro e w2 ⟨rfl, B2, hD2, hm⟩
  rw [s1] at hD2 ⊢
  obtain ⟨hb2, hB2⟩ := hm.below (hb.alloc hb.size _) hB
  go_wp2_with fail
  (with_reducible refine (Read_runs w2 B2 d _ _ 3 hD2 (by decide) k3).mono ?_)
  rintro e w3 ⟨rfl, hb3⟩
  have hD3 := hD2.below hb3
  have hb4 := hb2.trans (hb3.mono hb2.size)
  rw [s2]
  go_wp2_with fail
  (with_reducible refine (Crash_runs w3 B2 d _ _ 0 (-1) 0 hD3 (by decide) (by decide) (by decide) (by decide) (by decide) (by decide) (by decide)).mono ?_)
  rintro e w4 ⟨⟨v, rfl⟩, hD4, ho4⟩
  rw [s3] at hD4
  have hb5 := below_only hb4 ho4 hB2 hb4.size
  go_wp2_with fail
  (with_reducible refine (Read_runs w4 B2 d _ _ 3 hD4 (by decide) k3).mono ?_)
  rintro e w5 ⟨rfl, hb6⟩
  have hD5 := hD4.below hb6
  have hb7 := hb5.trans (hb6.mono hb5.size)
  rw [s4]
  go_wp2_with fail
  (with_reducible refine (Waits_runs w5 B2 d _ _ hD5).mono ?_)
  rintro e w6 ⟨rfl, rfl⟩
  go_wp2_with fail
  go_ret
  exact ⟨rfl, hb7⟩
end Go.Proofs.Ythafhmpbhhpfbaa
