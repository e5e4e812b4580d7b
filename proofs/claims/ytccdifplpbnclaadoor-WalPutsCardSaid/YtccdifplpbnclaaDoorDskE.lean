/- Sectors held against one another; a sector's byte. -/
import Derived.Test.YtccdifplpbnclaaDoorDskR
namespace Go.Proofs.YtccdifplpbnclaaDoor
open Go.RowKit Go.Maps

attribute [local go_sem ↓] loadS_fold storeS_fold allocS_fold loadW_fold storeW_fold allocW_fold buildW_fold boxW_fold lookS_fold putS_fold sliceS_fold copyS_fold
attribute [local go_sem] loadS_has storeS_has allocS_run loadW_has storeW_has allocW_run buildW_run boxW_run lookS_has putS_has sliceS_all sliceS_k copyS_k

/-! ### two sectors -/
def u8L (zs : List Int) : List Lit := zs.map (Lit.int .u8)
theorem u8L_inj {xs ys : List Int} (h : u8L xs = u8L ys) : xs = ys := (List.map_inj_right (fun x y h => by injection h)).1 h
theorem keys64 {zs : List Int} (h : Sect zs) : Tryd.prog.keyLits 2 61 (u8V zs) = some (u8L zs) := by
  have hc : Tryd.prog.cellsOf 5 = 1 := by kernel_rfl
  unfold Program.keyLits
  rw [Tryd.underlying61]
  simp only
  rw [if_pos (by rw [u8V_length, h.1]; kernel_rfl)]
  have hlz : (u8L zs).length = 64 := by simp [u8L, h.1]
  rw [mapM_some _ (fun i => ((u8L zs).drop (i * 1)).take 1) _ (fun i hi => by
    have hi : i < 64 := by simpa using hi
    have hl : i < zs.length := by rw [h.1]; exact hi
    rw [hc]
    have e1 : ((u8V zs).drop (i * 1)).take 1 = [.int .u8 zs[i]] := by
      rw [Nat.mul_one, List.drop_eq_getElem_cons (by rw [u8V_length]; exact hl)]
      simp [u8V]
    have e2 : ((u8L zs).drop (i * 1)).take 1 = [.int .u8 zs[i]] := by
      rw [Nat.mul_one, List.drop_eq_getElem_cons (by rw [hlz]; exact hi)]
      simp [u8L]
    rw [e1, e2]
    have hw := h.2 zs[i] (List.getElem_mem _)
    simp [Program.keyLits, Tryd.underlying5, hw])]
  show some _ = _
  rw [flatten_chunks _ _ _ (by rw [hlz]; decide)]
  rw [List.take_of_length_le (by rw [hlz]; decide)]
def buildS (x : Array (Nat × Value)) : Sem Value := Instr.build 61 x
theorem buildS_fold (x : Array (Nat × Value)) : Instr.build 61 x = buildS x := rfl
theorem buildS_none (w : World) : (buildS #[]).run Tryd.prog w = .ok (secV zs64) w := run_build w _ _ _ (by kernel_rfl)
def eqS (x y : Value) : Sem Bool := Op.equalIn 10000 61 x y
theorem eqS_fold (x y : Value) : Op.equalIn 10000 61 x y = eqS x y := rfl
theorem eqS_run {xs ys : List Int} (hx : Sect xs) (hy : Sect ys) (w : World) : (eqS (secV xs) (secV ys)).run Tryd.prog w = .ok (decide (xs = ys)) w := by
  have hf : ∀ zs : List Int, Sect zs → (secV zs).formed Tryd.prog 61 = true := fun zs hz => by
    have hc : Tryd.prog.cellsOf 61 = 64 := by kernel_rfl
    simp [Value.formed, Tryd.underlying61, hc, u8V_length, hz.1]
  obtain ⟨r, hr, he⟩ := run_equalIn_deep (P := Tryd.prog) (10000 - 8) 8 61 (by kernel_rfl) w 2 2 _ _ _ _ (hf xs hx) (hf ys hy) (by simpa [Value.cells] using keys64 hx) (by simpa [Value.cells] using keys64 hy)
  rw [show 10000 - 8 + 8 = 10000 by omega] at hr
  unfold eqS
  rw [hr]
  congr 1
  rw [Bool.eq_iff_iff, he]
  simp only [decide_eq_true_eq]
  exact ⟨u8L_inj, fun h => by rw [h]⟩
/-! ### a sector's byte -/
def indexS (x y : Value) : Sem Value := Instr.index 61 x y
theorem indexS_fold (x y : Value) : Instr.index 61 x y = indexS x y := rfl
theorem indexS_0 {zs : List Int} (h : Sect zs) (w : World) : (indexS (secV zs) (.int .i64 0)).run Tryd.prog w = .ok (.int .u8 (zs.getD 0 0)) w := by
  obtain ⟨z, r, rfl⟩ : ∃ z r, zs = z :: r := by
    cases zs with
    | nil => exact absurd h.1 (by decide)
    | cons z r => exact ⟨_, _, rfl⟩
  simp [indexS, Instr.index, asIntOf, run_underlying Tryd.underlying61, part, isAgg, run_underlying Tryd.underlying5, u8V, Result.andThen]
theorem Moved.below {w0 w w' : World} {B B' : Nat → Prop} (h : Moved B B' w w') (hb : Below w0.heap.size w0 w) (hB : ∀ b, B b → w0.heap.size ≤ b) : Below w0.heap.size w0 w' ∧ ∀ b, B' b → w0.heap.size ≤ b :=
  ⟨below_only hb h.2 hB hb.size, fun b hb' => (h.1 b hb').elim (hB b) fun e => by have := hb.size; omega⟩
end Go.Proofs.YtccdifplpbnclaaDoor
