/- A network's Len. -/
import Derived.Test.YteiaiicdemmcoaaDoorNetQ
namespace Go.Proofs.YteiaiicdemmcoaaDoor
open Go.RowKit Go.Conc

/-- How many are on the first so many ways. -/
def sumL (Fs : Nat → List Sl) : Nat → Nat
  | 0 => 0
  | k + 1 => sumL Fs k + if k % 6 ≠ 0 then (Fs k).length else 0
theorem sumL_le {Fs : Nat → List Sl} {k : Nat} (h : ∀ l, l < k → l % 6 ≠ 0 → (Fs l).length ≤ 8) : sumL Fs k ≤ 8 * k := by
  induction k with
  | zero => simp [sumL]
  | succ k ih =>
    have h1 := ih fun l hl hd => h l (by omega) hd
    rw [sumL]
    split
    · rename_i hd
      have := h k (by omega) hd
      omega
    · omega
theorem sumL_none (k : Nat) : sumL (fun _ => []) k = 0 := by
  induction k with
  | zero => rfl
  | succ k ih => rw [sumL, ih]; simp
theorem sumL_upd_ge (Fs : Nat → List Sl) (l : Nat) (Gs : List Sl) {k : Nat} (hk : k ≤ l) : sumL (upd Fs l Gs) k = sumL Fs k := by
  induction k with
  | zero => rfl
  | succ k ih => rw [sumL, sumL, ih (by omega), upd_ne _ _ (by omega)]
/-- What one way's change does to the sum. -/
theorem sumL_upd (Fs : Nat → List Sl) (l : Nat) (Gs : List Sl) (hd : l % 6 ≠ 0) {k : Nat} (hk : l < k) : sumL (upd Fs l Gs) k + (Fs l).length = sumL Fs k + Gs.length := by
  induction k with
  | zero => omega
  | succ k ih =>
    rw [sumL, sumL]
    by_cases e : k = l
    · subst e
      rw [sumL_upd_ge _ _ _ (Nat.le_refl _), upd_at, if_pos hd, if_pos hd]
      omega
    · have := ih (by omega)
      rw [upd_ne _ _ e]
      omega
/-! ### rows of ways by value, folded -/
theorem run_index_V {P : Program} {w : World} {t e : TypeId} {n : Nat} {d : TypeDesc} (ht : P.underlying t = some (.array n e)) (hu : P.underlying e = some d) (hd : d.isRow = true) {s : Nat} (hi : (P.info? e).map (·.size) = some s) (vs : List Value) (k : Nat) (hk : k < n) :
    (Instr.index t (.agg vs.toArray) (.int .i64 (k : Int))).run P w = .ok (.agg ((vs.drop (k * s)).take s).toArray) w := by
  cases hq : P.info? e with
  | none => simp [hq] at hi
  | some i =>
    have hs : i.size = s := by simpa [hq] using hi
    have hp : (part e vs.toArray (k * s)).run P w = .ok (.agg (vs.toArray.extract (k * s) (k * s + i.size))) w := by
      cases d <;> simp [part, isAgg, run_underlying hu, sizeOf, typeInfo, hq] at hd ⊢
    rw [hs] at hp
    have he : vs.toArray.extract (k * s) (k * s + s) = ((vs.drop (k * s)).take s).toArray := by
      apply Array.ext'
      rw [Array.toList_extract]
      simp [List.extract]
    simp [Instr.index, asIntOf, run_underlying ht, sizeOf, typeInfo, hq, hs, hk, hp, he]
theorem Tryd.infoW25 : (Tryd.prog.info? 47).map (·.size) = some 25 := by kernel_rfl
theorem Tryd.infoW5 : (Tryd.prog.info? 46).map (·.size) = some 5 := by kernel_rfl
def loadWW (x : Value) : Sem Value := Instr.loadAt 47 x
theorem loadWW_fold (x : Value) : Instr.loadAt 47 x = loadWW x := rfl
theorem loadWW_has {w : World} {b o : Nat} (h : HasRow w b o 25) : (loadWW (.pointer (some ⟨b, o, none⟩))).run Tryd.prog w = .ok (.agg (rowAt w b o 25)) w := run_loadAt_has Tryd.underlying47 rfl Tryd.infoW25 h
def loadW (x : Value) : Sem Value := Instr.loadAt 46 x
theorem loadW_fold (x : Value) : Instr.loadAt 46 x = loadW x := rfl
theorem loadW_has {w : World} {b o : Nat} (h : HasRow w b o 5) : (loadW (.pointer (some ⟨b, o, none⟩))).run Tryd.prog w = .ok (.agg (rowAt w b o 5)) w := run_loadAt_has Tryd.underlying46 rfl Tryd.infoW5 h
def storeW (x v : Value) : Sem Unit := Instr.storeAt 46 x v
theorem storeW_fold (x v : Value) : Instr.storeAt 46 x v = storeW x v := rfl
theorem storeW_has {w : World} {b o : Nat} {vs : List Value} (h : Room w b o 5) (hl : Is 5 vs) : (storeW (.pointer (some ⟨b, o, none⟩)) (.agg vs.toArray)).run Tryd.prog w = .ok () (w.setCells b o vs) := run_storeAt_v Tryd.infoW5 h hl
def zeroW : List Value := List.replicate 5 (.pointer none)
def allocW (b : Bool) (x : Value) : Sem Value := Instr.alloc 46 b x
theorem allocW_fold (b : Bool) (x : Value) : Instr.alloc 46 b x = allocW b x := rfl
theorem allocW_run (w : World) : (allocW true (.tuple #[])).run Tryd.prog w = .ok (.pointer (some ⟨w.heap.size, 0, none⟩)) (w.alloc (.cells zeroW.toArray 46)) := by kernel_rfl
def indexWW (x y : Value) : Sem Value := Instr.index 47 x y
theorem indexWW_fold (x y : Value) : Instr.index 47 x y = indexWW x y := rfl
theorem indexWW_at {vs : List Value} {k : Nat} (hk : k < 5) (w : World) : (indexWW (.agg vs.toArray) (.int .i64 (k : Int))).run Tryd.prog w = .ok (.agg ((vs.drop (k * 5)).take 5).toArray) w :=
  run_index_V Tryd.underlying47 Tryd.underlying46 rfl Tryd.infoW5 vs k hk
def indexW (x y : Value) : Sem Value := Instr.index 46 x y
theorem indexW_fold (x y : Value) : Instr.index 46 x y = indexW x y := rfl
theorem Tryd.indexW5 (l : List Value) (k : Nat) (hk : k < 5) (hl : l.length = 5) (w : World) : (Instr.index 46 (.agg l.toArray) (.int .i64 (k : Int))).run Tryd.prog w = .ok (l.getD k undef) w := by
  obtain ⟨a, b, c, d, e, rfl⟩ : ∃ a b c d e, l = [a, b, c, d, e] := by
    match l, hl with
    | [a, b, c, d, e], _ => exact ⟨_, _, _, _, _, rfl⟩
  rcases (by omega : k = 0 ∨ k = 1 ∨ k = 2 ∨ k = 3 ∨ k = 4) with rfl | rfl | rfl | rfl | rfl
  all_goals simp [Instr.index, asIntOf, run_underlying Tryd.underlying46, part, isAgg, run_underlying Tryd.underlying45]
theorem indexW_at {vs : List Value} {k : Nat} (hk : k < 5) (hl : Is 5 vs) (w : World) : (indexW (.agg vs.toArray) (.int .i64 (k : Int))).run Tryd.prog w = .ok (vs.getD k undef) w := Tryd.indexW5 vs k hk hl.1 w
attribute [local go_sem ↓] loadWW_fold loadW_fold storeW_fold allocW_fold indexWW_fold indexW_fold
attribute [local go_sem] loadWW_has loadW_has storeW_has allocW_run indexWW_at indexW_at
section
variable {w : World} {Q : Nat → Prop} {B b : Nat} {P C : Nat → Nat} {Fs : Nat → List Sl}
set_option maxRecDepth 100000 in
set_option maxHeartbeats 4000000 in
theorem lenN_any (h : NetAt w Q B b P C 25 Fs) : Calls Tryd.prog 14 #[.pointer (some ⟨b, 0, none⟩)] w fun e w' => e = .returned (.int .i64 (sumL Fs 25 : Int)) ∧ Below w.heap.size w w' := by
  obtain ⟨r0, h0⟩ := h.blk.whole (netV_length P 25)
  have hle : ∀ k, k ≤ 25 → sumL Fs k ≤ 200 := fun k hk => by
    have := sumL_le (Fs := Fs) (k := k) fun l hl hd => (h.box l (by omega) hd).le
    omega
  have HL := hide hle
  clear hle
  go_enter Tryd.func14, Tryd.ntmps14
  go_upto_region 3 with fail
  clear r0 h0
  go_loopw [3, 12] (fun s3 s12 wr => ∃ i : Nat, i ≤ 5 ∧ s3 = .int .i64 (sumL Fs (i * 5)) ∧ s12 = .int .i64 i ∧ Below w.heap.size w wr) (fun _ s12 _ => 5 - (intOf s12).toNat)
  case atStart => exact ⟨0, by omega, rfl, rfl, Below.refl _ _⟩
  case round =>
    obtain ⟨i, hi, rfl, rfl, hB⟩ := hrel
    by_cases hi5 : i < 5
    · have di : (i : Int) < 5 := by omega
      have hr : Is 5 (((netV P 25).drop (i * 5)).take 5) := ⟨by rw [List.length_take, List.length_drop, netV_length]; omega, fun v hv => netV_one P 25 v (List.mem_of_mem_drop (List.mem_of_mem_take hv))⟩
      have hat : ∀ j, j < 5 → (((netV P 25).drop (i * 5)).take 5).getD j undef = wayV P 25 (i * 5 + j) := fun j hj => by
        rw [List.getD_eq_getElem?_getD, List.getElem?_take, if_pos hj, List.getElem?_drop, netV_at P 25 (by omega)]
        rfl
      have ha := VBlk.new wr 46 zeroW
      have hrm := ha.room 0 5 (by decide)
      have hf := ha.fill (us := ((netV P 25).drop (i * 5)).take 5) (by rw [hr.1]; rfl)
      obtain ⟨f1, f2⟩ := hf.whole hr.1
      have hB0 : Below wr.heap.size wr (wr.alloc (.cells zeroW.toArray 46)) := (Below.refl _ _).alloc (Nat.le_refl _) _
      have hBf : Below wr.heap.size wr ((wr.alloc (.cells zeroW.toArray 46)).setCells wr.heap.size 0 (((netV P 25).drop (i * 5)).take 5)) := below_only hB0 (only_cells _ _ _ _) (fun i (e : i = wr.heap.size) => by omega) hB0.size
      have hB1 := hB.trans (hBf.mono hB.size)
      have hl5 := HL.out (i * 5) (by omega)
      clear hBf hB0 ha hf hB
      go_upto_region 6 with fail
      clear f1 f2 hrm
      generalize (wr.alloc (.cells zeroW.toArray 46)).setCells wr.heap.size 0 (((netV P 25).drop (i * 5)).take 5) = wb at *
      generalize wr.heap.size = g at *
      generalize ((netV P 25).drop (i * 5)).take 5 = vs at *
      go_loopw [3, 16] (fun s3 s16 wr => ∃ j : Nat, j ≤ 5 ∧ s3 = .int .i64 (sumL Fs (i * 5 + j)) ∧ s16 = .int .i64 j ∧ wb = wr) (fun _ s16 _ => 5 - (intOf s16).toNat)
      case atStart => exact ⟨0, by omega, rfl, rfl, rfl⟩
      case round =>
        obtain ⟨j, hj, rfl, rfl, rfl⟩ := hrel
        by_cases hj5 : j < 5
        · have dj : (j : Int) < 5 := by omega
          have hv := hat j hj5
          rw [List.getD_eq_getElem?_getD] at hv
          have hl6 := HL.out (i * 5 + j) (by omega)
          have hl7 := HL.out (i * 5 + (j + 1)) (by omega)
          by_cases hd : (i * 5 + j) % 6 = 0
          · have hw : wayV P 25 (i * 5 + j) = .pointer none := if_neg (by omega)
            have HS : Hid (sumL Fs (i * 5 + (j + 1)) = sumL Fs (i * 5 + j)) := hide (by rw [← Nat.add_assoc, sumL, if_neg (by omega)]; rfl)
            rw [hw] at hv
            clear hw
            go_wp2_with fail
            go_roundw
            case rel => go_light; exact ⟨j + 1, by omega, by rw [HS.out], by go_num, trivial⟩
            case measure => go_light; simp [intOf]; omega
          · have hw : wayV P 25 (i * 5 + j) = .pointer (some ⟨P (i * 5 + j), 0, none⟩) := if_pos (by omega)
            have HS : Hid (sumL Fs (i * 5 + (j + 1)) = sumL Fs (i * 5 + j) + (Fs (i * 5 + j)).length) := hide (by rw [← Nat.add_assoc, sumL, if_pos (by omega)])
            have hL := Len_runs _ Q _ _ 8 _ ((h.below hB1).box (i * 5 + j) (by omega) hd)
            have hle := (h.box (i * 5 + j) (by omega) hd).le
            rw [hw] at hv
            clear hw
            generalize hq : (Fs (i * 5 + j)).length = q at *
            go_wp2_with fail
            (with_reducible refine hL.mono ?_)
            rintro x wx ⟨rfl, rfl⟩
            clear hL
            go_wp2_with fail
            go_roundw
            case rel => go_light; exact ⟨j + 1, by omega, by rw [HS.out]; go_num, by go_num, trivial⟩
            case measure => go_light; simp [intOf]; omega
        · obtain rfl : j = 5 := by omega
          go_wp2_with fail
          go_roundw
          case rel => go_light; exact ⟨i + 1, by omega, by rw [show (i + 1) * 5 = i * 5 + 5 by omega], by go_num, hB1⟩
          case measure => go_light; simp [intOf]; omega
    · obtain rfl : i = 5 := by omega
      go_wp2_with fail
      go_ret
      exact ⟨rfl, hB⟩
end
end Go.Proofs.YteiaiicdemmcoaaDoor
