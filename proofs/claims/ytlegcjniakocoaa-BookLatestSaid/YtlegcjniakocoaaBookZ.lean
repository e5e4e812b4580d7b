/- Plain facts for BookLatest: the latest of rows whose versions differ; a map from numbers to what was seen. -/
import Derived.Test.YtlegcjniakocoaaBookL
import Derived.Maps.Own
import Derived.Maps.Views
namespace Go.Proofs.Ytlegcjniakocoaa
open Go.RowKit Go.Maps

/-! ### the latest row -/
def verB (zs : List Int) (i : Nat) : Int := (rowB zs i).getD 0 0
/-- Of the rows of S the latest that may be. -/
structure Best (zs : List Int) (S : Nat → Prop) (cur : List Int) : Prop where
  up : ∀ i, S i → okRow (rowB zs i) = true → verB zs i ≤ cur.getD 0 0
  is_ : cur = zeros 174 ∨ ∃ i, S i ∧ cur = rowB zs i ∧ okRow (rowB zs i) = true ∧ 0 < verB zs i
theorem best_none (zs : List Int) : Best zs (fun _ => False) (zeros 174) := ⟨fun _ h => h.elim, .inl rfl⟩
theorem Best.congr {zs : List Int} {S S' : Nat → Prop} {cur : List Int} (h : Best zs S cur) (e : ∀ i, S i ↔ S' i) : Best zs S' cur :=
  ⟨fun i hi ho => h.up i ((e i).2 hi) ho, h.is_.imp id fun ⟨i, hi, h⟩ => ⟨i, (e i).1 hi, h⟩⟩
theorem Best.step {zs bs : List Int} {n i : Nat} (hl : zs.length = n * 174) (hi : i < n) {S : Nat → Prop} (hok : BookOk bs) (h : Best zs S (rowB bs 2)) : Best zs (fun k => S k ∨ k = i) (rowB (mergeB bs 2 (rowB zs i)) 2) := by
  have hrl := rowB_len hl hi
  have h0 : 0 ≤ (rowB bs 2).getD 0 0 := okRow_v (hok.ok 2 (by omega))
  have e : newsB bs 2 (rowB zs i) = (okRow (rowB zs i) && decide ((rowB bs 2).getD 0 0 < verB zs i)) := by
    rw [newsB, show inK 2 5 = true from rfl]; rfl
  unfold mergeB
  rw [e]
  split
  · rename_i hn
    simp only [Bool.and_eq_true, decide_eq_true_eq] at hn
    rw [show ((2 : Int)).toNat = 2 from rfl, rowB_put hok.len hrl (by omega) (by omega), if_pos rfl]
    refine ⟨fun k hk ho => ?_, .inr ⟨i, .inr rfl, rfl, hn.1, by omega⟩⟩
    rcases hk with hk | rfl
    · have := h.up k hk ho
      show verB zs k ≤ verB zs i
      omega
    · exact Int.le_refl _
  · rename_i hn
    refine ⟨fun k hk ho => ?_, h.is_.imp id fun ⟨k, hk, r⟩ => ⟨k, .inl hk, r⟩⟩
    rcases hk with hk | rfl
    · exact h.up k hk ho
    · rw [ho] at hn
      simp only [Bool.true_and, decide_eq_true_eq] at hn
      omega
theorem Best.one {zs : List Int} {n : Nat} {a b : List Int} (hd : ∀ i j, i < n → j < n → verB zs i = verB zs j → i = j) (ha : Best zs (· < n) a) (hb : Best zs (· < n) b) : a = b := by
  have z0 : (zeros 174).getD 0 0 = 0 := rfl
  rcases ha.is_ with ea | ⟨i, hi, ea, oi, pi⟩
  · rcases hb.is_ with eb | ⟨j, hj, eb, oj, pj⟩
    · rw [ea, eb]
    · have := ha.up j hj oj
      rw [ea, z0] at this; omega
  · rcases hb.is_ with eb | ⟨j, hj, eb, oj, pj⟩
    · have := hb.up i hi oi
      rw [eb, z0] at this; omega
    · have h1 := ha.up j hj oj
      have h2 := hb.up i hi oi
      rw [ea] at h1
      rw [eb] at h2
      change verB zs j ≤ verB zs i at h1
      change verB zs i ≤ verB zs j at h2
      rw [ea, eb, hd i j hi hj (by omega)]
theorem Best.old {zs bs : List Int} {n i : Nat} (h : Best zs (· < n) (rowB bs 2)) (hi : i < n) : newsB bs 2 (rowB zs i) = false := by
  rw [newsB, show inK 2 5 = true from rfl, show ((2 : Int)).toNat = 2 from rfl]
  cases ho : okRow (rowB zs i) with
  | false => rfl
  | true =>
    have := h.up i hi ho
    simp only [Bool.true_and]
    exact decide_eq_false (by unfold verB at this; omega)

/-! ### what was seen -/
theorem Try.keyInt : Keyed Try.prog 3 := int_keyed Try.underlying3
theorem Try.zeroBool (w : World) : (zeroValue 4).run Try.prog w = .ok (.bool false) w := by kernel_rfl
theorem plainElem_bool_inv {P : Program} {e : TypeId} (he : P.underlying e = some .bool) {H : Type} {v : Value} {z : DataW H × List MemPlace} (h : plainElem P e v = some z) : ∃ x, v = .bool x ∧ z = (.lit (.bool x), []) := by
  unfold plainElem at h
  rw [he] at h
  cases v <;> simp at h
  rename_i x
  exact ⟨x, rfl, h.symm⟩
/-- A map that has true at just these numbers. -/
def Seen (w : World) (b n : Nat) (vs : List Int) : Prop :=
  ∃ D : DataW Unit, w.ownsMap Try.prog 3 (plainElem Try.prog 4) b n D ∧ IsMap D ∧ ∀ v, D.atKey (.int .i64 v) (.lit (.bool false)) = .lit (.bool (decide (v ∈ vs)))
theorem seen_made (w : World) : Seen (w.alloc (.map #[] 0)) w.heap.size 0 [] :=
  ⟨.map [], World.ownsMap_made w _ _ _, isMap_empty, fun v => by rw [atKey_of_not_has rfl]; rfl⟩
theorem Seen.grown {w w' : World} {b n : Nat} {vs : List Int} (h : Seen w b n vs) {row : Option Nat} (hg : w.grownBy w' row) (hne : some b ≠ row) : Seen w' b n vs := by
  obtain ⟨D, h1, h2, h3⟩ := h
  exact ⟨D, h1.kept hg hne, h2, h3⟩
theorem Seen.only {w w' : World} {b n : Nat} {vs : List Int} (h : Seen w b n vs) (hO : Only (fun _ => False) w w') : Seen w' b n vs :=
  h.grown (row := none) ⟨hO.os, hO.tape, hO.output, hO.size, fun k hk _ => hO.block k hk (fun h => h)⟩ (by simp)
theorem Seen.lt {w : World} {b n : Nat} {vs : List Int} (h : Seen w b n vs) : b < w.heap.size := by
  obtain ⟨D, h1, _⟩ := h
  exact h1.lt
theorem Seen.look {w : World} {b n : Nat} {vs : List Int} (h : Seen w b n vs) {v : Int} (hv : (Lit.int .i64 v).wf = true) : (Instr.lookup 48 (.map (some b)) (.int .i64 v) false).run Try.prog w = .ok (.bool (decide (v ∈ vs))) w := by
  obtain ⟨D, h1, _, h3⟩ := h
  obtain ⟨x, ps, hrun, hx⟩ := h1.lookup Try.keyInt Try.underlying48 (Try.zeroBool w) (plainElem_bool Try.underlying4 false) (keyOf_int_mk Try.underlying3 hv)
  obtain ⟨c, rfl, hc⟩ := plainElem_bool_inv Try.underlying4 hx
  rw [h3] at hc
  simp only [Prod.mk.injEq, DataW.lit.injEq, Lit.bool.injEq] at hc
  rw [hrun, hc.1]
theorem Seen.store {w : World} {b n : Nat} {vs : List Int} (h : Seen w b n vs) (hn : n < 1000) {v : Int} (hv : (Lit.int .i64 v).wf = true) :
    ∃ w', (Instr.mapUpdate 48 (.map (some b)) (.int .i64 v) (.bool true)).run Try.prog w = .ok () w' ∧ Seen w' b (n + 1) (vs ++ [v]) ∧ w.grownBy w' (some b) := by
  obtain ⟨D, h1, h2, h3⟩ := h
  obtain ⟨w', hrun, r1, r2⟩ := h1.update Try.keyInt Try.underlying48 (by unfold maxLen; omega) (keyOf_int_mk Try.underlying3 hv) (plainElem_bool Try.underlying4 true)
  refine ⟨w', hrun, ⟨_, r1, h2.put _ _, fun u => ?_⟩, r2⟩
  by_cases e : u = v
  · subst e
    rw [atKey_put_same h2 (by trivial)]
    simp
  · rw [atKey_put_other (by simpa using e), h3]
    simp [e]
end Go.Proofs.Ytlegcjniakocoaa
