/- A slice of structs of integers alone, so many each: in memory; an argument, opened. -/
import Derived.Test.YtoknodkgmeinmaaAggZ
import Derived.Test.YtoknodkgmeinmaaOpens
import Derived.Test.YtoknodkgmeinmaaLawStep
import Derived.Deep.Slices
namespace Go.Proofs.Ytoknodkgmeinmaa
open Go.ChangeShapes Go.WideShapes Go.ChangeAt Go.RowKit

structure IntsIn (w : World) (B s : Nat) (A : Option Addr) (n : Nat) (zs : List Int) : Prop where
  len : zs.length = n * s
  wf : wf64 zs
  at_ : 0 < n → ∃ b off, A = some ⟨b, off, none⟩ ∧ b < B ∧ ∀ j, j < n * s → w.cell? ⟨b, off + j, none⟩ = some (.int .i64 (zs.getD j 0))
/-- One of them. -/
def oneZ (s : Nat) (zs : List Int) (i : Nat) : List Int := (zs.drop (i * s)).take s
section
variable {w w' : World} {B s n : Nat} {A : Option Addr} {zs : List Int}
theorem IntsIn.below (h : IntsIn w B s A n zs) {B' : Nat} (hx : Below B' w w') (hB : B ≤ B') : IntsIn w' B s A n zs :=
  ⟨h.len, h.wf, fun hn => by
    obtain ⟨b, off, e, hb, hc⟩ := h.at_ hn
    exact ⟨b, off, e, hb, fun j hj => (hx.cell (by show b < B'; omega)).trans (hc j hj)⟩⟩
theorem IntsIn.wide (h : IntsIn w B s A n zs) {B' : Nat} (hB : B ≤ B') : IntsIn w B' s A n zs :=
  ⟨h.len, h.wf, fun hn => by
    obtain ⟨b, off, e, hb, hc⟩ := h.at_ hn
    exact ⟨b, off, e, Nat.lt_of_lt_of_le hb hB, hc⟩⟩
theorem IntsIn.drew (h : IntsIn w B s A n zs) : IntsIn w.drew B s A n zs := ⟨h.len, h.wf, h.at_⟩
theorem IntsIn.fits (h : IntsIn w B s A n zs) {i : Nat} (hi : i < n) : i * s + s ≤ zs.length := by
  rw [h.len, ← Nat.succ_mul]; exact Nat.mul_le_mul_right _ hi
theorem IntsIn.one (h : IntsIn w B s A n zs) {i : Nat} (hi : i < n) : (oneZ s zs i).length = s ∧ wf64 (oneZ s zs i) := by
  have := h.fits hi
  exact ⟨by rw [oneZ, List.length_take, List.length_drop]; omega, wf64_chunk h.wf _ _⟩
theorem IntsIn.got (h : IntsIn w B s A n zs) {b off : Nat} (hA : A = some ⟨b, off, none⟩) {i : Nat} (hi : i < n) : rowAt w b (off + i * s) s = iA (oneZ s zs i) ∧ HasRow w b (off + i * s) s := by
  obtain ⟨b', off', e, _, hc⟩ := h.at_ (by omega)
  rw [hA] at e
  injection e with e
  injection e with e1 e2
  subst e1
  subst e2
  have hf := h.fits hi
  have hl := h.len
  have hc' : ∀ j, j < s → w.cell? ⟨b, off + i * s + j, none⟩ = some (.int .i64 (zs.getD (i * s + j) 0)) := fun j hj => by
    rw [Nat.add_assoc]
    exact hc (i * s + j) (by omega)
  refine ⟨?_, fun j hj => by rw [hc' j hj]; rfl⟩
  unfold rowAt iA
  congr 1
  apply List.ext_getElem
  · rw [iV_length, (h.one hi).1]; simp
  · intro j h1 h2
    have hj : j < s := by simpa using h1
    simp only [List.getElem_map, List.getElem_range]
    rw [hc' j hj]
    simp [iV, oneZ, List.getD, show i * s + j < zs.length by omega]
end
section
variable {H : Type} {enc : TypeId × Value → H} {P : Program}
def intAtP (w : World) (p : Addr) : Int := match w.cell? p with | some (.int _ z) => z | _ => 0
theorem open_intsIn {W : World} {base s : Nat} {t e : TypeId} {v : Value} {d : DataW H} {p : List MemPlace} (ht : P.underlying t = some (.slice e)) (hc : P.cellsOf e = s) (hs : 0 < s) (ho : Opens enc P W 0 (fun _ => true) true e)
    (hv : Value.okWide P W .any base t v) (h : DataW.Trod enc P W 0 (fun _ => true) true t v d p) (hlt : ∀ x ∈ p, x.block < W.heap.size) :
    ∃ (A : Option Addr) (n c : Nat) (zs : List Int), v = .slice A n c ∧ IntsIn W W.heap.size s A n zs ∧ n ≤ c ∧ c ≤ maxLen := by
  obtain ⟨A, len, cap, rfl⟩ := okWide_slice ht hv
  obtain ⟨fuel, hf⟩ := h
  rcases Deep.open_slice ht hf with ⟨hcs, hx⟩ | ⟨a, len', cap', m, k, D, Pl, hcs, _, hl, hm, hmm, hx, hcell⟩
  · simp [Value.cells] at hcs
    obtain ⟨rfl, rfl, rfl⟩ := hcs
    exact ⟨none, 0, 0, [], rfl, ⟨by simp, by simp [wf64], fun h => by omega⟩, Nat.le_refl _, Nat.zero_le _⟩
  · simp [Value.cells] at hcs
    obtain ⟨rfl, rfl, rfl⟩ := hcs
    simp only [if_true] at hmm
    subst hmm
    simp only [Prod.mk.injEq] at hx
    obtain ⟨rfl, rfl⟩ := hx
    rw [hc] at hcell hlt
    have each : ∀ i, i < m → ∀ j, j < s → ∃ z, W.cell? (a.add (i * s + j)) = some (.int .i64 z) ∧ (Lit.int .i64 z).wf = true := by
      intro i hi j hj
      obtain ⟨cs', h1, h2⟩ := hcell i hi
      obtain ⟨_, hlen, hat⟩ := World.cells?_some h1
      have ha := ho _ _ _ h2
      obtain ⟨z, hz, hw⟩ := ha cs'[j] (List.getElem_mem _)
      refine ⟨z, ?_, hw⟩
      rw [← add_of_add, hat j hj, List.getElem?_eq_getElem (by omega), hz]
    rcases Nat.eq_zero_or_pos len with h0 | h0
    · subst h0
      exact ⟨some a, 0, m, [], rfl, ⟨by simp, by simp [wf64], fun h => by omega⟩, hl, hm⟩
    · obtain ⟨b, off, spot⟩ := a
      obtain ⟨z0, hz0, _⟩ := each 0 (by omega) 0 hs
      have hsp : spot = none := by simpa [Addr.add] using World.cell?_spot hz0
      subst hsp
      have hms : 0 < m * s := Nat.mul_pos (by omega) hs
      have hbl : b < W.heap.size := hlt (.cell b off) (List.mem_append_left _ (MemPlace.mem_row.2 ⟨0, by omega, by simp⟩))
      have all : ∀ j, j < len * s → ∃ z, W.cell? ⟨b, off + j, none⟩ = some (.int .i64 z) ∧ (Lit.int .i64 z).wf = true := by
        intro j hj
        have hq : j / s < len := by rw [Nat.div_lt_iff_lt_mul hs]; exact hj
        obtain ⟨z, hz, hw⟩ := each (j / s) (by omega) (j % s) (Nat.mod_lt _ hs)
        refine ⟨z, ?_, hw⟩
        rw [← Go.WideShapes.add_plain, show j = j / s * s + j % s by rw [Nat.mul_comm]; exact (Nat.div_add_mod j s).symm]
        exact hz
      refine ⟨_, len, m, (List.range (len * s)).map (fun j => intAtP W ⟨b, off + j, none⟩), rfl, ⟨by simp, ?_, fun _ => ⟨b, off, rfl, hbl, fun j hj => ?_⟩⟩, hl, hm⟩
      · intro y hy
        obtain ⟨j, hj, rfl⟩ := List.mem_map.1 hy
        obtain ⟨z, hz, hw⟩ := all j (by simpa using hj)
        unfold intAtP
        rw [hz]
        exact hw
      · obtain ⟨z, hz, hw⟩ := all j hj
        rw [hz]
        simp [List.getD, hj, intAtP, hz]
end
end Go.Proofs.Ytoknodkgmeinmaa
