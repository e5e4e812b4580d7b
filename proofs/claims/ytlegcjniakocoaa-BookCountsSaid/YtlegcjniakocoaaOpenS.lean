/- An argument that is a slice of rows: opened to its integers. -/
import Derived.Test.YtlegcjniakocoaaBookF
import Derived.Test.YtlegcjniakocoaaLawStep
import Derived.Deep.Slices
namespace Go.Proofs.Ytlegcjniakocoaa
open Go.ChangeShapes Go.WideShapes Go.ChangeAt Go.RowKit

section
variable {H : Type} {enc : TypeId × Value → H} {P : Program}
def intOfCell (w : World) (p : Addr) : Int := match w.cell? p with | some (.int _ z) => z | _ => 0
theorem open_rows {W : World} {base : Nat} {t e : TypeId} {v : Value} {d : DataW H} {p : List MemPlace} (ht : P.underlying t = some (.slice e)) (hc : P.cellsOf e = 174) (ho : Opens enc P W 0 (fun _ => true) true e)
    (hv : Value.okWide P W .any base t v) (h : DataW.Trod enc P W 0 (fun _ => true) true t v d p) (hlt : ∀ x ∈ p, x.block < W.heap.size) :
    ∃ (A : Option Addr) (n c : Nat) (zs : List Int), v = .slice A n c ∧ RowsIn W W.heap.size A n zs ∧ n ≤ c ∧ c ≤ maxLen := by
  obtain ⟨A, len, cap, rfl⟩ := okWide_slice ht hv
  obtain ⟨fuel, hf⟩ := h
  rcases Deep.open_slice ht hf with ⟨hcs, hx⟩ | ⟨a, len', cap', m, k, D, Pl, hcs, _, hl, hm, hmm, hx, hcell⟩
  · simp [Value.cells] at hcs
    obtain ⟨rfl, rfl, rfl⟩ := hcs
    exact ⟨none, 0, 0, [], rfl, ⟨rfl, by simp [wf64], fun h => by omega⟩, Nat.le_refl _, Nat.zero_le _⟩
  · simp [Value.cells] at hcs
    obtain ⟨rfl, rfl, rfl⟩ := hcs
    simp only [if_true] at hmm
    subst hmm
    simp only [Prod.mk.injEq] at hx
    obtain ⟨rfl, rfl⟩ := hx
    rw [hc] at hcell hlt
    have each : ∀ i, i < m → ∀ j, j < 174 → ∃ z, W.cell? (a.add (i * 174 + j)) = some (.int .i64 z) ∧ (Lit.int .i64 z).wf = true := by
      intro i hi j hj
      obtain ⟨cs', h1, h2⟩ := hcell i hi
      obtain ⟨_, hlen, hat⟩ := World.cells?_some h1
      have ha := ho _ _ _ h2
      obtain ⟨z, hz, hw⟩ := ha cs'[j] (List.getElem_mem _)
      refine ⟨z, ?_, hw⟩
      rw [← add_of_add, hat j hj, List.getElem?_eq_getElem (by omega), hz]
    rcases Nat.eq_zero_or_pos len with h0 | h0
    · subst h0
      exact ⟨some a, 0, m, [], rfl, ⟨rfl, by simp [wf64], fun h => by omega⟩, hl, hm⟩
    · obtain ⟨b, off, spot⟩ := a
      obtain ⟨z0, hz0, _⟩ := each 0 (by omega) 0 (by omega)
      have hsp : spot = none := by simpa [Addr.add] using World.cell?_spot hz0
      subst hsp
      have hbl : b < W.heap.size := hlt (.cell b off) (List.mem_append_left _ (MemPlace.mem_row.2 ⟨0, by omega, by simp⟩))
      have all : ∀ j, j < len * 174 → ∃ z, W.cell? ⟨b, off + j, none⟩ = some (.int .i64 z) ∧ (Lit.int .i64 z).wf = true := by
        intro j hj
        have hq : j / 174 < len := by rw [Nat.div_lt_iff_lt_mul (by omega)]; exact hj
        obtain ⟨z, hz, hw⟩ := each (j / 174) (by omega) (j % 174) (Nat.mod_lt _ (by omega))
        refine ⟨z, ?_, hw⟩
        rw [← Go.WideShapes.add_plain, show j = j / 174 * 174 + j % 174 by omega]
        exact hz
      refine ⟨_, len, m, (List.range (len * 174)).map (fun j => intOfCell W ⟨b, off + j, none⟩), rfl, ⟨by simp, ?_, fun _ => ⟨b, off, rfl, hbl, fun j hj => ?_⟩⟩, hl, hm⟩
      · intro y hy
        obtain ⟨j, hj, rfl⟩ := List.mem_map.1 hy
        obtain ⟨z, hz, hw⟩ := all j (by simpa using hj)
        unfold intOfCell
        rw [hz]
        exact hw
      · obtain ⟨z, hz, hw⟩ := all j hj
        rw [hz]
        simp [List.getD, hj, intOfCell, hz]
end
end Go.Proofs.Ytlegcjniakocoaa
