/- An argument that is a slice of slices of bytes: opened to its bytes. -/
import Derived.Test.YtfcoeopemgcjlaaCell
import Derived.Test.YtfcoeopemgcjlaaLawStep
import Derived.Deep.Slices
import Derived.ChangeSlices
namespace Go.Proofs.Ytfcoeopemgcjlaa
open Go.ChangeShapes Go.WideShapes Go.ChangeAt Go.RowKit

/-- A slice of bytes: where it lies, how long it is, what it could hold, its bytes. -/
structure Sl where
  A : Option Addr
  n : Nat
  c : Nat
  zs : List Int
/-- It reads as its bytes. -/
structure SlIn (w : World) (B : Nat) (s : Sl) : Prop where
  reads : Reads w B 1 s.A s.n (u8V s.zs)
  n_le : s.n ≤ s.c
  c_le : s.c ≤ maxLen
  wf : ∀ z ∈ s.zs, (Lit.int .u8 z).wf = true
theorem SlIn.keep {w w' : World} {B : Nat} {s : Sl} (h : SlIn w B s) (hb : Below B w w') : SlIn w' B s := ⟨h.reads.below hb, h.n_le, h.c_le, h.wf⟩
theorem SlIn.len {w : World} {B : Nat} {s : Sl} (h : SlIn w B s) : s.zs.length = s.n := by have := h.reads.1; rw [u8V_length] at this; omega
section
variable {H : Type} {enc : TypeId × Value → H} {P : Program}
/-- A slice of bytes, out of its cell. -/
theorem sl_of {W : World} {t e : TypeId} {v : Value} {d : DataW H} {p : List MemPlace} {fuel : Nat} (ht : P.underlying t = some (.slice e)) (he : P.underlying e = some (.int .u8)) (hc : P.cellsOf e = 1)
    (h : DataW.trod enc P W 0 (fun _ => true) true fuel t [v] = some (d, p)) (hlt : ∀ x ∈ p, x.block < W.heap.size) : ∃ s : Sl, v = .slice s.A s.n s.c ∧ SlIn W W.heap.size s := by
  rcases open_ints ht he hc h with ⟨hcs, hx⟩ | ⟨a, len, cap, zs, hcs, _, hl, hm, hz, hx, hcell, hwz⟩
  · injection hcs with hcs
    exact ⟨⟨none, 0, 0, []⟩, hcs, ⟨Reads.none_, Nat.le_refl _, Nat.zero_le _, by simp⟩⟩
  · injection hcs with hcs
    simp only [if_true] at hz
    simp only [Prod.mk.injEq] at hx
    obtain ⟨rfl, rfl⟩ := hx
    refine ⟨⟨some a, len, cap, zs.take len⟩, hcs, ⟨⟨by simp [u8V]; omega, fun hn => ⟨a, rfl, ?_, fun j u hu => ?_⟩⟩, hl, hm, fun z hz' => hwz z (List.mem_of_mem_take hz')⟩⟩
    · have hn : 0 < len := hn
      exact hlt (.cell a.block a.off) (MemPlace.mem_row.2 ⟨0, by omega, by simp⟩)
    · unfold u8V at hu
      rw [List.getElem?_map, List.getElem?_take] at hu
      split at hu
      · rename_i hj
        have hjz : j < zs.length := by omega
        rw [List.getElem?_eq_getElem hjz] at hu
        simp only [Option.map_some, Option.some.injEq] at hu
        rw [hcell j hjz, ← hu]
        simp [List.getD, hjz]
      · simp at hu
/-- Slices that lie one behind the other. -/
structure Sls (w : World) (B : Nat) (A : Option Addr) (n : Nat) (F : Nat → Sl) : Prop where
  at_ : 0 < n → ∃ b off, A = some ⟨b, off, none⟩ ∧ b < B ∧ ∀ i, i < n → w.cell? ⟨b, off + i, none⟩ = some (.slice (F i).A (F i).n (F i).c)
  each : ∀ i, i < n → SlIn w B (F i)
theorem Sls.keep {w w' : World} {B n : Nat} {A : Option Addr} {F : Nat → Sl} (h : Sls w B A n F) (hb : Below B w w') : Sls w' B A n F :=
  ⟨fun hn => by
    obtain ⟨b, off, e, hbl, hc⟩ := h.at_ hn
    exact ⟨b, off, e, hbl, fun i hi => (hb.cell (p := ⟨b, off + i, none⟩) hbl).trans (hc i hi)⟩, fun i hi => (h.each i hi).keep hb⟩
theorem open_sls {W : World} {base : Nat} {t e k : TypeId} {v : Value} {d : DataW H} {p : List MemPlace} (ht : P.underlying t = some (.slice e)) (he : P.underlying e = some (.slice k)) (hk : P.underlying k = some (.int .u8)) (hc1 : P.cellsOf e = 1) (hc2 : P.cellsOf k = 1)
    (hv : Value.okWide P W .any base t v) (h : DataW.Trod enc P W 0 (fun _ => true) true t v d p) (hlt : ∀ x ∈ p, x.block < W.heap.size) :
    ∃ (A : Option Addr) (n c : Nat) (F : Nat → Sl), v = .slice A n c ∧ Sls W W.heap.size A n F ∧ n ≤ c ∧ c ≤ maxLen := by
  obtain ⟨A, len, cap, rfl⟩ := okWide_slice ht hv
  obtain ⟨fuel, hf⟩ := h
  rcases Deep.open_slice1 ht hc1 hf with ⟨hcs, hx⟩ | ⟨a, len', cap', m, q, V, D, Pl, hcs, _, hl, hm, hmm, hx, hcell⟩
  · simp [Value.cells] at hcs
    obtain ⟨rfl, rfl, rfl⟩ := hcs
    exact ⟨none, 0, 0, fun _ => ⟨none, 0, 0, []⟩, rfl, ⟨fun h => by omega, fun i hi => by omega⟩, Nat.le_refl _, Nat.zero_le _⟩
  · simp [Value.cells] at hcs
    obtain ⟨rfl, rfl, rfl⟩ := hcs
    simp only [if_true] at hmm
    subst hmm
    simp only [Prod.mk.injEq] at hx
    obtain ⟨rfl, rfl⟩ := hx
    have each : ∀ i, ∃ s : Sl, i < m → W.cell? (a.add i) = some (.slice s.A s.n s.c) ∧ SlIn W W.heap.size s := by
      intro i
      by_cases hi : i < m
      · obtain ⟨h1, h2⟩ := hcell i hi
        obtain ⟨s, hs, hin⟩ := sl_of he hk hc2 h2 (fun x hx => hlt x (List.mem_append_right _ (List.mem_flatMap.2 ⟨i, by simpa using hi, hx⟩)))
        exact ⟨s, fun _ => ⟨by rw [h1, hs], hin⟩⟩
      · exact ⟨⟨none, 0, 0, []⟩, fun h => absurd h hi⟩
    have hF := fun i => Classical.choose_spec (each i)
    refine ⟨some a, len, m, fun i => Classical.choose (each i), rfl, ⟨fun hn => ?_, fun i hi => (hF i (by omega)).2⟩, hl, hm⟩
    obtain ⟨b, off, spot⟩ := a
    have h0 := (hF 0 (by omega)).1
    have hsp : spot = none := by simpa [Addr.add] using World.cell?_spot h0
    subst hsp
    refine ⟨b, off, rfl, hlt (.cell b off) (List.mem_append_left _ (MemPlace.mem_row.2 ⟨0, by omega, by simp⟩)), fun i hi => ?_⟩
    rw [← Go.WideShapes.add_plain]
    exact (hF i (by omega)).1
end
end Go.Proofs.Ytfcoeopemgcjlaa
