/- An argument that is a slice of slices of slices of bytes: opened to its bytes. -/
import Derived.Test.YtccdifplpbnclaaDoorOpenB
namespace Go.Proofs.YtccdifplpbnclaaDoor
open Go.ChangeShapes Go.WideShapes Go.ChangeAt Go.RowKit

/-- A slice of slices of bytes. -/
structure Sl2 where
  A : Option Addr
  n : Nat
  c : Nat
  F : Nat → Sl
structure Sl2In (w : World) (B : Nat) (s : Sl2) : Prop where
  sls : Sls w B s.A s.n s.F
  n_le : s.n ≤ s.c
  c_le : s.c ≤ maxLen
theorem Sl2In.keep {w w' : World} {B : Nat} {s : Sl2} (h : Sl2In w B s) (hb : Below B w w') : Sl2In w' B s := ⟨h.sls.keep hb, h.n_le, h.c_le⟩
section
variable {H : Type} {enc : TypeId × Value → H} {P : Program}
/-- A slice of slices of bytes, out of its cell. -/
theorem sl2_of {W : World} {t e k : TypeId} {v : Value} {d : DataW H} {p : List MemPlace} {fuel : Nat} (ht : P.underlying t = some (.slice e)) (he : P.underlying e = some (.slice k)) (hk : P.underlying k = some (.int .u8)) (hc1 : P.cellsOf e = 1) (hc2 : P.cellsOf k = 1)
    (h : DataW.trod enc P W 0 (fun _ => true) true fuel t [v] = some (d, p)) (hlt : ∀ x ∈ p, x.block < W.heap.size) : ∃ s : Sl2, v = .slice s.A s.n s.c ∧ Sl2In W W.heap.size s := by
  rcases Deep.open_slice1 ht hc1 h with ⟨hcs, hx⟩ | ⟨a, len, m', m, q, V, D, Pl, hcs, _, hl, hm, hmm, hx, hcell⟩
  · injection hcs with hcs
    exact ⟨⟨none, 0, 0, fun _ => ⟨none, 0, 0, []⟩⟩, hcs, ⟨fun h => absurd h (Nat.lt_irrefl 0), fun i hi => absurd hi (Nat.not_lt_zero i)⟩, Nat.le_refl _, Nat.zero_le _⟩
  · injection hcs with hcs
    simp only [if_true] at hmm
    subst hmm
    simp only [Prod.mk.injEq] at hx
    obtain ⟨rfl, rfl⟩ := hx
    have each : ∀ i, ∃ s : Sl, i < m → W.cell? (a.add i) = some (.slice s.A s.n s.c) ∧ SlIn W W.heap.size s := by
      intro i
      by_cases hi : i < m
      · obtain ⟨h1, h2⟩ := hcell i hi
        obtain ⟨s, hs, hin⟩ := sl_of he hk hc2 h2 (fun x hx => hlt x (List.mem_append_right _ (List.mem_flatMap.2 ⟨i, by simpa using hi, hx⟩)))
        exact ⟨s, fun _ => ⟨by rw [h1, hs], hin⟩⟩
      · exact ⟨⟨none, 0, 0, []⟩, fun h => absurd h hi⟩
    have hF := fun i => Classical.choose_spec (each i)
    refine ⟨⟨some a, len, m, fun i => Classical.choose (each i)⟩, hcs, ⟨fun hn => ?_, fun i hi => (hF i (Nat.lt_of_lt_of_le hi hl)).2⟩, hl, hm⟩
    have hn : 0 < len := hn
    obtain ⟨b, off, spot⟩ := a
    have h0 := (hF 0 (by omega)).1
    have hsp : spot = none := by simpa [Addr.add] using World.cell?_spot h0
    subst hsp
    refine ⟨b, off, rfl, hlt (.cell b off) (List.mem_append_left _ (MemPlace.mem_row.2 ⟨0, by omega, by simp⟩)), fun i hi => ?_⟩
    have hi : i < len := hi
    rw [← Go.WideShapes.add_plain]
    exact (hF i (by omega)).1
/-- Such slices, one behind the other. -/
structure Sl3s (w : World) (B : Nat) (A : Option Addr) (n : Nat) (F : Nat → Sl2) : Prop where
  at_ : 0 < n → ∃ b off, A = some ⟨b, off, none⟩ ∧ b < B ∧ ∀ i, i < n → w.cell? ⟨b, off + i, none⟩ = some (.slice (F i).A (F i).n (F i).c)
  each : ∀ i, i < n → Sl2In w B (F i)
theorem Sl3s.keep {w w' : World} {B n : Nat} {A : Option Addr} {F : Nat → Sl2} (h : Sl3s w B A n F) (hb : Below B w w') : Sl3s w' B A n F :=
  ⟨fun hn => by
    obtain ⟨b, off, e, hbl, hc⟩ := h.at_ hn
    exact ⟨b, off, e, hbl, fun i hi => (hb.cell (p := ⟨b, off + i, none⟩) hbl).trans (hc i hi)⟩, fun i hi => (h.each i hi).keep hb⟩
theorem open_sl3s {W : World} {base : Nat} {t e k l : TypeId} {v : Value} {d : DataW H} {p : List MemPlace} (ht : P.underlying t = some (.slice e)) (he : P.underlying e = some (.slice k)) (hk : P.underlying k = some (.slice l)) (hl' : P.underlying l = some (.int .u8)) (hc1 : P.cellsOf e = 1) (hc2 : P.cellsOf k = 1) (hc3 : P.cellsOf l = 1)
    (hv : Value.okWide P W .any base t v) (h : DataW.Trod enc P W 0 (fun _ => true) true t v d p) (hlt : ∀ x ∈ p, x.block < W.heap.size) :
    ∃ (A : Option Addr) (n c : Nat) (F : Nat → Sl2), v = .slice A n c ∧ Sl3s W W.heap.size A n F ∧ n ≤ c ∧ c ≤ maxLen := by
  obtain ⟨A, len, cap, rfl⟩ := okWide_slice ht hv
  obtain ⟨fuel, hf⟩ := h
  rcases Deep.open_slice1 ht hc1 hf with ⟨hcs, hx⟩ | ⟨a, len', cap', m, q, V, D, Pl, hcs, _, hl, hm, hmm, hx, hcell⟩
  · simp [Value.cells] at hcs
    obtain ⟨rfl, rfl, rfl⟩ := hcs
    exact ⟨none, 0, 0, fun _ => ⟨none, 0, 0, fun _ => ⟨none, 0, 0, []⟩⟩, rfl, ⟨fun h => by omega, fun i hi => by omega⟩, Nat.le_refl _, Nat.zero_le _⟩
  · simp [Value.cells] at hcs
    obtain ⟨rfl, rfl, rfl⟩ := hcs
    simp only [if_true] at hmm
    subst hmm
    simp only [Prod.mk.injEq] at hx
    obtain ⟨rfl, rfl⟩ := hx
    have each : ∀ i, ∃ s : Sl2, i < m → W.cell? (a.add i) = some (.slice s.A s.n s.c) ∧ Sl2In W W.heap.size s := by
      intro i
      by_cases hi : i < m
      · obtain ⟨h1, h2⟩ := hcell i hi
        obtain ⟨s, hs, hin⟩ := sl2_of he hk hl' hc2 hc3 h2 (fun x hx => hlt x (List.mem_append_right _ (List.mem_flatMap.2 ⟨i, by simpa using hi, hx⟩)))
        exact ⟨s, fun _ => ⟨by rw [h1, hs], hin⟩⟩
      · exact ⟨⟨none, 0, 0, fun _ => ⟨none, 0, 0, []⟩⟩, fun h => absurd h hi⟩
    have hF := fun i => Classical.choose_spec (each i)
    refine ⟨some a, len, m, fun i => Classical.choose (each i), rfl, ⟨fun hn => ?_, fun i hi => (hF i (by omega)).2⟩, hl, hm⟩
    obtain ⟨b, off, spot⟩ := a
    have h0 := (hF 0 (by omega)).1
    have hsp : spot = none := by simpa [Addr.add] using World.cell?_spot h0
    subst hsp
    refine ⟨b, off, rfl, hlt (.cell b off) (List.mem_append_left _ (MemPlace.mem_row.2 ⟨0, by omega, by simp⟩)), fun i hi => ?_⟩
    rw [← Go.WideShapes.add_plain]
    exact (hF i (by omega)).1
end
end Go.Proofs.YtccdifplpbnclaaDoor
