/- An argument that is a slice of calls: opened. -/
import Derived.Test.YthafhmpbhhpfbaaLawV
import Derived.Test.YthafhmpbhhpfbaaOpens
namespace Go.Proofs.Ythafhmpbhhpfbaa
open Go.ChangeShapes Go.WideShapes Go.ChangeAt Go.RowKit

section
variable {H : Type} {enc : TypeId × Value → H}
theorem one_int {P : Program} {W : World} {t : TypeId} {fuel : Nat} {v : Value} {x : DataW H × List MemPlace} (ht : P.underlying t = some (.int .i64)) (h : DataW.trod enc P W 0 (fun _ => true) true fuel t [v] = some x) : ∃ z, v = .int .i64 z ∧ Key z := by
  obtain ⟨z, e, hz⟩ := opens_int ht _ _ _ h v (by simp)
  exact ⟨z, e, hz⟩
theorem open_cal {W : World} {fuel : Nat} {cs : List Value} {x : DataW H × List MemPlace} (h : DataW.trod enc Try.prog W 0 (fun _ => true) true fuel 30 cs = some x) (hlt : ∀ p ∈ x.2, p.block < W.heap.size) :
    ∃ c : Cal, cs = callV c ∧ CalIn W W.heap.size c := by
  obtain ⟨xs, m, _, rfl, hl, hlen, hi⟩ := DataW.trod_struct Try.underlying30 h
  have hl : cs.length = 5 := hl.trans (by kernel_rfl)
  match cs, hl with
  | [v0, v1, v2, v3, v4], _ =>
    have ci : Try.prog.cellsOf 3 = 1 := by kernel_rfl
    have cb : Try.prog.cellsOf 28 = 1 := by kernel_rfl
    have h0 : DataW.trod enc Try.prog W 0 (fun _ => true) true m 3 (([v0, v1, v2, v3, v4].drop 0).take (Try.prog.cellsOf 3)) = xs[0]? := hi 0 _ rfl
    have h1 : DataW.trod enc Try.prog W 0 (fun _ => true) true m 3 (([v0, v1, v2, v3, v4].drop 1).take (Try.prog.cellsOf 3)) = xs[1]? := hi 1 _ rfl
    have h2 : DataW.trod enc Try.prog W 0 (fun _ => true) true m 3 (([v0, v1, v2, v3, v4].drop 2).take (Try.prog.cellsOf 3)) = xs[2]? := hi 2 _ rfl
    have h3 : DataW.trod enc Try.prog W 0 (fun _ => true) true m 3 (([v0, v1, v2, v3, v4].drop 3).take (Try.prog.cellsOf 3)) = xs[3]? := hi 3 _ rfl
    have h4 : DataW.trod enc Try.prog W 0 (fun _ => true) true m 28 (([v0, v1, v2, v3, v4].drop 4).take (Try.prog.cellsOf 28)) = xs[4]? := hi 4 _ rfl
    rw [ci] at h0 h1 h2 h3
    rw [cb] at h4
    obtain ⟨y0, e0⟩ : ∃ y, xs[0]? = some y := ⟨_, List.getElem?_eq_getElem (by rw [hlen]; decide)⟩
    obtain ⟨y1, e1⟩ : ∃ y, xs[1]? = some y := ⟨_, List.getElem?_eq_getElem (by rw [hlen]; decide)⟩
    obtain ⟨y2, e2⟩ : ∃ y, xs[2]? = some y := ⟨_, List.getElem?_eq_getElem (by rw [hlen]; decide)⟩
    obtain ⟨y3, e3⟩ : ∃ y, xs[3]? = some y := ⟨_, List.getElem?_eq_getElem (by rw [hlen]; decide)⟩
    obtain ⟨y4, e4⟩ : ∃ y, xs[4]? = some y := ⟨_, List.getElem?_eq_getElem (by rw [hlen]; decide)⟩
    rw [e0] at h0
    rw [e1] at h1
    rw [e2] at h2
    rw [e3] at h3
    rw [e4] at h4
    obtain ⟨z0, rfl, k0⟩ := one_int Try.underlying3 h0
    obtain ⟨z1, rfl, k1⟩ := one_int Try.underlying3 h1
    obtain ⟨z2, rfl, k2⟩ := one_int Try.underlying3 h2
    obtain ⟨z3, rfl, k3⟩ := one_int Try.underlying3 h3
    obtain ⟨d4, p4⟩ := y4
    obtain ⟨s, rfl, hs⟩ := sl_of Try.underlying28 Try.underlying5 (by kernel_rfl) h4 (fun q hq => hlt q (List.mem_flatMap.2 ⟨_, List.mem_of_getElem? e4, hq⟩))
    exact ⟨⟨z0, z1, z2, z3, s⟩, rfl, ⟨k0, k1, k2, k3, hs⟩⟩
theorem open_cals {W : World} {base : Nat} {v : Value} {d : DataW H} {p : List MemPlace} (hv : Value.okWide Try.prog W .any base 22 v) (h : DataW.Trod enc Try.prog W 0 (fun _ => true) true 22 v d p) (hlt : ∀ x ∈ p, x.block < W.heap.size) :
    ∃ (A : Option Addr) (n c : Nat) (F : Nat → Cal), v = .slice A n c ∧ Cals W W.heap.size A n F ∧ n ≤ c ∧ c ≤ maxLen := by
  have hc : Try.prog.cellsOf 30 = 5 := by kernel_rfl
  obtain ⟨A, len, cap, rfl⟩ := okWide_slice Try.underlying22 hv
  obtain ⟨fuel, hf⟩ := h
  rcases Deep.open_slice Try.underlying22 hf with ⟨hcs, hx⟩ | ⟨a, len', cap', m, q, D, Pl, hcs, _, hl, hm, hmm, hx, hcell⟩
  · simp [Value.cells] at hcs
    obtain ⟨rfl, rfl, rfl⟩ := hcs
    exact ⟨none, 0, 0, fun _ => cal0, rfl, ⟨fun h => by omega, fun i hi => by omega⟩, Nat.le_refl _, Nat.zero_le _⟩
  · simp [Value.cells] at hcs
    obtain ⟨rfl, rfl, rfl⟩ := hcs
    simp only [if_true] at hmm
    subst hmm
    simp only [Prod.mk.injEq] at hx
    obtain ⟨rfl, rfl⟩ := hx
    rw [hc] at hcell hlt
    have each : ∀ i, ∃ c : Cal, i < m → (∀ j v, (callV c)[j]? = some v → W.cell? (a.add (i * 5 + j)) = some v) ∧ CalIn W W.heap.size c := by
      intro i
      by_cases hi : i < m
      · obtain ⟨cs', h1, h2⟩ := hcell i hi
        obtain ⟨_, hlen, hat⟩ := World.cells?_some h1
        obtain ⟨c, rfl, hin⟩ := open_cal h2 (fun x hx => hlt x (List.mem_append_right _ (List.mem_flatMap.2 ⟨i, by simpa using hi, hx⟩)))
        refine ⟨c, fun _ => ⟨fun j v hv => ?_, hin⟩⟩
        have hj : j < 5 := (List.getElem?_eq_some_iff.1 hv).1
        rw [← add_of_add, hat j hj]
        exact hv
      · exact ⟨cal0, fun h => absurd h hi⟩
    have hF := fun i => Classical.choose_spec (each i)
    refine ⟨some a, len, m, fun i => Classical.choose (each i), rfl, ⟨fun hn => ?_, fun i hi => (hF i (by omega)).2⟩, hl, hm⟩
    obtain ⟨b, off, spot⟩ := a
    have h0 := (hF 0 (by omega)).1 0 _ rfl
    have hsp : spot = none := by simpa [Addr.add] using World.cell?_spot h0
    subst hsp
    refine ⟨b, off, rfl, hlt (.cell b off) (List.mem_append_left _ (MemPlace.mem_row.2 ⟨0, by omega, by simp⟩)), fun i hi j v hv => ?_⟩
    rw [← Go.WideShapes.add_plain]
    exact (hF i (by omega)).1 j v hv
end
end Go.Proofs.Ythafhmpbhhpfbaa
