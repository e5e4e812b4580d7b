/- An argument that is a slice of structs of integers, Booleans and bytes: opened cell by cell. -/
import Derived.Test.YtfcoeopemgcjlaaOpenB
import Derived.Test.YtfcoeopemgcjlaaOpens
import Derived.Test.YtfcoeopemgcjlaaSlOk
namespace Go.Proofs.Ytfcoeopemgcjlaa
open Go.ChangeShapes Go.WideShapes Go.ChangeAt Go.RowKit

inductive Kind where
  | i
  | b
  | s
/-- What a cell of such a kind holds. -/
def KOk (w : World) (B : Nat) : Kind → Value → Prop
  | .i, v => ∃ z, v = .int .i64 z ∧ (Lit.int .i64 z).wf = true
  | .b, v => ∃ b, v = .bool b
  | .s, v => ∃ s : Sl, v = slV s ∧ SlIn w B s
theorem KOk.keep {w w' : World} {B : Nat} {k : Kind} {v : Value} (h : KOk w B k v) (hb : Below B w w') : KOk w' B k v := by
  cases k with
  | i => exact h
  | b => exact h
  | s => obtain ⟨s, e, hs⟩ := h; exact ⟨s, e, hs.keep hb⟩
section
variable {H : Type} {enc : TypeId × Value → H} {P : Program} {w : World}
def OpensK (enc : TypeId × Value → H) (P : Program) (w : World) (t : TypeId) (Ks : List Kind) : Prop :=
  ∀ (fuel : Nat) (cs : List Value) (x : DataW H × List MemPlace), DataW.trod enc P w 0 (fun _ => true) true fuel t cs = some x → (∀ p ∈ x.2, p.block < w.heap.size) →
    cs.length = Ks.length ∧ ∀ (i : Nat) (k : Kind) (v : Value), Ks[i]? = some k → cs[i]? = some v → KOk w w.heap.size k v
theorem opensK_ints {t : TypeId} {n : Nat} (h : Opens enc P w 0 (fun _ => true) true t) (hl : ∀ fuel cs x, DataW.trod enc P w 0 (fun _ => true) true fuel t cs = some x → cs.length = n) : OpensK enc P w t (List.replicate n .i) := by
  intro fuel cs x hx _
  refine ⟨by rw [hl _ _ _ hx]; simp, fun i k v hk hv => ?_⟩
  have hk : k = .i := List.eq_of_mem_replicate (List.mem_of_getElem? hk)
  subst hk
  exact h _ _ _ hx v (List.mem_of_getElem? hv)
theorem opensK_int {t : TypeId} (h : P.underlying t = some (.int .i64)) : OpensK enc P w t [.i] :=
  opensK_ints (n := 1) (opens_int h) fun fuel cs x hx => by obtain ⟨n, rfl, _, _⟩ := DataW.trod_int h hx; rfl
theorem opensK_flat {t : TypeId} {fs : Array Field} {n : Nat} (hs : P.underlying t = some (.struct fs)) (h : Opens enc P w 0 (fun _ => true) true t) (hn : P.cellsOf t = n) : OpensK enc P w t (List.replicate n .i) :=
  opensK_ints h fun fuel cs x hx => by obtain ⟨xs, m, _, _, hl, _, _⟩ := DataW.trod_struct hs hx; rw [hl, hn]
theorem opensK_bool {t : TypeId} (h : P.underlying t = some .bool) : OpensK enc P w t [.b] := by
  intro fuel cs x hx _
  obtain ⟨b, rfl, _⟩ := DataW.trod_bool h hx
  refine ⟨rfl, fun i k v hk hv => ?_⟩
  cases i with
  | zero => simp at hk hv; subst hk hv; exact ⟨b, rfl⟩
  | succ i => simp at hk
theorem opensK_bytes {t e : TypeId} (ht : P.underlying t = some (.slice e)) (he : P.underlying e = some (.int .u8)) (hc : P.cellsOf e = 1) : OpensK enc P w t [.s] := by
  intro fuel cs x hx hlt
  have h1 : ∃ v, cs = [v] := by
    rcases Deep.open_slice ht hx with ⟨hcs, _⟩ | ⟨a, len', cap', m, q, D, Pl, hcs, _⟩
    · exact ⟨_, hcs⟩
    · exact ⟨_, hcs⟩
  obtain ⟨v, rfl⟩ := h1
  obtain ⟨d, p⟩ := x
  obtain ⟨s, rfl, hs⟩ := sl_of ht he hc hx hlt
  refine ⟨rfl, fun i k v hk hv => ?_⟩
  cases i with
  | zero => simp at hk hv; subst hk hv; exact ⟨s, rfl, hs⟩
  | succ i => simp at hk
theorem opensK_struct {t : TypeId} {fs : Array Field} {Ks : List Kind} (h : P.underlying t = some (.struct fs)) (hc : contig P 0 fs.toList = some (P.cellsOf t)) (hn : P.cellsOf t = Ks.length)
    (he : ∀ f ∈ fs.toList, OpensK enc P w f.type ((Ks.drop f.offset).take (P.cellsOf f.type))) : OpensK enc P w t Ks := by
  intro fuel cs x hx hlt
  obtain ⟨xs, m, _, rfl, hl, hxl, hi⟩ := DataW.trod_struct h hx
  refine ⟨by rw [hl, hn], fun i k v hk hv => ?_⟩
  have hil : i < cs.length := (List.getElem?_eq_some_iff.1 hv).1
  obtain ⟨j, f, hj, h3, h4⟩ := contig_at hc (Nat.zero_le i) (by omega)
  have hf : fs[j]? = some f := by simpa using hj
  have h1 := hi j f hf
  have hjl : j < fs.size := (Array.getElem?_eq_some_iff.1 hf).1
  rw [List.getElem?_eq_getElem (by omega)] at h1
  have hxj : j < xs.length := by omega
  obtain ⟨_, h5⟩ := he f (List.mem_of_getElem? hj) _ _ _ h1 (fun p hp => hlt p (List.mem_flatMap.2 ⟨xs[j], List.getElem_mem _, hp⟩))
  have e : f.offset + (i - f.offset) = i := by omega
  refine h5 (i - f.offset) k v ?_ ?_
  · rw [List.getElem?_take, if_pos (by omega), List.getElem?_drop, e]; exact hk
  · rw [List.getElem?_take, if_pos (by omega), List.getElem?_drop, e]; exact hv
/-- Structs that lie one behind the other, by their cells. -/
structure Sts (w : World) (B : Nat) (Ks : List Kind) (A : Option Addr) (n : Nat) (F : Nat → List Value) : Prop where
  at_ : 0 < n → ∃ b off, A = some ⟨b, off, none⟩ ∧ b < B ∧ ∀ i, i < n → ∀ (j : Nat) (v : Value), (F i)[j]? = some v → w.cell? ⟨b, off + (i * Ks.length + j), none⟩ = some v
  len : ∀ i, i < n → (F i).length = Ks.length
  each : ∀ i, i < n → ∀ (j : Nat) (k : Kind) (v : Value), Ks[j]? = some k → (F i)[j]? = some v → KOk w B k v
theorem Sts.keep {w w' : World} {B n : Nat} {Ks : List Kind} {A : Option Addr} {F : Nat → List Value} (h : Sts w B Ks A n F) (hb : Below B w w') : Sts w' B Ks A n F :=
  ⟨fun hn => by
    obtain ⟨b, off, e, hbl, hc⟩ := h.at_ hn
    exact ⟨b, off, e, hbl, fun i hi j v hv => (hb.cell (p := ⟨b, off + (i * Ks.length + j), none⟩) hbl).trans (hc i hi j v hv)⟩, h.len, fun i hi j k v hk hv => (h.each i hi j k v hk hv).keep hb⟩
theorem open_sts {W : World} {base : Nat} {t e : TypeId} {Ks : List Kind} {v : Value} {d : DataW H} {p : List MemPlace} (ht : P.underlying t = some (.slice e)) (hk : Ks.length = P.cellsOf e) (h0 : 0 < Ks.length) (ho : OpensK enc P W e Ks)
    (hv : Value.okWide P W .any base t v) (h : DataW.Trod enc P W 0 (fun _ => true) true t v d p) (hlt : ∀ x ∈ p, x.block < W.heap.size) :
    ∃ (A : Option Addr) (n c : Nat) (F : Nat → List Value), v = .slice A n c ∧ Sts W W.heap.size Ks A n F ∧ n ≤ c ∧ c ≤ maxLen := by
  obtain ⟨A, len, cap, rfl⟩ := okWide_slice ht hv
  obtain ⟨fuel, hf⟩ := h
  rcases Deep.open_slice ht hf with ⟨hcs, hx⟩ | ⟨a, len', cap', m, q, D, Pl, hcs, _, hl, hm, hmm, hx, hcell⟩
  · simp [Value.cells] at hcs
    obtain ⟨rfl, rfl, rfl⟩ := hcs
    exact ⟨none, 0, 0, fun _ => [], rfl, ⟨fun h => by omega, fun i hi => by omega, fun i hi => by omega⟩, Nat.le_refl _, Nat.zero_le _⟩
  · simp [Value.cells] at hcs
    obtain ⟨rfl, rfl, rfl⟩ := hcs
    simp only [if_true] at hmm
    subst hmm
    simp only [Prod.mk.injEq] at hx
    obtain ⟨rfl, rfl⟩ := hx
    rw [← hk] at hcell hlt
    have each : ∀ i, ∃ c : List Value, i < m → (∀ (j : Nat) (v : Value), c[j]? = some v → W.cell? (a.add (i * Ks.length + j)) = some v) ∧ c.length = Ks.length ∧ ∀ (j : Nat) (k : Kind) (v : Value), Ks[j]? = some k → c[j]? = some v → KOk W W.heap.size k v := by
      intro i
      by_cases hi : i < m
      · obtain ⟨cs', h1, h2⟩ := hcell i hi
        obtain ⟨_, hlen, hat⟩ := World.cells?_some h1
        obtain ⟨g1, g2⟩ := ho _ _ _ h2 (fun x hx => hlt x (List.mem_append_right _ (List.mem_flatMap.2 ⟨i, by simpa using hi, hx⟩)))
        refine ⟨cs', fun _ => ⟨fun j v hv => ?_, g1, g2⟩⟩
        have hj : j < Ks.length := by have := (List.getElem?_eq_some_iff.1 hv).1; omega
        rw [← add_of_add, hat j hj]
        exact hv
      · exact ⟨[], fun h => absurd h hi⟩
    have hF := fun i => Classical.choose_spec (each i)
    refine ⟨some a, len, m, fun i => Classical.choose (each i), rfl, ⟨fun hn => ?_, fun i hi => (hF i (by omega)).2.1, fun i hi => (hF i (by omega)).2.2⟩, hl, hm⟩
    obtain ⟨b, off, spot⟩ := a
    have hl0 : 0 < (Classical.choose (each 0)).length := by rw [(hF 0 (by omega)).2.1]; exact h0
    have h0' := (hF 0 (by omega)).1 0 _ (List.getElem?_eq_getElem hl0)
    have hsp : spot = none := by simpa [Addr.add] using World.cell?_spot h0'
    subst hsp
    refine ⟨b, off, rfl, hlt (.cell b off) (List.mem_append_left _ (MemPlace.mem_row.2 ⟨0, by have := Nat.mul_pos (show 0 < m by omega) h0; omega, by simp⟩)), fun i hi j v hv => ?_⟩
    rw [← Go.WideShapes.add_plain]
    exact (hF i (by omega)).1 j v hv
end
/-- A block's part whose cells are known. -/
theorem row_ofK {w : World} {b o n : Nat} {vs : List Value} (hl : vs.length = n) (h : ∀ (j : Nat) (v : Value), vs[j]? = some v → w.cell? ⟨b, o + j, none⟩ = some v) : rowAt w b o n = vs.toArray ∧ HasRow w b o n := by
  subst hl
  refine ⟨?_, fun j hj => by rw [h j _ (List.getElem?_eq_getElem hj)]; rfl⟩
  unfold rowAt
  congr 1
  apply List.ext_getElem
  · simp
  · intro j h1 h2
    simp only [List.getElem_map, List.getElem_range]
    rw [h j _ (List.getElem?_eq_getElem h2)]
    simp
theorem Sts.got {w : World} {B n : Nat} {Ks : List Kind} {A : Option Addr} {F : Nat → List Value} (h : Sts w B Ks A n F) {i : Nat} (hi : i < n) : ∃ b off, A = some ⟨b, off, none⟩ ∧ b < B ∧ rowAt w b (off + i * Ks.length) Ks.length = (F i).toArray ∧ HasRow w b (off + i * Ks.length) Ks.length := by
  obtain ⟨b, off, e, hb, hc⟩ := h.at_ (by omega)
  obtain ⟨r1, r2⟩ := row_ofK (w := w) (b := b) (o := off + i * Ks.length) (n := Ks.length) (vs := F i) (h.len i hi) (fun j v hv => by rw [Nat.add_assoc]; exact hc i hi j v hv)
  exact ⟨b, off, e, hb, r1, r2⟩
end Go.Proofs.Ytfcoeopemgcjlaa
