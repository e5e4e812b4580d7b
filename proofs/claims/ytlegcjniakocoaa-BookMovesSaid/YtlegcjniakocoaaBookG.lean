/- Plain facts for BookMoves: what giving does to a book's cells, values and rights. -/
import Derived.Test.YtlegcjniakocoaaBookN
import Derived.Test.YtlegcjniakocoaaRowC
namespace Go.Proofs.Ytlegcjniakocoaa
open Go.RowKit

/-- A row in which one number of its own cells, and its version, were changed. -/
def givenZ (xs : List Int) (k t : Nat) (n : Int) : List Int := bump (chg xs k (2 + t) n) (xs.getD 0 0)
theorem givenZ_length {xs : List Int} (hl : xs.length = 174) (k t : Nat) (n : Int) : (givenZ xs k t n).length = 174 := by rw [givenZ, bump, List.length_set, chg_length, hl]
theorem givenZ_getD {xs : List Int} (hl : xs.length = 174) {k t : Nat} (hk : k < 4) (ht : t < 5) (n : Int) {j : Nat} (hj : 1 ≤ j) : (givenZ xs k t n).getD j 0 = xs.getD j 0 + (if j = 1 + k * 7 + (2 + t) then n else 0) := by
  rw [givenZ, bump, getD_set (by rw [chg_length]; omega), if_neg (by omega), chg, getD_set (by omega)]
  by_cases e : 1 + k * 7 + (2 + t) = j
  · rw [if_pos e, if_pos e.symm, e]
  · rw [if_neg e, if_neg (fun h => e h.symm)]; omega
theorem givenZ_0 {xs : List Int} (hl : xs.length = 174) (k t : Nat) (n : Int) : (givenZ xs k t n).getD 0 0 = xs.getD 0 0 + 1 := by
  rw [givenZ, bump, getD_set (by rw [chg_length]; omega), if_pos rfl]
theorem part_ext {a b : List Int} {o m : Nat} (ha : o + m ≤ a.length) (hb : o + m ≤ b.length) (h : ∀ j, j < m → a.getD (o + j) 0 = b.getD (o + j) 0) : (a.drop o).take m = (b.drop o).take m := by
  refine ext_getD (by rw [List.length_take, List.length_take, List.length_drop, List.length_drop]; omega) (fun j hj => ?_)
  have hj : j < m := by rw [List.length_take] at hj; omega
  rw [getD_part _ _ _ _ hj, getD_part _ _ _ _ hj, h j hj]
theorem cellV_given {xs : List Int} (hl : xs.length = 174) {k t : Nat} (hk : k < 4) (ht : t < 5) (n : Int) {q o : Nat} (ho : o < 5) (hoq : o ≠ q) : cellV (givenZ xs k t n) q o k = cellV xs q o k := by
  have hz := givenZ_length hl k t n
  have h1 : (givenZ xs k t n).getD (29 + o) 0 = xs.getD (29 + o) 0 := by rw [givenZ_getD hl hk ht n (by omega), if_neg (by omega)]; omega
  have h2 : ((givenZ xs k t n).drop (34 + o * 28 + k * 7)).take 7 = (xs.drop (34 + o * 28 + k * 7)).take 7 := part_ext (by omega) (by omega) (fun j hj => by rw [givenZ_getD hl hk ht n (by omega), if_neg (by omega)]; omega)
  unfold cellV
  rw [if_neg hoq, if_neg hoq, h1, h2]
theorem cellI_in (xs : List Int) (q : Nat) {o k : Nat} (ho : o < 5) (hk : k < 4) : cellI xs q (o : Int) (k : Int) = cellV xs q o k := by
  rw [cellI, if_pos ⟨inK_true.2 ⟨by omega, by omega⟩, inK_true.2 ⟨by omega, by omega⟩⟩]; rfl
theorem bestC_congr {bs bs' : List Int} {o k : Int} (h : ∀ j, j < 5 → cellI (rowB bs j) j o k = cellI (rowB bs' j) j o k) : ∀ {j : Nat}, j ≤ 5 → bestC bs o k j = bestC bs' o k j
  | 0, _ => rfl
  | j + 1, hj => by rw [bestC, bestC, bestC_congr h (by omega), h j (by omega)]
theorem bestC_own {bs : List Int} {q k : Nat} (hq : q < 5) (hk : k < 4) (hv : 0 ≤ (rowB bs q).getD 0 0) (hh : ∀ j, j < 5 → j ≠ q → (rowB bs j).getD (29 + q) 0 ≤ 0) :
    ∀ {j : Nat}, j ≤ 5 → bestC bs (q : Int) (k : Int) j = if q < j then (((rowB bs q).drop (1 + k * 7)).take 7, (rowB bs q).getD 0 0) else (zeros 7, -1)
  | 0, _ => by rw [if_neg (by omega)]; rfl
  | j + 1, hj => by
    rw [bestC, bestC_own hq hk hv hh (by omega), cellI_in _ _ hq hk]
    by_cases e : j = q
    · subst e
      rw [if_neg (show ¬ j < j by omega), if_pos (show j < j + 1 by omega), cellV, if_pos rfl]
      exact if_pos (show (-1 : Int) < _ by omega)
    · have hc : cellV (rowB bs j) j q k = (zeros 7, -1) := by
        have := hh j (by omega) e
        rw [cellV, if_neg (fun h => e h.symm), if_neg (by omega)]
      rw [hc]
      by_cases h : q < j
      · rw [if_pos h, if_pos (show q < j + 1 by omega)]
        exact if_neg (show ¬ (_ : Int) < -1 by omega)
      · rw [if_neg h, if_neg (show ¬ q < j + 1 by omega)]
        exact if_neg (show ¬ (-1 : Int) < -1 by omega)
/-- What is taken for granted: one machine gives another one, and no row came into either. -/
structure Moves (ms : List Int) (q t k : Nat) (n : Int) : Prop where
  ok : BookOk ms
  hq : q < 5
  ht : t < 5
  hk : k < 4
  ne : q ≠ t
  hs : ∀ j, j < 5 → (rowB ms j).getD (29 + q) 0 = 0 ∧ (rowB ms j).getD (29 + t) 0 = 0
section
variable {ms : List Int} {q t k : Nat} {n : Int}
theorem Moves.row (h : Moves ms q t k n) {j : Nat} (hj : j < 5) : rowB (putB ms q (givenZ (rowB ms q) k t n)) j = if j = q then givenZ (rowB ms q) k t n else rowB ms j :=
  rowB_put h.ok.len (givenZ_length (rowB_length h.ok.len h.hq) k t n) h.hq hj
theorem Moves.heir (h : Moves ms q t k n) {j i : Nat} (hj : j < 5) (hi : i < 5) : (rowB (putB ms q (givenZ (rowB ms q) k t n)) j).getD (29 + i) 0 = (rowB ms j).getD (29 + i) 0 := by
  have hk := h.hk
  have ht := h.ht
  rw [h.row hj]
  split
  · subst_vars
    rw [givenZ_getD (rowB_length h.ok.len hj) h.hk h.ht n (by omega), if_neg (by omega)]; omega
  · rfl
theorem Moves.cell (h : Moves ms q t k n) {i j : Nat} (hi : i < 5) (hj : j < 7) :
    (cellsB (putB ms q (givenZ (rowB ms q) k t n)) (k : Int)).getD (i * 7 + j) 0 = (cellsB ms (k : Int)).getD (i * 7 + j) 0 + (if i = q ∧ j = 2 + t then n else 0) := by
  have hrl := rowB_length h.ok.len h.hq
  have hz := givenZ_length hrl k t n
  have hl' : (putB ms q (givenZ (rowB ms q) k t n)).length = 870 := putB_length h.ok.len hz h.hq
  have hkk := h.hk
  have htt := h.ht
  rw [← cellB_getD hl' (k : Int) hi hj, ← cellB_getD h.ok.len (k : Int) hi hj]
  have v0 := okRow_v (h.ok.ok q h.hq)
  by_cases e : i = q
  · subst e
    have h1 := bestC_own (bs := ms) h.hq h.hk v0 (fun j hj _ => Int.le_of_eq (h.hs j hj).1) (Nat.le_refl 5)
    have h2 := bestC_own (bs := putB ms i (givenZ (rowB ms i) k t n)) (q := i) h.hq h.hk (by rw [h.row h.hq, if_pos rfl, givenZ_0 hrl]; omega) (fun j hj _ => by rw [h.heir hj h.hq]; exact Int.le_of_eq (h.hs j hj).1) (Nat.le_refl 5)
    rw [if_pos h.hq] at h1 h2
    rw [cellB, cellB, h1, h2, h.row h.hq, if_pos rfl]
    show (((givenZ (rowB ms i) k t n).drop (1 + k * 7)).take 7).getD j 0 = (((rowB ms i).drop (1 + k * 7)).take 7).getD j 0 + _
    rw [getD_part _ _ _ _ hj, getD_part _ _ _ _ hj, givenZ_getD hrl h.hk h.ht n (by omega)]
    congr 1
    by_cases e2 : j = 2 + t
    · rw [if_pos (by omega), if_pos ⟨rfl, e2⟩]
    · rw [if_neg (by omega), if_neg (fun h => e2 h.2)]
  · rw [if_neg (fun h => e h.1), Int.add_zero, cellB, cellB]
    rw [bestC_congr (bs' := ms) (fun j hj => ?_) (Nat.le_refl 5)]
    rw [cellI_in _ _ hi h.hk, cellI_in _ _ hi h.hk, h.row hj]
    split
    · subst_vars
      exact cellV_given hrl h.hk h.ht n hi e
    · rfl
theorem valU_move {cs cs' : List Int} (hc : ∀ i j, i < 5 → j < 7 → cs'.getD (i * 7 + j) 0 = cs.getD (i * 7 + j) 0 + (if i = q ∧ j = 2 + t then n else 0)) : ∀ {j : Nat}, j ≤ 5 → valU cs' j = valU cs j
  | 0, _ => rfl
  | j + 1, hj => by
    have h0 := hc j 0 (by omega) (by omega)
    have h1 := hc j 1 (by omega) (by omega)
    rw [if_neg (by omega), Int.add_zero, Nat.add_zero] at h0
    rw [if_neg (by omega), Int.add_zero] at h1
    rw [valU, valU, valU_move hc (by omega), h0, h1]
theorem rgtU_move {cs cs' : List Int} (hq : q < 5) (ht : t < 5) (hc : ∀ i j, i < 5 → j < 7 → cs'.getD (i * 7 + j) 0 = cs.getD (i * 7 + j) 0 + (if i = q ∧ j = 2 + t then n else 0)) {i : Nat} (hi : i < 5) :
    ∀ {m : Nat}, m ≤ 5 → rgtU cs' i m = rgtU cs i m + (if i = t ∧ q < m then n else 0) - (if i = q ∧ t < m then n else 0)
  | 0, _ => by
    have h0 := hc i 0 hi (by omega)
    have h1 := hc i 1 hi (by omega)
    rw [if_neg (by omega), Int.add_zero, Nat.add_zero] at h0
    rw [if_neg (by omega), Int.add_zero] at h1
    rw [rgtU, rgtU, h0, h1, if_neg (by omega), if_neg (by omega)]; omega
  | m + 1, hm => by
    have h0 := hc m (2 + i) (by omega) (by omega)
    have h1 := hc i (2 + m) hi (by omega)
    rw [rgtU, rgtU, rgtU_move hq ht hc hi (by omega), h0, h1]
    have e0 : (if m = q ∧ 2 + i = 2 + t then n else 0) = if i = t ∧ m = q then n else 0 := by
      by_cases h : i = t ∧ m = q
      · rw [if_pos h, if_pos ⟨h.2, by omega⟩]
      · rw [if_neg h, if_neg (fun h' => h ⟨by omega, h'.1⟩)]
    have e1 : (if i = q ∧ 2 + m = 2 + t then n else 0) = if i = q ∧ m = t then n else 0 := by
      by_cases h : i = q ∧ m = t
      · rw [if_pos h, if_pos ⟨h.1, by omega⟩]
      · rw [if_neg h, if_neg (fun h' => h ⟨h'.1, by omega⟩)]
    have f0 : (if i = t ∧ q < m + 1 then n else 0) = (if i = t ∧ q < m then n else 0) + (if i = t ∧ m = q then n else 0) := by
      by_cases a : i = t
      · by_cases b : q < m
        · rw [if_pos ⟨a, by omega⟩, if_pos ⟨a, b⟩, if_neg (by omega)]; omega
        · by_cases c : m = q
          · rw [if_pos ⟨a, by omega⟩, if_neg (by omega), if_pos ⟨a, c⟩]; omega
          · rw [if_neg (by omega), if_neg (by omega), if_neg (by omega)]; rfl
      · rw [if_neg (fun h => a h.1), if_neg (fun h => a h.1), if_neg (fun h => a h.1)]; rfl
    have f1 : (if i = q ∧ t < m + 1 then n else 0) = (if i = q ∧ t < m then n else 0) + (if i = q ∧ m = t then n else 0) := by
      by_cases a : i = q
      · by_cases b : t < m
        · rw [if_pos ⟨a, by omega⟩, if_pos ⟨a, b⟩, if_neg (by omega)]; omega
        · by_cases c : m = t
          · rw [if_pos ⟨a, by omega⟩, if_neg (by omega), if_pos ⟨a, c⟩]; omega
          · rw [if_neg (by omega), if_neg (by omega), if_neg (by omega)]; rfl
      · rw [if_neg (fun h => a h.1), if_neg (fun h => a h.1), if_neg (fun h => a h.1)]; rfl
    rw [e0, e1, f0, f1]; omega
theorem ownSum_move {cs cs' : List Int} (hq : q < 5) (ht : t < 5) (hc : ∀ i j, i < 5 → j < 7 → cs'.getD (i * 7 + j) 0 = cs.getD (i * 7 + j) 0 + (if i = q ∧ j = 2 + t then n else 0)) {b b' : Nat → Bool} (hb : ∀ i, i < 5 → b' i = b i) (hbq : b q = false) (hbt : b t = false) (p : Nat) :
    ∀ {m : Nat}, m ≤ 5 → ownSum cs' b' p m = ownSum cs b p m + (if p = t ∧ t < m then n else 0) - (if p = q ∧ q < m then n else 0)
  | 0, _ => by rw [if_neg (by omega), if_neg (by omega)]; rfl
  | m + 1, hm => by
    rw [ownSum, ownSum, ownSum_move hq ht hc hb hbq hbt p (by omega), hb m (by omega)]
    have hr := rgtU_move (n := n) hq ht hc (i := m) (by omega) (Nat.le_refl 5)
    by_cases hp : (m == p || b m) = true
    · rw [if_pos hp, if_pos hp, hr]
      have em : m = t → p = t := fun e => by
        subst e
        rw [hbt, Bool.or_false, beq_iff_eq] at hp
        exact hp.symm
      have eq' : m = q → p = q := fun e => by
        subst e
        rw [hbq, Bool.or_false, beq_iff_eq] at hp
        exact hp.symm
      have a1 : (if p = t ∧ t < m + 1 then n else 0) = (if p = t ∧ t < m then n else 0) + (if m = t ∧ q < 5 then n else 0) := by
        by_cases e : m = t
        · have := em e
          rw [if_pos (by omega), if_neg (by omega), if_pos (by omega)]; omega
        · by_cases a : p = t ∧ t < m
          · rw [if_pos (by omega), if_pos a, if_neg (by omega)]; omega
          · rw [if_neg (by omega), if_neg a, if_neg (by omega)]; rfl
      have a2 : (if p = q ∧ q < m + 1 then n else 0) = (if p = q ∧ q < m then n else 0) + (if m = q ∧ t < 5 then n else 0) := by
        by_cases e : m = q
        · have := eq' e
          rw [if_pos (by omega), if_neg (by omega), if_pos (by omega)]; omega
        · by_cases a : p = q ∧ q < m
          · rw [if_pos (by omega), if_pos a, if_neg (by omega)]; omega
          · rw [if_neg (by omega), if_neg a, if_neg (by omega)]; rfl
      rw [a1, a2]; omega
    · rw [if_neg hp, if_neg hp]
      have h1 : ¬ m = p := fun e => hp (by simp [e])
      have a1 : (if p = t ∧ t < m + 1 then n else 0) = (if p = t ∧ t < m then n else 0) := by
        by_cases a : p = t ∧ t < m
        · rw [if_pos (by omega), if_pos a]
        · rw [if_neg (by omega), if_neg a]
      have a2 : (if p = q ∧ q < m + 1 then n else 0) = (if p = q ∧ q < m then n else 0) := by
        by_cases a : p = q ∧ q < m
        · rw [if_pos (by omega), if_pos a]
        · rw [if_neg (by omega), if_neg a]
      rw [a1, a2]; omega
/-- Behind the gift: the value is what it was; who gave has so much less, who was given so much more. -/
theorem Moves.after (h : Moves ms q t k n) : valueV (putB ms q (givenZ (rowB ms q) k t n)) (k : Int) = valueV ms (k : Int) ∧
    rightsV (putB ms q (givenZ (rowB ms q) k t n)) (q : Int) (k : Int) = rightsV ms (q : Int) (k : Int) - n ∧ rightsV (putB ms q (givenZ (rowB ms q) k t n)) (t : Int) (k : Int) = rightsV ms (t : Int) (k : Int) + n := by
  have hc := fun i j (hi : i < 5) (hj : j < 7) => h.cell hi hj
  have hb : ∀ p, p < 5 → ∀ i, i < 5 → heirB (rowB (putB ms q (givenZ (rowB ms q) k t n)) p) i = heirB (rowB ms p) i := fun p hp i hi => by rw [heirB, heirB, h.heir hp hi]
  have hbq : ∀ p, p < 5 → heirB (rowB ms p) q = false := fun p hp => by rw [heirB, (h.hs p hp).1]; rfl
  have hbt : ∀ p, p < 5 → heirB (rowB ms p) t = false := fun p hp => by rw [heirB, (h.hs p hp).2]; rfl
  have hne := h.ne
  have hq := h.hq
  have ht := h.ht
  refine ⟨valU_move hc (Nat.le_refl 5), ?_, ?_⟩
  · rw [rightsV_in _ h.hq, rightsV_in _ h.hq, ownSum_move h.hq h.ht hc (hb q h.hq) (hbq q h.hq) (hbt q h.hq) q (Nat.le_refl 5), if_neg (by omega), if_pos (by omega)]; omega
  · rw [rightsV_in _ h.ht, rightsV_in _ h.ht, ownSum_move h.hq h.ht hc (hb t h.ht) (hbq t h.ht) (hbt t h.ht) t (Nat.le_refl 5), if_pos (by omega), if_neg (by omega)]; omega
theorem rightsV_bd {bs : List Int} (h : BookOk bs) {p : Nat} (hp : p < 5) (k : Int) : -32985348833280 ≤ rightsV bs (p : Int) k ∧ rightsV bs (p : Int) k ≤ 32985348833280 := by
  rw [rightsV_in bs hp]
  have := ownSum_bd (cellsB_ok h k) (heirB (rowB bs p)) p (Nat.le_refl 5)
  omega
end
end Go.Proofs.Ytlegcjniakocoaa
