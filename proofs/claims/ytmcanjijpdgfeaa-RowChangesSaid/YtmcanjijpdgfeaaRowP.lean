/- Rows told by their parts: version, cells, heirs, and what these left. -/
import Derived.Test.YtmcanjijpdgfeaaRowM
namespace Go.Proofs.Ytmcanjijpdgfeaa
open Go.RowKit

def chunk (zs : List Int) (o : Nat) : List Int := (zs.drop o).take 28
theorem chunk_length {zs : List Int} {o : Nat} (h : o + 28 ≤ zs.length) : (chunk zs o).length = 28 := by rw [chunk, List.length_take, List.length_drop]; omega
theorem chunk_getD (zs : List Int) (o j : Nat) (hj : j < 28) : (chunk zs o).getD j 0 = zs.getD (o + j) 0 := getD_part zs o 28 j hj
theorem ext_getD {a b : List Int} (hl : a.length = b.length) (h : ∀ j, j < a.length → a.getD j 0 = b.getD j 0) : a = b := by
  apply List.ext_getElem hl
  intro j h1 h2
  have := h j h1
  simpa [List.getD, h1, h2] using this
theorem chunk_ext {a b : List Int} {o o' : Nat} (ha : o + 28 ≤ a.length) (hb : o' + 28 ≤ b.length) (h : ∀ j, j < 28 → a.getD (o + j) 0 = b.getD (o' + j) 0) : chunk a o = chunk b o' := by
  refine ext_getD (by rw [chunk_length ha, chunk_length hb]) (fun j hj => ?_)
  rw [chunk_length ha] at hj
  rw [chunk_getD _ _ _ hj, chunk_getD _ _ _ hj, h j hj]
theorem getD_put {zs c : List Int} {o : Nat} (h : o + c.length ≤ zs.length) (j : Nat) : (zs.take o ++ c ++ zs.drop (o + c.length)).getD j 0 = if o ≤ j ∧ j < o + c.length then c.getD (j - o) 0 else zs.getD j 0 := by
  have h1 : (zs.take o).length = o := by rw [List.length_take]; omega
  simp only [List.getD]
  rw [List.append_assoc]
  by_cases hj : j < o
  · rw [List.getElem?_append_left (by omega), List.getElem?_take, if_pos hj, if_neg (by omega)]
  · rw [List.getElem?_append_right (by omega), h1]
    by_cases hj2 : j < o + c.length
    · rw [List.getElem?_append_left (by omega), if_pos (by omega)]
    · rw [List.getElem?_append_right (by omega), List.getElem?_drop, show o + c.length + (j - o - c.length) = j by omega, if_neg (by omega)]
theorem put_length {zs c : List Int} {o : Nat} (h : o + c.length ≤ zs.length) : (zs.take o ++ c ++ zs.drop (o + c.length)).length = zs.length := by
  simp only [List.length_append, List.length_take, List.length_drop]; omega

/-- A row by its parts. -/
structure RowIs (y : List Int) (v : Int) (cs : List Int) (h : Nat → Int) (l : Nat → List Int) : Prop where
  len : y.length = 174
  ver : y.getD 0 0 = v
  cells : chunk y 1 = cs
  heir : ∀ k, k < 5 → y.getD (29 + k) 0 = h k
  left : ∀ k, k < 5 → chunk y (34 + k * 28) = l k
theorem rowIs_self {y : List Int} (hl : y.length = 174) : RowIs y (y.getD 0 0) (chunk y 1) (fun k => y.getD (29 + k) 0) (fun k => chunk y (34 + k * 28)) := ⟨hl, rfl, rfl, fun _ _ => rfl, fun _ _ => rfl⟩
section
variable {y : List Int} {v : Int} {cs : List Int} {h h' : Nat → Int} {l l' : Nat → List Int}
theorem RowIs.congr (k : RowIs y v cs h l) (eh : ∀ i, i < 5 → h i = h' i) (el : ∀ i, i < 5 → l i = l' i) : RowIs y v cs h' l' :=
  ⟨k.len, k.ver, k.cells, fun i hi => (k.heir i hi).trans (eh i hi), fun i hi => (k.left i hi).trans (el i hi)⟩
theorem RowIs.setH (k : RowIs y v cs h l) {i : Nat} (hi : i < 5) (x : Int) : RowIs (y.set (29 + i) x) v cs (fun j => if j = i then x else h j) l := by
  have hl := k.len
  refine ⟨by rw [List.length_set, hl], ?_, ?_, fun j hj => ?_, fun j hj => ?_⟩
  · rw [getD_set (by omega), if_neg (by omega), k.ver]
  · rw [← k.cells]
    exact chunk_ext (by rw [List.length_set]; omega) (by omega) (fun t ht => by rw [getD_set (by omega), if_neg (by omega)])
  · rw [getD_set (by omega)]
    by_cases e : j = i
    · rw [if_pos (by omega), if_pos e]
    · rw [if_neg (by omega), if_neg e, k.heir j hj]
  · rw [← k.left j hj]
    exact chunk_ext (by rw [List.length_set]; omega) (by omega) (fun t ht => by rw [getD_set (by omega), if_neg (by omega)])
theorem RowIs.setV (k : RowIs y v cs h l) (x : Int) : RowIs (y.set 0 x) x cs h l := by
  have hl := k.len
  refine ⟨by rw [List.length_set, hl], ?_, ?_, fun j hj => ?_, fun j hj => ?_⟩
  · rw [getD_set (by omega), if_pos rfl]
  · rw [← k.cells]
    exact chunk_ext (by rw [List.length_set]; omega) (by omega) (fun t ht => by rw [getD_set (by omega), if_neg (by omega)])
  · rw [getD_set (by omega), if_neg (by omega), k.heir j hj]
  · rw [← k.left j hj]
    exact chunk_ext (by rw [List.length_set]; omega) (by omega) (fun t ht => by rw [getD_set (by omega), if_neg (by omega)])
theorem RowIs.putL (k : RowIs y v cs h l) {i : Nat} (hi : i < 5) {c : List Int} (hc : c.length = 28) : RowIs (y.take (34 + i * 28) ++ c ++ y.drop (34 + i * 28 + c.length)) v cs h (fun j => if j = i then c else l j) := by
  have hl := k.len
  have hp : 34 + i * 28 + c.length ≤ y.length := by omega
  refine ⟨by rw [put_length hp, hl], ?_, ?_, fun j hj => ?_, fun j hj => ?_⟩
  · rw [getD_put hp, if_neg (by omega), k.ver]
  · rw [← k.cells]
    exact chunk_ext (by rw [put_length hp]; omega) (by omega) (fun t ht => by rw [getD_put hp, if_neg (by omega)])
  · rw [getD_put hp, if_neg (by omega), k.heir j hj]
  · by_cases e : j = i
    · subst e
      rw [if_pos rfl]
      refine ext_getD (by rw [chunk_length (by rw [put_length hp]; omega), hc]) (fun t ht => ?_)
      rw [chunk_length (by rw [put_length hp]; omega)] at ht
      rw [chunk_getD _ _ _ ht, getD_put hp, if_pos (by omega)]
      congr 1; omega
    · rw [if_neg e, ← k.left j hj]
      exact chunk_ext (by rw [put_length hp]; omega) (by omega) (fun t ht => by rw [getD_put hp, if_neg (by omega)])
theorem okH_iff {zs : List Int} : ∀ {n : Nat}, okH zs n = true ↔ ∀ k, k < n → 0 ≤ zs.getD (29 + k) 0 ∧ okN (chunk zs (34 + k * 28)) 0 4 = true ∧ (zs.getD (29 + k) 0 ≠ 0 ∨ chunk zs (34 + k * 28) = zeros 28)
  | 0 => by simp [okH]
  | n + 1 => by
    rw [okH, Bool.and_eq_true, okH_iff (n := n), Nat.mul_comm 28 n]
    simp only [Bool.and_eq_true, Bool.or_eq_true, decide_eq_true_eq, ← okN_part zs (34 + n * 28)]
    constructor
    · rintro ⟨h1, ⟨h2, h3⟩, h4⟩ k hk
      by_cases e : k = n
      · subst e; exact ⟨h2, h3, h4⟩
      · exact h1 k (by omega)
    · intro h1
      exact ⟨fun k hk => h1 k (by omega), ⟨(h1 n (by omega)).1, (h1 n (by omega)).2.1⟩, (h1 n (by omega)).2.2⟩
theorem RowIs.ok (k : RowIs y v cs h l) : okRow y = true ↔ 0 ≤ v ∧ okN cs 0 4 = true ∧ ∀ i, i < 5 → 0 ≤ h i ∧ okN (l i) 0 4 = true ∧ (h i ≠ 0 ∨ l i = zeros 28) := by
  rw [okRow, Bool.and_eq_true, Bool.and_eq_true, okH_iff, decide_eq_true_eq, k.ver, ← okN_part, show (y.drop 1).take 28 = cs from k.cells, and_assoc]
  constructor
  · rintro ⟨h1, h2, h3⟩
    exact ⟨h1, h2, fun i hi => by have := h3 i hi; rwa [k.heir i hi, k.left i hi] at this⟩
  · rintro ⟨h1, h2, h3⟩
    exact ⟨h1, h2, fun i hi => by rw [k.heir i hi, k.left i hi]; exact h3 i hi⟩
end
theorem wf_set {zs : List Int} (h : wf64 zs) {i : Nat} {x : Int} (hx : -9223372036854775808 ≤ x ∧ x ≤ 9223372036854775807) : wf64 (zs.set i x) := by
  intro z hz
  rcases List.mem_or_eq_of_mem_set hz with hz | rfl
  · exact h z hz
  · simp [Lit.wf, IntKind.min, IntKind.max, IntKind.signed, IntKind.bits]; omega
theorem wf_put {zs c : List Int} (h : wf64 zs) (hc : wf64 c) (o n : Nat) : wf64 (zs.take o ++ c ++ zs.drop n) := by
  intro z hz
  rcases List.mem_append.1 hz with hz | hz
  · rcases List.mem_append.1 hz with hz | hz
    · exact h z (List.mem_of_mem_take hz)
    · exact hc z hz
  · exact h z (List.mem_of_mem_drop hz)
theorem wf_bd {zs : List Int} (h : wf64 zs) (i : Nat) (hi : i < zs.length) : -9223372036854775808 ≤ zs.getD i 0 ∧ zs.getD i 0 ≤ 9223372036854775807 := by
  have := h zs[i] (List.getElem_mem _)
  simp only [List.getD, List.getElem?_eq_getElem hi, Option.getD_some]
  simp [Lit.wf, IntKind.min, IntKind.max, IntKind.signed, IntKind.bits] at this
  omega
end Go.Proofs.Ytmcanjijpdgfeaa
