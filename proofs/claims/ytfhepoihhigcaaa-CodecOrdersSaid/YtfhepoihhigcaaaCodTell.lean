/- Rows come back from their bytes: plain lists. -/
import Derived.Test.YtfhepoihhigcaaaCodTame
namespace Go.Proofs.Ytfhepoihhigcaaa

theorem rdN_ext (t : List Int) : ∀ (f : Nat) {bs : List Int} {n : Int} {r : List Int}, rdN f bs = some (n, r) → rdN f (bs ++ t) = some (n, r ++ t)
  | 0, _, _, _, h => by simp [rdN] at h
  | f + 1, [], _, _, h => by simp [rdN] at h
  | f + 1, b :: bs, n, r, h => by
    rw [rdN] at h
    rw [List.cons_append, rdN]
    by_cases hb : b < 128
    · rw [if_pos hb] at h ⊢
      simp only [Option.some.injEq, Prod.mk.injEq] at h ⊢
      exact ⟨h.1, by rw [h.2]⟩
    · rw [if_neg hb] at h ⊢
      cases hr : rdN f bs with
      | none => rw [hr] at h; cases h
      | some x =>
        obtain ⟨m, r'⟩ := x
        rw [hr] at h
        rw [rdN_ext t f hr]
        simp only at h ⊢
        split at h
        · cases h
        · rename_i hm
          rw [if_neg hm]
          simp only [Option.some.injEq, Prod.mk.injEq] at h ⊢
          exact ⟨h.1, by rw [h.2]⟩
theorem rdS_ext (t : List Int) {lim : Int} {bs : List Int} {n : Int} {r : List Int} (h : rdS lim bs = some (n, r)) : rdS lim (bs ++ t) = some (n, r ++ t) := by
  rw [rdS] at h ⊢
  cases hr : rdN 9 bs with
  | none => rw [hr] at h; cases h
  | some x =>
    obtain ⟨m, r'⟩ := x
    rw [hr] at h
    rw [rdN_ext t 9 hr]
    simp only at h ⊢
    split at h
    · rename_i hm
      rw [if_pos hm]
      simp only [Option.some.injEq, Prod.mk.injEq] at h ⊢
      exact ⟨h.1, by rw [h.2]⟩
    · cases h
theorem rdGo_ext (t : List Int) {lim : Int} : ∀ (k : Nat) {acc bs l r : List Int}, rdGo lim acc k bs = some (l, r) → rdGo lim acc k (bs ++ t) = some (l, r ++ t)
  | 0, acc, bs, l, r, h => by
    simp only [rdGo, Option.some.injEq, Prod.mk.injEq] at h ⊢
    exact ⟨h.1, by rw [h.2]⟩
  | k + 1, acc, bs, l, r, h => by
    rw [rdGo] at h ⊢
    cases hr : rdS lim bs with
    | none => rw [hr] at h; cases h
    | some x =>
      obtain ⟨m, r'⟩ := x
      rw [hr] at h
      rw [rdS_ext t hr]
      exact rdGo_ext t k h
theorem rdH_ext (t : List Int) : ∀ (k : Nat) {hs ls bs : List Int} {x : List Int × List Int} {r : List Int}, rdH hs ls k bs = some (x, r) → rdH hs ls k (bs ++ t) = some (x, r ++ t)
  | 0, hs, ls, bs, x, r, h => by
    simp only [rdH, Option.some.injEq, Prod.mk.injEq] at h ⊢
    exact ⟨h.1, by rw [h.2]⟩
  | k + 1, hs, ls, bs, x, r, h => by
    rw [rdH] at h ⊢
    cases hr : rdN 9 bs with
    | none => rw [hr] at h; cases h
    | some y =>
      obtain ⟨m, r'⟩ := y
      rw [hr] at h
      rw [rdN_ext t 9 hr]
      simp only at h ⊢
      by_cases hm : 0 < m
      · rw [if_pos hm] at h ⊢
        cases hg : rdGo maxN [] 28 r' with
        | none => rw [hg] at h; cases h
        | some z =>
          obtain ⟨l, r''⟩ := z
          rw [hg] at h
          rw [rdGo_ext t 28 hg]
          exact rdH_ext t k h
      · rw [if_neg hm] at h ⊢
        exact rdH_ext t k h
theorem rdRow_ext (t : List Int) {bs l r : List Int} (h : rdRow bs = some (l, r)) : rdRow (bs ++ t) = some (l, r ++ t) := by
  rw [rdRow] at h ⊢
  cases hr : rdN 9 bs with
  | none => rw [hr] at h; cases h
  | some y =>
    obtain ⟨m, r'⟩ := y
    rw [hr] at h
    rw [rdN_ext t 9 hr]
    simp only at h ⊢
    cases hg : rdGo maxN [] 28 r' with
    | none => rw [hg] at h; cases h
    | some z =>
      obtain ⟨c, r''⟩ := z
      rw [hg] at h
      rw [rdGo_ext t 28 hg]
      simp only at h ⊢
      cases hh : rdH [] [] 5 r'' with
      | none => rw [hh] at h; cases h
      | some u =>
        obtain ⟨⟨hs, ls⟩, r3⟩ := u
        rw [hh] at h
        rw [rdH_ext t 5 hh]
        simp only [Option.some.injEq, Prod.mk.injEq] at h ⊢
        exact ⟨h.1, by rw [h.2]⟩

def GoodH (hs ls : List Int) : Prop :=
  ∀ j, j < hs.length → (0 ≤ hs.getD j 0 ∧ hs.getD j 0 < 9223372036854775808) ∧ (∀ t, t < 28 → Low (ls.getD (28 * j + t) 0)) ∧ (hs.getD j 0 = 0 → ∀ t, t < 28 → ls.getD (28 * j + t) 0 = 0)
theorem low_all {l : List Int} (h : ∀ t, t < l.length → Low (l.getD t 0)) : ∀ n ∈ l, 0 ≤ n ∧ n < 9223372036854775808 ∧ n < maxN := by
  intro n hn
  obtain ⟨t, ht, rfl⟩ := List.mem_iff_getElem.1 hn
  have := h t ht
  simp only [List.getD, List.getElem?_eq_getElem ht, Option.getD_some] at this
  obtain ⟨h1, h2⟩ := this
  exact ⟨h1, by omega, by unfold maxN; omega⟩
theorem getD_take {l : List Int} {n t : Nat} (h : t < n) : (l.take n).getD t 0 = l.getD t 0 := by
  simp only [List.getD, List.getElem?_take, if_pos h]
theorem getD_drop (l : List Int) (n t : Nat) : (l.drop n).getD t 0 = l.getD (n + t) 0 := by
  simp only [List.getD, List.getElem?_drop]
theorem zeros_of {l : List Int} (h : ∀ t, t < l.length → l.getD t 0 = 0) : l = zeros l.length := by
  apply List.ext_getElem
  · simp [zeros]
  · intro t h1 h2
    have := h t h1
    simp only [List.getD, List.getElem?_eq_getElem h1, Option.getD_some] at this
    rw [this]; simp [zeros]
theorem rdH_tell (r : List Int) : ∀ (hs ls A B : List Int), ls.length = 28 * hs.length → GoodH hs ls → rdH A B hs.length (encL (tellH hs ls) ++ r) = some ((A ++ hs, B ++ ls), r)
  | [], ls, A, B, hl, _ => by
    have : ls = [] := List.eq_nil_of_length_eq_zero (by simpa using hl)
    subst this
    simp [rdH, tellH, encL]
  | h :: hs, ls, A, B, hl, hg => by
    have h0 := hg 0 (by simp)
    simp only [List.getD_cons_zero, Nat.mul_zero, Nat.zero_add] at h0
    obtain ⟨⟨a1, a2⟩, hlow, hzero⟩ := h0
    have hl' : ls.length = 28 * hs.length + 28 := by simp at hl; omega
    have hg' : GoodH hs (ls.drop 28) := fun j hj => by
      have := hg (j + 1) (by simpa using hj)
      simp only [List.getD_cons_succ] at this
      obtain ⟨b1, b2, b3⟩ := this
      refine ⟨b1, fun t ht => ?_, fun he t ht => ?_⟩
      · rw [getD_drop, show 28 + (28 * j + t) = 28 * (j + 1) + t by omega]; exact b2 t ht
      · rw [getD_drop, show 28 + (28 * j + t) = 28 * (j + 1) + t by omega]; exact b3 he t ht
    have ht28 : (ls.take 28).length = 28 := by rw [List.length_take]; omega
    have ih := fun B' => rdH_tell r hs (ls.drop 28) (A ++ [h]) B' (by rw [List.length_drop]; omega) hg'
    rw [List.length_cons, rdH, tellH, encL_cons, List.append_assoc, rdN_enc a1 a2]
    simp only
    by_cases hp : 0 < h
    · rw [if_pos hp, if_pos hp, encL_append, List.append_assoc]
      have := rdGo_enc (lim := maxN) (l := ls.take 28) [] (encL (tellH hs (ls.drop 28)) ++ r) (low_all fun t ht => by rw [getD_take (by omega)]; exact hlow t (by omega))
      rw [ht28, List.nil_append] at this
      rw [this]
      simp only
      rw [ih, List.append_assoc, List.append_assoc, List.take_append_drop]
      rfl
    · rw [if_neg hp, if_neg hp, List.nil_append]
      have hz : ls.take 28 = zeros 28 := by
        have := zeros_of (l := ls.take 28) fun t ht => by rw [getD_take (by omega)]; exact hzero (by omega) t (by omega)
        rw [ht28] at this; exact this
      rw [ih, ← hz, List.append_assoc, List.append_assoc, List.take_append_drop]
      rfl
theorem rdRow_tell {ys : List Int} (h : TS ys 4 5) (r : List Int) : rdRow (encL (tellRow ys) ++ r) = some (ys, r) := by
  obtain ⟨hl, h0, h1, h2⟩ := h
  obtain ⟨y0, ys', rfl⟩ : ∃ y0 ys', ys = y0 :: ys' := by
    match ys, hl with
    | y0 :: ys', _ => exact ⟨_, _, rfl⟩
  simp only [List.getD_cons_zero] at h0
  have hl' : ys'.length = 173 := by simpa using hl
  have e1 : tellRow (y0 :: ys') = y0 :: (ys'.take 28 ++ tellH ((ys'.drop 28).take 5) (ys'.drop 33)) := by simp [tellRow]
  have hc : (ys'.take 28).length = 28 := by rw [List.length_take]; omega
  have hh : ((ys'.drop 28).take 5).length = 5 := by rw [List.length_take, List.length_drop]; omega
  have hg : GoodH ((ys'.drop 28).take 5) (ys'.drop 33) := fun j hj => by
    obtain ⟨a, b, c⟩ := h2 j (by omega)
    have ea : ((ys'.drop 28).take 5).getD j 0 = (y0 :: ys').getD (29 + j) 0 := by
      rw [getD_take (by omega), getD_drop, show 29 + j = (28 + j) + 1 by omega, List.getD_cons_succ]
    have eb : ∀ t, (ys'.drop 33).getD (28 * j + t) 0 = (y0 :: ys').getD (34 + 28 * j + t) 0 := fun t => by
      rw [getD_drop, show 34 + 28 * j + t = (33 + (28 * j + t)) + 1 by omega, List.getD_cons_succ]
    rw [ea]
    exact ⟨⟨a.1, by omega⟩, fun t ht => by rw [eb]; exact c t (by omega), fun he t ht => by rw [eb]; exact b t ht he⟩
  rw [e1, encL_cons, encL_append, rdRow, List.append_assoc, rdN_enc h0.1 (by omega)]
  simp only
  have := rdGo_enc (lim := maxN) (l := ys'.take 28) [] (encL (tellH ((ys'.drop 28).take 5) (ys'.drop 33)) ++ r) (low_all fun t ht => by
    rw [getD_take (by omega)]
    have := h1 (t + 1) (by omega) (by omega)
    rwa [List.getD_cons_succ] at this)
  rw [hc, List.nil_append] at this
  rw [List.append_assoc, this]
  simp only
  have h3 := rdH_tell r _ _ [] [] (by rw [hh, List.length_drop]; omega) hg
  rw [hh, List.nil_append, List.nil_append] at h3
  rw [h3]
  simp only
  have e2 : y0 :: ys'.take 28 ++ (ys'.drop 28).take 5 ++ ys'.drop 33 = y0 :: ys' := by
    rw [List.append_assoc, List.cons_append]
    congr 1
    rw [show ys'.drop 33 = (ys'.drop 28).drop 5 by rw [List.drop_drop], List.take_append_drop, List.take_append_drop]
  rw [e2]
/-- Rows are told apart by their bytes. -/
theorem tellRow_inj {xs ys : List Int} (hx : TS xs 4 5) (hy : TS ys 4 5) (h : encL (tellRow xs) = encL (tellRow ys)) : xs = ys := by
  have h1 := rdRow_tell hx []
  rw [h, rdRow_tell hy []] at h1
  simpa using h1.symm
theorem TS.bd {ys : List Int} (h : TS ys 4 5) : ∀ z ∈ ys, 0 ≤ z ∧ z < 9223372036854775808 := by
  intro z hz
  obtain ⟨hl, h0, h1, h2⟩ := h
  obtain ⟨i, hi, rfl⟩ := List.mem_iff_getElem.1 hz
  have e : ys[i] = ys.getD i 0 := by simp [List.getD, hi]
  rw [e]
  by_cases c0 : i = 0
  · subst c0; omega
  · by_cases c1 : i < 29
    · have := h1 i (by omega) (by omega); unfold Low at this; omega
    · by_cases c2 : i < 34
      · have := (h2 (i - 29) (by omega)).1
        rw [show 29 + (i - 29) = i by omega] at this; omega
      · have := (h2 ((i - 34) / 28) (by omega)).2.2 ((i - 34) % 28) (by omega)
        rw [show 34 + 28 * ((i - 34) / 28) + (i - 34) % 28 = i by omega] at this; unfold Low at this; omega
theorem tellRow_len {ys : List Int} (h : ys.length = 174) : (tellRow ys).length ≤ 174 := by
  have := tellH_len ((ys.drop 29).take 5) (ys.drop 34)
  rw [tellRow, List.length_append, List.length_take]
  rw [List.length_take, List.length_drop] at this
  omega
end Go.Proofs.Ytfhepoihhigcaaa
