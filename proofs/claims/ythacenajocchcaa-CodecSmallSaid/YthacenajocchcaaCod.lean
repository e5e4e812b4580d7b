/- Plain facts on numbers as bytes: pieces of seven bits, a reader of one number, of many. -/
import Derived.Test.YthacenajocchcaaBase
namespace Go.Proofs.Ythacenajocchcaa

/-- A number's pieces. -/
def pcs (n : Nat) : List Int := if n < 128 then [(n : Int)] else ((n % 128 + 128 : Nat) : Int) :: pcs (n / 128)
termination_by n
decreasing_by omega
def enc (n : Int) : List Int := pcs n.toNat
def encL (l : List Int) : List Int := l.flatMap enc

theorem pcs_lt {n : Nat} (h : n < 128) : pcs n = [(n : Int)] := by rw [pcs]; simp [h]
theorem pcs_ge {n : Nat} (h : 128 ≤ n) : pcs n = ((n % 128 + 128 : Nat) : Int) :: pcs (n / 128) := by rw [pcs]; simp [show ¬ n < 128 by omega]
theorem pcs_bd (n : Nat) : ∀ z ∈ pcs n, 0 ≤ z ∧ z < 256 := by
  induction n using Nat.strongRecOn with
  | ind n ih =>
    by_cases h : n < 128
    · rw [pcs_lt h]; intro z hz; simp at hz; omega
    · rw [pcs_ge (by omega)]; intro z hz
      rcases List.mem_cons.1 hz with rfl | hz
      · omega
      · exact ih (n / 128) (by omega) z hz
theorem pcs_len (f : Nat) : ∀ n : Nat, n < 128 ^ f → 0 < f → (pcs n).length ≤ f := by
  induction f with
  | zero => intro n _ h; omega
  | succ f ih =>
    intro n h _
    by_cases hn : n < 128
    · rw [pcs_lt hn]; simp
    · rw [pcs_ge (by omega)]
      have h0 : 0 < f := by
        rcases Nat.eq_zero_or_pos f with rfl | h0
        · simp at h; omega
        · exact h0
      have := ih (n / 128) (by rw [Nat.pow_succ] at h; omega) h0
      simp; omega
theorem pcs_pos (n : Nat) : 0 < (pcs n).length := by
  by_cases h : n < 128
  · rw [pcs_lt h]; simp
  · rw [pcs_ge (by omega)]; simp
theorem enc_bd (n : Int) : ∀ z ∈ enc n, 0 ≤ z ∧ z < 256 := pcs_bd _
theorem enc_pos (n : Int) : 0 < (enc n).length := pcs_pos _
theorem enc_len {n : Int} (h : n < 9223372036854775808) : (enc n).length ≤ 9 := pcs_len 9 n.toNat (by omega) (by omega)
theorem encL_nil : encL [] = [] := rfl
theorem encL_cons (n : Int) (l : List Int) : encL (n :: l) = enc n ++ encL l := rfl
theorem encL_append (a b : List Int) : encL (a ++ b) = encL a ++ encL b := by simp [encL]
theorem encL_one (n : Int) : encL [n] = enc n := by simp [encL]
theorem encL_bd (l : List Int) : ∀ z ∈ encL l, 0 ≤ z ∧ z < 256 := by
  intro z hz
  obtain ⟨n, _, h⟩ := List.mem_flatMap.1 hz
  exact enc_bd n z h
theorem encL_len {l : List Int} (h : ∀ n ∈ l, n < 9223372036854775808) : (encL l).length ≤ 9 * l.length := by
  induction l with
  | nil => simp [encL]
  | cons n l ih =>
    have h1 := enc_len (h n (by simp))
    have h2 := ih fun m hm => h m (by simp [hm])
    rw [encL_cons]; simp; omega

/-- A reader of one number: of so many pieces. -/
def rdN : Nat → List Int → Option (Int × List Int)
  | 0, _ => none
  | _ + 1, [] => none
  | f + 1, b :: r => if b < 128 then some (b, r) else
    match rdN f r with
    | none => none
    | some (n, r') => if n = 0 then none else some (b - 128 + 128 * n, r')

theorem rdN_pcs (f : Nat) : ∀ (n : Nat) (r : List Int), n < 128 ^ f → 0 < f → rdN f (pcs n ++ r) = some ((n : Int), r) := by
  induction f with
  | zero => intro n r _ h; omega
  | succ f ih =>
    intro n r h _
    by_cases hn : n < 128
    · rw [pcs_lt hn]; simp [rdN, show ((n : Int) < 128) by omega]
    · rw [pcs_ge (by omega)]
      have h0 : 0 < f := by
        rcases Nat.eq_zero_or_pos f with rfl | h0
        · simp at h; omega
        · exact h0
      have := ih (n / 128) r (by rw [Nat.pow_succ] at h; omega) h0
      rw [List.cons_append, rdN, this]
      simp only
      rw [if_neg (by omega), if_neg (by omega)]
      have : ((n % 128 + 128 : Nat) : Int) - 128 + 128 * ((n / 128 : Nat) : Int) = (n : Int) := by omega
      rw [this]
theorem rdN_enc {n : Int} (h0 : 0 ≤ n) (h : n < 9223372036854775808) (r : List Int) : rdN 9 (enc n ++ r) = some (n, r) := by
  have := rdN_pcs 9 n.toNat r (by omega) (by omega)
  rw [enc, this, Int.toNat_of_nonneg h0]
theorem rdN_sound (f : Nat) : ∀ {bs : List Int} {n : Int} {r : List Int}, (∀ z ∈ bs, 0 ≤ z ∧ z < 256) → rdN f bs = some (n, r) → 0 ≤ n ∧ n < 128 ^ f ∧ bs = enc n ++ r := by
  induction f with
  | zero => intro bs n r _ h; simp [rdN] at h
  | succ f ih =>
    intro bs n r hb h
    cases bs with
    | nil => simp [rdN] at h
    | cons b bs =>
      have hb0 := hb b (by simp)
      rw [rdN] at h
      by_cases hl : b < 128
      · rw [if_pos hl] at h
        simp at h
        obtain ⟨rfl, rfl⟩ := h
        have : (128 : Int) ^ (f + 1) = 128 ^ f * 128 := Int.pow_succ ..
        have h1 : (0 : Int) < 128 ^ f := Int.pow_pos (by omega)
        refine ⟨hb0.1, by omega, ?_⟩
        rw [enc, pcs_lt (by omega)]
        simp [Int.toNat_of_nonneg hb0.1]
      · rw [if_neg hl] at h
        cases hr : rdN f bs with
        | none => rw [hr] at h; simp at h
        | some x =>
          obtain ⟨m, r'⟩ := x
          rw [hr] at h
          simp only at h
          by_cases hm : m = 0
          · rw [if_pos hm] at h; simp at h
          · rw [if_neg hm] at h
            simp at h
            obtain ⟨rfl, rfl⟩ := h
            obtain ⟨k0, k1, k2⟩ := ih (fun z hz => hb z (by simp [hz])) hr
            have : (128 : Int) ^ (f + 1) = 128 ^ f * 128 := Int.pow_succ ..
            refine ⟨by omega, by omega, ?_⟩
            rw [enc, pcs_ge (by omega), k2]
            have e1 : (((b - 128 + 128 * m).toNat % 128 + 128 : Nat) : Int) = b := by omega
            have e2 : (b - 128 + 128 * m).toNat / 128 = m.toNat := by omega
            rw [e1, e2]
            rfl
theorem rdN_sound9 {bs : List Int} {n : Int} {r : List Int} (hb : ∀ z ∈ bs, 0 ≤ z ∧ z < 256) (h : rdN 9 bs = some (n, r)) : 0 ≤ n ∧ n < 9223372036854775808 ∧ bs = enc n ++ r :=
  rdN_sound 9 hb h

/-- What k pieces before have made of a number. -/
def fin (k : Nat) (n : Int) : Option (Int × List Int) → Option (Int × List Int)
  | none => none
  | some (m, r) => if k ≠ 0 ∧ m = 0 then none else some (n + 128 ^ k * m, r)
theorem fin_start (x : Option (Int × List Int)) : fin 0 0 x = x := by
  cases x with
  | none => rfl
  | some x => obtain ⟨m, r⟩ := x; simp [fin]
theorem fin_more {k f : Nat} {n b : Int} {r : List Int} (hb : ¬ b < 128) (hpos : ∀ m r', rdN f r = some (m, r') → 0 ≤ m) : fin k n (rdN (f + 1) (b :: r)) = fin (k + 1) (n + 128 ^ k * (b - 128)) (rdN f r) := by
  rw [rdN, if_neg hb]
  cases hr : rdN f r with
  | none => rfl
  | some x =>
    obtain ⟨m, r'⟩ := x
    have := hpos m r' hr
    simp only
    by_cases hm : m = 0
    · subst hm; simp [fin]
    · rw [if_neg hm]
      simp only [fin]
      rw [if_neg (by omega), if_neg (by omega)]
      congr 2
      rw [Int.pow_succ, Int.mul_add, ← Int.mul_assoc, Int.add_assoc]
theorem fin_last {k f : Nat} {n b : Int} {r : List Int} (hb : b < 128) : fin k n (rdN (f + 1) (b :: r)) = if k ≠ 0 ∧ b = 0 then none else some (n + 128 ^ k * b, r) := by
  rw [rdN, if_pos hb]; rfl
theorem fin_empty {k f : Nat} {n : Int} : fin k n (rdN f []) = none := by cases f <;> rfl
theorem fin_zero {k : Nat} {n : Int} {l : List Int} : fin k n (rdN 0 l) = none := rfl

/-- So many numbers below a limit, behind those that are told already. -/
def rdS (lim : Int) (bs : List Int) : Option (Int × List Int) :=
  match rdN 9 bs with
  | none => none
  | some (n, r) => if n < lim then some (n, r) else none
def rdGo (lim : Int) : List Int → Nat → List Int → Option (List Int × List Int)
  | acc, 0, bs => some (acc, bs)
  | acc, k + 1, bs => match rdS lim bs with
    | none => none
    | some (n, r) => rdGo lim (acc ++ [n]) k r
theorem rdGo_len (lim : Int) (k : Nat) : ∀ {acc bs l r : List Int}, rdGo lim acc k bs = some (l, r) → l.length = acc.length + k := by
  induction k with
  | zero => intro acc bs l r h; simp [rdGo] at h; simp [h.1]
  | succ k ih =>
    intro acc bs l r h
    rw [rdGo] at h
    split at h
    · cases h
    · have := ih h; simp at this; omega
theorem rdGo_acc (lim : Int) (k : Nat) : ∀ (acc bs : List Int), rdGo lim acc k bs = match rdGo lim [] k bs with | none => none | some (l, r) => some (acc ++ l, r) := by
  induction k with
  | zero => intro acc bs; simp [rdGo]
  | succ k ih =>
    intro acc bs
    rw [rdGo, rdGo]
    cases h : rdS lim bs with
    | none => rfl
    | some x =>
      obtain ⟨n, r⟩ := x
      simp only
      rw [ih (acc ++ [n]), ih ([] ++ [n])]
      cases rdGo lim [] k r with
      | none => rfl
      | some y => simp
theorem rdGo_add (lim : Int) (a : Nat) : ∀ (acc : List Int) (b : Nat) (bs : List Int), rdGo lim acc (a + b) bs = match rdGo lim acc a bs with | none => none | some (l, r) => rdGo lim l b r := by
  induction a with
  | zero => intro acc b bs; simp [rdGo]
  | succ a ih =>
    intro acc b bs
    rw [Nat.add_right_comm, rdGo, rdGo]
    cases h : rdS lim bs with
    | none => rfl
    | some x => obtain ⟨n, r⟩ := x; simp only; rw [ih]
theorem rdGo_none {lim : Int} {acc bs : List Int} {a b : Nat} (h : rdGo lim [] a bs = none) : rdGo lim acc (a + b) bs = none := by
  rw [rdGo_add, rdGo_acc, h]
theorem rdGo_some {lim : Int} {acc bs l r : List Int} {a b : Nat} (h : rdGo lim [] a bs = some (l, r)) : rdGo lim acc (a + b) bs = rdGo lim (acc ++ l) b r := by
  rw [rdGo_add, rdGo_acc, h]
theorem rdS_enc {lim n : Int} (h0 : 0 ≤ n) (h : n < 9223372036854775808) (hl : n < lim) (r : List Int) : rdS lim (enc n ++ r) = some (n, r) := by
  rw [rdS, rdN_enc h0 h]; simp [hl]
theorem rdS_sound {lim : Int} {bs : List Int} {n : Int} {r : List Int} (hb : ∀ z ∈ bs, 0 ≤ z ∧ z < 256) (h : rdS lim bs = some (n, r)) : 0 ≤ n ∧ n < 9223372036854775808 ∧ n < lim ∧ bs = enc n ++ r := by
  rw [rdS] at h
  cases hr : rdN 9 bs with
  | none => rw [hr] at h; cases h
  | some x =>
    obtain ⟨m, r'⟩ := x
    rw [hr] at h
    simp only at h
    split at h
    · simp at h
      obtain ⟨rfl, rfl⟩ := h
      obtain ⟨a, b, c⟩ := rdN_sound9 hb hr
      exact ⟨a, b, ‹_›, c⟩
    · cases h
theorem rdGo_enc {lim : Int} {l : List Int} : ∀ (acc r : List Int), (∀ n ∈ l, 0 ≤ n ∧ n < 9223372036854775808 ∧ n < lim) → rdGo lim acc l.length (encL l ++ r) = some (acc ++ l, r) := by
  induction l with
  | nil => intro acc r _; simp [rdGo, encL]
  | cons n l ih =>
    intro acc r h
    obtain ⟨a, b, c⟩ := h n (by simp)
    rw [List.length_cons, rdGo, encL_cons, List.append_assoc, rdS_enc a b c]
    simp only
    rw [ih _ _ fun m hm => h m (by simp [hm])]
    simp
theorem rdGo_sound {lim : Int} (k : Nat) : ∀ {acc bs l r : List Int}, (∀ z ∈ bs, 0 ≤ z ∧ z < 256) → rdGo lim acc k bs = some (l, r) → ∃ m, l = acc ++ m ∧ m.length = k ∧ (∀ n ∈ m, 0 ≤ n ∧ n < 9223372036854775808 ∧ n < lim) ∧ bs = encL m ++ r := by
  induction k with
  | zero => intro acc bs l r _ h; simp [rdGo] at h; exact ⟨[], by simp [h.1], rfl, by simp, by simp [encL, h.2]⟩
  | succ k ih =>
    intro acc bs l r hb h
    rw [rdGo] at h
    cases hs : rdS lim bs with
    | none => rw [hs] at h; cases h
    | some x =>
      obtain ⟨n, r'⟩ := x
      rw [hs] at h
      simp only at h
      obtain ⟨a, b, c, d⟩ := rdS_sound hb hs
      obtain ⟨m, e1, e2, e3, e4⟩ := ih (fun z hz => hb z (by rw [d]; simp [hz])) h
      refine ⟨n :: m, by simp [e1], by simp [e2], ?_, by rw [d, e4, encL_cons, List.append_assoc]⟩
      intro y hy
      rcases List.mem_cons.1 hy with rfl | hy
      · exact ⟨a, b, c⟩
      · exact e3 y hy
theorem bytes_rest {bs a r : List Int} (h : ∀ z ∈ bs, 0 ≤ z ∧ z < 256) (e : bs = a ++ r) : ∀ z ∈ r, 0 ≤ z ∧ z < 256 := fun z hz => h z (by rw [e]; simp [hz])
/-- Lists of numbers are told apart by their bytes. -/
theorem encL_inj {a b : List Int} (ha : ∀ n ∈ a, 0 ≤ n ∧ n < 9223372036854775808) (hb : ∀ n ∈ b, 0 ≤ n ∧ n < 9223372036854775808) (hl : a.length = b.length) {r s : List Int} (h : encL a ++ r = encL b ++ s) : a = b ∧ r = s := by
  have h1 := rdGo_enc (lim := 9223372036854775808) (l := a) [] r (fun n hn => ⟨(ha n hn).1, (ha n hn).2, (ha n hn).2⟩)
  have h2 := rdGo_enc (lim := 9223372036854775808) (l := b) [] s (fun n hn => ⟨(hb n hn).1, (hb n hn).2, (hb n hn).2⟩)
  rw [h, hl, h2] at h1
  simpa using h1.symm
end Go.Proofs.Ythacenajocchcaa
