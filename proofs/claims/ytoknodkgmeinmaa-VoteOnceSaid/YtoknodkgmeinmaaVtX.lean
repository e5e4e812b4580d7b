/- Votes in one view, plain: whatever is told and taken, in whatever order: no two changes are chosen. -/
import Derived.Test.YtoknodkgmeinmaaVtA
namespace Go.Proofs.Ytoknodkgmeinmaa.vx
open Go.RowKit

/-- Votes, those who vow and take, what they told, what they took. -/
structure Ps where
  n : Nat
  vt : Nat → Vt
  acc : Nat → Acc
  vow : Nat → Nat → Option (Int × Int × List Int)
  tk : Nat → Nat → Bool
def accC (a : Acc) : List Int := [a.k, a.x, a.j]
/-- What is told of a try: none, or one that puts, and its change. -/
def Of (s : Ps) (i : Nat) (hr hw : Int) (c : List Int) : Prop := hr = 0 ∨ ∃ j, j < i ∧ hr = ((j + 1 : Nat) : Int) ∧ hw = (s.vt j).w ∧ putsB (s.vt j) = true ∧ c = (s.vt j).c
structure Inv (v : V) (e : Int) (s : Ps) (ch : List (List Int)) : Prop where
  vts : ∀ i, i < s.n → (s.vt i).Ok ∧ (s.vt i).v = v ∧ (s.vt i).r = ((i + 1 : Nat) : Int) ∧ (0 ≤ (s.vt i).w ∧ (s.vt i).w < 5) ∧ wf64 (s.vt i).c
  accE : ∀ q, q < 5 → (s.acc q).e = e
  accR : ∀ q, q < 5 → ((s.acc q).r = 0 ∧ (s.acc q).w = 0) ∨ ∃ i, i < s.n ∧ (s.acc q).r = ((i + 1 : Nat) : Int) ∧ (s.acc q).w = (s.vt i).w
  accH : ∀ q, q < 5 → (s.acc q).hr ≤ (s.acc q).r ∧ 0 ≤ (s.acc q).hr ∧ Of s s.n (s.acc q).hr (s.acc q).hw (accC (s.acc q))
  took : ∀ i q, i < s.n → q < 5 → s.tk i q = true → ((i + 1 : Nat) : Int) ≤ (s.acc q).hr ∧ putsB (s.vt i) = true
  vows : ∀ i q hr hw c, i < s.n → q < 5 → s.vow i q = some (hr, hw, c) → v.m.testBit q = true ∧ c.length = 3 ∧ ((i + 1 : Nat) : Int) ≤ (s.acc q).r ∧ hr ≤ ((i + 1 : Nat) : Int) ∧ 0 ≤ hr ∧ Of s s.n hr hw c ∧ ∀ j, j < i → hr < ((j + 1 : Nat) : Int) → s.tk j q = false
  vote : ∀ i q, i < s.n → q < 5 → (s.vt i).vo.testBit q = true → ((i + 1 : Nat) : Int) ≤ (s.acc q).r ∧ ∀ j, j < i → (s.vt i).hr < ((j + 1 : Nat) : Int) → s.tk j q = false
  had : ∀ i, i < s.n → Of s i (s.vt i).hr (s.vt i).hw (s.vt i).c
  taken : ∀ i q, i < s.n → q < 5 → (s.vt i).tk.testBit q = true → s.tk i q = true
  chosen : ∀ c ∈ ch, ∃ i m, i < s.n ∧ c = (s.vt i).c ∧ putsB (s.vt i) = true ∧ mostB ((m : Nat) : Int) (v.m : Int) = true ∧ ∀ q, q < 5 → m.testBit q = true → s.tk i q = true
/-- Two sets that are enough have one in common. -/
theorem common {a b m : Nat} (ha : mostB (a : Int) (m : Int) = true) (hb : mostB (b : Int) (m : Int) = true) : ∃ q, q < 5 ∧ a.testBit q = true ∧ b.testBit q = true := by
  have := halves _ _ _ ha hb
  rw [setL_and3] at this
  obtain ⟨q, hq⟩ := List.exists_mem_of_length_pos this
  rw [List.mem_filter] at hq
  simp only [Bool.and_eq_true, hasB_nat, List.mem_range] at hq
  exact ⟨q, hq.1, hq.2.1.1, hq.2.1.2⟩
section
variable {v : V} {e : Int} {s : Ps} {ch : List (List Int)}
/-- A vote that puts, behind one that enough took, is of its change. -/
theorem Inv.later (h : Inv v e s ch) {i m : Nat} (_ : i < s.n) (hm : mostB ((m : Nat) : Int) (v.m : Int) = true) (ht : ∀ q, q < 5 → m.testBit q = true → s.tk i q = true) :
    ∀ j, i < j → j < s.n → putsB (s.vt j) = true → (s.vt j).c = (s.vt i).c := by
  intro j
  induction j using Nat.strongRecOn with
  | ind j ih =>
    intro hij hj hp
    have hp' := hp
    rw [putsB, (h.vts j hj).2.1] at hp'
    obtain ⟨q, hq, h1, h2⟩ := common hm hp'
    have hk := ht q hq h1
    have hv := (h.vote j q hj hq h2).2 i hij
    have hge : ((i + 1 : Nat) : Int) ≤ (s.vt j).hr := by
      apply Int.not_lt.1
      intro hl
      rw [hv hl] at hk
      cases hk
    rcases h.had j hj with h0 | ⟨k, hk1, hk2, _, hk4, hk5⟩
    · omega
    · rw [hk5]
      by_cases hik : i = k
      · rw [hik]
      · exact ih k hk1 (by omega) (by omega) hk4
/-- No two changes are chosen. -/
theorem Inv.once (h : Inv v e s ch) : ∀ c ∈ ch, ∀ d ∈ ch, c = d := by
  intro c hc d hd
  obtain ⟨i, m, hi, rfl, hp, hm, ht⟩ := h.chosen c hc
  obtain ⟨j, m', hj, rfl, hp', hm', ht'⟩ := h.chosen d hd
  rcases Nat.lt_trichotomy i j with hl | rfl | hl
  · exact (h.later hi hm ht j hl hj hp').symm
  · rfl
  · exact h.later hj hm' ht' i hl hi hp
/-! ### what may come -/
def newS (s : Ps) (x : Vt) : Ps := ⟨s.n + 1, fun i => if i = s.n then x else s.vt i, s.acc, fun i q => if i = s.n then none else s.vow i q, fun i q => if i = s.n then false else s.tk i q⟩
def setVt (s : Ps) (i : Nat) (x : Vt) : Ps := { s with vt := fun j => if j = i then x else s.vt j }
def askS (s : Ps) (i q : Nat) (a : Acc) (o : Int × Int × List Int) : Ps :=
  { s with acc := fun p => if p = q then a else s.acc p, vow := fun j p => if j = i ∧ p = q then some o else s.vow j p }
def putS (s : Ps) (i q : Nat) (a : Acc) : Ps :=
  { s with acc := fun p => if p = q then a else s.acc p, tk := fun j p => if j = i ∧ p = q then true else s.tk j p }
theorem Of.mono {s s' : Ps} {i i' : Nat} {hr hw : Int} {c : List Int} (h : Of s i hr hw c) (hi : i ≤ i') (hs : ∀ j, j < i → putsB (s.vt j) = true → s'.vt j = s.vt j) : Of s' i' hr hw c := by
  rcases h with h | ⟨j, h1, h2, h3, h4, h5⟩
  · exact .inl h
  · refine .inr ⟨j, by omega, h2, ?_, ?_, ?_⟩ <;> rw [hs j h1 h4] <;> assumption
theorem newS_lt {x : Vt} {i : Nat} (h : i < s.n) : (newS s x).vt i = s.vt i := if_neg (by omega)
theorem Inv.new (h : Inv v e s ch) {w : Int} (hw : 0 ≤ w ∧ w < 5) {c : List Int} (hc : c.length = 3) (wc : wf64 c) (hv : v.Ok) : Inv v e (newS s (newV v ((s.n + 1 : Nat) : Int) w c)) ch := by
  have heq : ∀ i, i < s.n → (newS s (newV v ((s.n + 1 : Nat) : Int) w c)).vt i = s.vt i := fun i hi => newS_lt hi
  have hnew : (newS s (newV v ((s.n + 1 : Nat) : Int) w c)).vt s.n = newV v ((s.n + 1 : Nat) : Int) w c := if_pos rfl
  have htk : ∀ i q, i < s.n → (newS s (newV v ((s.n + 1 : Nat) : Int) w c)).tk i q = s.tk i q := fun i q hi => if_neg (by omega)
  refine ⟨?_, h.accE, ?_, ?_, ?_, ?_, ?_, ?_, ?_, ?_⟩
  · intro i hi
    by_cases e : i = s.n
    · subst e; rw [hnew]; exact ⟨newV_ok hv _ _ hc, rfl, rfl, hw, wc⟩
    · have : i < s.n := by change i < s.n + 1 at hi; omega
      rw [heq i this]; exact h.vts i this
  · intro q hq
    rcases h.accR q hq with h0 | ⟨i, hi, h1, h2⟩
    · exact .inl h0
    · exact .inr ⟨i, Nat.lt_succ_of_lt hi, h1, by rw [heq i hi]; exact h2⟩
  · intro q hq
    obtain ⟨h1, h2, h3⟩ := h.accH q hq
    exact ⟨h1, h2, h3.mono (Nat.le_succ _) fun j hj _ => heq j hj⟩
  · intro i q hi hq ht
    by_cases e : i = s.n
    · subst e; simp [newS] at ht
    · have hi' : i < s.n := by change i < s.n + 1 at hi; omega
      rw [htk i q hi'] at ht
      rw [heq i hi']; exact h.took i q hi' hq ht
  · intro i q hr hw' c' hi hq ho
    by_cases e : i = s.n
    · subst e; simp [newS] at ho
    · have hi' : i < s.n := by change i < s.n + 1 at hi; omega
      have ho' : s.vow i q = some (hr, hw', c') := by simpa [newS, e] using ho
      obtain ⟨h1, h2, h3, h4, h5, h6, h7⟩ := h.vows i q hr hw' c' hi' hq ho'
      exact ⟨h1, h2, h3, h4, h5, h6.mono (Nat.le_succ _) fun j hj _ => heq j hj, fun j hj hl => by rw [htk j q (by omega)]; exact h7 j hj hl⟩
  · intro i q hi hq hb
    by_cases e : i = s.n
    · subst e; rw [hnew] at hb; simp [newV] at hb
    · have hi' : i < s.n := by change i < s.n + 1 at hi; omega
      rw [heq i hi'] at hb ⊢
      obtain ⟨h1, h2⟩ := h.vote i q hi' hq hb
      exact ⟨h1, fun j hj hl => by rw [htk j q (by omega)]; exact h2 j hj hl⟩
  · intro i hi
    by_cases e : i = s.n
    · subst e; rw [hnew]; exact .inl rfl
    · have hi' : i < s.n := by change i < s.n + 1 at hi; omega
      rw [heq i hi']
      exact (h.had i hi').mono (Nat.le_refl _) fun j hj _ => heq j (by omega)
  · intro i q hi hq hb
    by_cases e : i = s.n
    · subst e; rw [hnew] at hb; simp [newV] at hb
    · have hi' : i < s.n := by change i < s.n + 1 at hi; omega
      rw [heq i hi'] at hb
      rw [htk i q hi']; exact h.taken i q hi' hq hb
  · intro c' hc'
    obtain ⟨i, m, h1, h2, h3, h4, h5⟩ := h.chosen c' hc'
    exact ⟨i, m, Nat.lt_succ_of_lt h1, by rw [heq i h1]; exact h2, by rw [heq i h1]; exact h3, h4, fun q hq hb => by rw [htk i q h1]; exact h5 q hq hb⟩
theorem Inv.hears (h : Inv v e s ch) {i q : Nat} (hi : i < s.n) (_ : q < 5) (hh : hearsB (s.acc q) e (s.vt i).r (s.vt i).w = true) : (s.acc q).r ≤ ((i + 1 : Nat) : Int) := by
  simp only [hearsB, Bool.and_eq_true, Bool.not_eq_true', lessB_false] at hh
  rw [(h.vts i hi).2.2.1] at hh
  omega
theorem Inv.ask (h : Inv v e s ch) {i q : Nat} (hi : i < s.n) (hq : q < 5) (hm : v.m.testBit q = true) (hh : hearsB (s.acc q) e (s.vt i).r (s.vt i).w = true) :
    Inv v e (askS s i q (askA (s.acc q) e (s.vt i).r (s.vt i).w) ((s.acc q).hr, (s.acc q).hw, accC (s.acc q))) ch := by
  have hle := h.hears hi hq hh
  have hr := (h.vts i hi).2.2.1
  have ha : askA (s.acc q) e (s.vt i).r (s.vt i).w = { s.acc q with r := (s.vt i).r, w := (s.vt i).w } := by rw [askA, if_pos hh]
  rw [ha]
  have hacc : ∀ p, (askS s i q { s.acc q with r := (s.vt i).r, w := (s.vt i).w } ((s.acc q).hr, (s.acc q).hw, accC (s.acc q))).acc p = if p = q then { s.acc q with r := (s.vt i).r, w := (s.vt i).w } else s.acc p := fun p => rfl
  have hgrow : ∀ p, (s.acc p).r ≤ ((askS s i q { s.acc q with r := (s.vt i).r, w := (s.vt i).w } ((s.acc q).hr, (s.acc q).hw, accC (s.acc q))).acc p).r := fun p => by
    rw [hacc]
    split
    · rename_i e; subst e; show _ ≤ (s.vt i).r; omega
    · exact Int.le_refl _
  refine ⟨h.vts, ?_, ?_, ?_, ?_, ?_, ?_, h.had, h.taken, h.chosen⟩
  · intro p hp
    rw [hacc]; split
    · rename_i e; exact h.accE q hq
    · exact h.accE p hp
  · intro p hp
    rw [hacc]; split
    · exact .inr ⟨i, hi, hr, rfl⟩
    · exact h.accR p hp
  · intro p hp
    rw [hacc]; split
    · obtain ⟨h1, h2, h3⟩ := h.accH q hq
      exact ⟨by show (s.acc q).hr ≤ (s.vt i).r; omega, h2, h3⟩
    · exact h.accH p hp
  · intro j p hj hp ht
    rw [hacc]; split
    · rename_i e; subst e; exact h.took j p hj hp ht
    · exact h.took j p hj hp ht
  · intro j p hr' hw' c' hj hp ho
    by_cases hjp : j = i ∧ p = q
    · obtain ⟨rfl, rfl⟩ := hjp
      have ho' : some ((s.acc p).hr, (s.acc p).hw, accC (s.acc p)) = some (hr', hw', c') := by simpa [askS] using ho
      injection ho' with ho'
      injection ho' with e1 ho'
      injection ho' with e2 e3
      subst e1 e2 e3
      obtain ⟨h1, h2, h3⟩ := h.accH p hp
      refine ⟨hm, rfl, ?_, by omega, h2, h3, fun k hk hl => ?_⟩
      · rw [hacc, if_pos rfl]; show _ ≤ (s.vt j).r; omega
      · cases ht : s.tk k p with
        | false => exact ht
        | true => have := (h.took k p (by omega) hp ht).1; omega
    · have ho' : s.vow j p = some (hr', hw', c') := by simpa [askS, hjp] using ho
      obtain ⟨h1, h2, h3, h4, h5, h6, h7⟩ := h.vows j p hr' hw' c' hj hp ho'
      exact ⟨h1, h2, Int.le_trans h3 (hgrow p), h4, h5, h6, h7⟩
  · intro j p hj hp hb
    obtain ⟨h1, h2⟩ := h.vote j p hj hp hb
    exact ⟨Int.le_trans h1 (hgrow p), h2⟩
theorem Inv.put (h : Inv v e s ch) {i q : Nat} (hi : i < s.n) (hq : q < 5) (hp : putsB (s.vt i) = true) (hh : hearsB (s.acc q) e (s.vt i).r (s.vt i).w = true) {k x j : Int} (hc : (s.vt i).c = [k, x, j]) :
    Inv v e (putS s i q (putA (s.acc q) e (s.vt i).r (s.vt i).w k x j)) ch := by
  have hle := h.hears hi hq hh
  have hr := (h.vts i hi).2.2.1
  have ha : putA (s.acc q) e (s.vt i).r (s.vt i).w k x j = ⟨(s.acc q).e, (s.vt i).r, (s.vt i).w, (s.vt i).r, (s.vt i).w, k, x, j⟩ := by rw [putA, if_pos hh]
  rw [ha]
  generalize hA : (⟨(s.acc q).e, (s.vt i).r, (s.vt i).w, (s.vt i).r, (s.vt i).w, k, x, j⟩ : Acc) = A
  have hacc : ∀ p, (putS s i q A).acc p = if p = q then A else s.acc p := fun p => rfl
  have htk : ∀ b p, (putS s i q A).tk b p = if b = i ∧ p = q then true else s.tk b p := fun b p => rfl
  have hgrow : ∀ p, p < 5 → (s.acc p).r ≤ ((putS s i q A).acc p).r := fun p _ => by
    rw [hacc]
    split
    · rename_i e; subst e; rw [← hA]; show _ ≤ (s.vt i).r; omega
    · exact Int.le_refl _
  have hgrow2 : ∀ p, p < 5 → (s.acc p).hr ≤ ((putS s i q A).acc p).hr := fun p hp5 => by
    rw [hacc]
    split
    · rename_i e; subst e; have := (h.accH p hp5).1; rw [← hA]; show _ ≤ (s.vt i).r; omega
    · exact Int.le_refl _
  have hkeep : ∀ b b' p, p < 5 → b < b' → ((b' + 1 : Nat) : Int) ≤ (s.acc p).r → s.tk b p = false → (putS s i q A).tk b p = false := fun b b' p _ hbb hge hf => by
    rw [htk]
    split
    · rename_i e; obtain ⟨rfl, rfl⟩ := e; omega
    · exact hf
  refine ⟨h.vts, ?_, ?_, ?_, ?_, ?_, ?_, h.had, ?_, ?_⟩
  · intro p hp5
    rw [hacc]; split
    · rw [← hA]; exact h.accE q hq
    · exact h.accE p hp5
  · intro p hp5
    rw [hacc]; split
    · rw [← hA]; exact .inr ⟨i, hi, hr, rfl⟩
    · exact h.accR p hp5
  · intro p hp5
    rw [hacc]; split
    · rw [← hA]
      exact ⟨Int.le_refl _, by show 0 ≤ (s.vt i).r; omega, .inr ⟨i, hi, hr, rfl, hp, hc.symm⟩⟩
    · exact h.accH p hp5
  · intro b p hb hp5 ht
    rw [htk] at ht
    by_cases hbp : b = i ∧ p = q
    · obtain ⟨rfl, rfl⟩ := hbp
      rw [hacc, if_pos rfl, ← hA]
      exact ⟨by show _ ≤ (s.vt b).r; omega, hp⟩
    · rw [if_neg hbp] at ht
      obtain ⟨h1, h2⟩ := h.took b p hb hp5 ht
      exact ⟨Int.le_trans h1 (hgrow2 p hp5), h2⟩
  · intro b p hr' hw' c' hb hp5 ho
    obtain ⟨h1, h2, h3, h4, h5, h6, h7⟩ := h.vows b p hr' hw' c' hb hp5 ho
    exact ⟨h1, h2, Int.le_trans h3 (hgrow p hp5), h4, h5, h6, fun d hd hl => hkeep d b p hp5 hd h3 (h7 d hd hl)⟩
  · intro b p hb hp5 hbit
    obtain ⟨h1, h2⟩ := h.vote b p hb hp5 hbit
    exact ⟨Int.le_trans h1 (hgrow p hp5), fun d hd hl => hkeep d b p hp5 hd h1 (h2 d hd hl)⟩
  · intro b p hb hp5 hbit
    rw [htk]; split
    · rfl
    · exact h.taken b p hb hp5 hbit
  · intro c' hc'
    obtain ⟨b, m, h1, h2, h3, h4, h5⟩ := h.chosen c' hc'
    exact ⟨b, m, h1, h2, h3, h4, fun p hp5 hbit => by rw [htk]; split; rfl; exact h5 p hp5 hbit⟩
theorem later_le {x : Vt} {hr hw : Int} (h : laterB x hr hw = true) : 0 < hr ∧ x.hr ≤ hr := by
  simp only [laterB, Bool.and_eq_true, decide_eq_true_eq, lessB_true] at h
  omega
theorem later_not {x : Vt} {hr hw : Int} (h : laterB x hr hw = false) (h0 : 0 ≤ hr) : hr = 0 ∨ hr ≤ x.hr := by
  by_cases hp : 0 < hr
  · right
    rw [laterB, decide_eq_true hp, Bool.true_and, lessB_false] at h
    omega
  · left; omega
theorem Inv.vowed (h : Inv v e s ch) {i q : Nat} (hi : i < s.n) (hq : q < 5) {hr hw : Int} {c : List Int} (ho : s.vow i q = some (hr, hw, c)) :
    Inv v e (setVt s i (vowV (s.vt i) (q : Int) (s.vt i).r (s.vt i).w hr hw c)) ch := by
  obtain ⟨hok, hv, hrr, hww, hwf⟩ := h.vts i hi
  obtain ⟨b1, b2, b3, b4, b5, b6, b7⟩ := h.vows i q hr hw c hi hq ho
  cases hp : putsB (s.vt i) with
  | true =>
    have : vowV (s.vt i) (q : Int) (s.vt i).r (s.vt i).w hr hw c = s.vt i := by rw [vowV, if_neg (fun k => by rw [hp] at k; cases k.1)]
    rw [this]
    have e : setVt s i (s.vt i) = s := by
      obtain ⟨n, vt, a, o, t⟩ := s
      simp only [setVt, Ps.mk.injEq, true_and, and_true]
      funext j
      split
      · rename_i e; rw [e]
      · rfl
    rw [e]; exact h
  | false =>
    have hcnt : cntB (s.vt i) (q : Int) (s.vt i).r (s.vt i).w = true := by rw [cntB, hv, inV_nat hq, b1, decide_eq_true rfl]; rfl
    have hx : vowV (s.vt i) (q : Int) (s.vt i).r (s.vt i).w hr hw c = heardV { s.vt i with vo := (s.vt i).vo ||| 2 ^ q } hr hw c := by rw [vowV, if_pos ⟨hp, hcnt⟩]; rfl
    have hxok : (vowV (s.vt i) (q : Int) (s.vt i).r (s.vt i).w hr hw c).Ok := hok.vow b2
    have hxv := vow_v (s.vt i) (q : Int) (s.vt i).r (s.vt i).w hr hw c
    have hxo : (vowV (s.vt i) (q : Int) (s.vt i).r (s.vt i).w hr hw c).vo = (s.vt i).vo ||| 2 ^ q := by rw [hx]; exact (heard_v _ _ _ _).2.2.2.1
    have hxc : (laterB (s.vt i) hr hw = true ∧ (vowV (s.vt i) (q : Int) (s.vt i).r (s.vt i).w hr hw c).hr = hr ∧ (vowV (s.vt i) (q : Int) (s.vt i).r (s.vt i).w hr hw c).hw = hw ∧ (vowV (s.vt i) (q : Int) (s.vt i).r (s.vt i).w hr hw c).c = c) ∨
        (laterB (s.vt i) hr hw = false ∧ (vowV (s.vt i) (q : Int) (s.vt i).r (s.vt i).w hr hw c).hr = (s.vt i).hr ∧ (vowV (s.vt i) (q : Int) (s.vt i).r (s.vt i).w hr hw c).hw = (s.vt i).hw ∧ (vowV (s.vt i) (q : Int) (s.vt i).r (s.vt i).w hr hw c).c = (s.vt i).c) := by
      rw [hx, heardV, show laterB { s.vt i with vo := (s.vt i).vo ||| 2 ^ q } hr hw = laterB (s.vt i) hr hw from rfl]
      cases hl : laterB (s.vt i) hr hw with
      | true => left; exact ⟨rfl, rfl, rfl, rfl⟩
      | false => right; exact ⟨rfl, rfl, rfl, rfl⟩
    generalize vowV (s.vt i) (q : Int) (s.vt i).r (s.vt i).w hr hw c = x' at hxok hxv hxo hxc
    obtain ⟨x1, x2, x3, x4⟩ := hxv
    have heq : ∀ j, j ≠ i → (setVt s i x').vt j = s.vt j := fun j hj => if_neg hj
    have hnew : (setVt s i x').vt i = x' := if_pos rfl
    have hputs : ∀ j, putsB (s.vt j) = true → (setVt s i x').vt j = s.vt j := fun j hj => heq j (fun e => by rw [e, hp] at hj; cases hj)
    have ofn : ∀ n hr' hw' c', Of s n hr' hw' c' → Of (setVt s i x') n hr' hw' c' := fun n _ _ _ ho => ho.mono (Nat.le_refl _) fun j _ hj => hputs j hj
    have hofi : Of s i x'.hr x'.hw x'.c := by
      rcases hxc with ⟨hl, e1, e2, e3⟩ | ⟨_, e1, e2, e3⟩
      · rw [e1, e2, e3]
        have := later_le hl
        rcases b6 with h0 | ⟨j, j1, j2, j3, j4, j5⟩
        · omega
        · refine .inr ⟨j, ?_, j2, j3, j4, j5⟩
          have : j ≠ i := fun e => by rw [e, hp] at j4; cases j4
          omega
      · rw [e1, e2, e3]; exact h.had i hi
    have hcc : x'.c.length = 3 ∧ wf64 x'.c := by
      rcases hofi with h0 | ⟨j, j1, _, _, _, j5⟩
      · rcases hxc with ⟨hl, e1, e2, e3⟩ | ⟨_, e1, e2, e3⟩
        · have := later_le hl; omega
        · rw [e3]; exact ⟨hok.c, hwf⟩
      · rw [j5]; exact ⟨(h.vts j (by omega)).1.c, (h.vts j (by omega)).2.2.2.2⟩
    have hge : (s.vt i).hr ≤ x'.hr := by
      rcases hxc with ⟨hl, e1, e2, e3⟩ | ⟨_, e1, e2, e3⟩
      · rw [e1]; exact (later_le hl).2
      · rw [e1]; exact Int.le_refl _
    refine ⟨?_, h.accE, ?_, ?_, ?_, ?_, ?_, ?_, ?_, ?_⟩
    · intro j hj
      by_cases e : j = i
      · subst e; rw [hnew]; exact ⟨hxok, x1.trans hv, x2.trans hrr, by rw [x3]; exact hww, hcc.2⟩
      · rw [heq j e]; exact h.vts j hj
    · intro p hp5
      rcases h.accR p hp5 with h0 | ⟨j, j1, j2, j3⟩
      · exact .inl h0
      · refine .inr ⟨j, j1, j2, ?_⟩
        by_cases e : j = i
        · subst e; rw [hnew, x3]; exact j3
        · rw [heq j e]; exact j3
    · intro p hp5
      obtain ⟨h1, h2, h3⟩ := h.accH p hp5
      exact ⟨h1, h2, ofn _ _ _ _ h3⟩
    · intro j p hj hp5 ht
      obtain ⟨h1, h2⟩ := h.took j p hj hp5 ht
      exact ⟨h1, by rw [hputs j h2]; exact h2⟩
    · intro j p hr' hw' c' hj hp5 ho'
      obtain ⟨h1, h2, h3, h4, h5, h6, h7⟩ := h.vows j p hr' hw' c' hj hp5 ho'
      exact ⟨h1, h2, h3, h4, h5, ofn _ _ _ _ h6, h7⟩
    · intro j p hj hp5 hb
      by_cases e : j = i
      · subst e
        rw [hnew] at hb ⊢
        rw [hxo, Nat.testBit_or, Bool.or_eq_true, Nat.testBit_two_pow, decide_eq_true_eq] at hb
        rcases hb with hb | rfl
        · obtain ⟨h1, h2⟩ := h.vote j p hj hp5 hb
          exact ⟨h1, fun k hk hl => h2 k hk (by omega)⟩
        · refine ⟨b3, fun k hk hl => b7 k hk ?_⟩
          rcases hxc with ⟨_, e1, _, _⟩ | ⟨hl', e1, _, _⟩
          · omega
          · rcases later_not hl' b5 with h0 | h0 <;> omega
      · rw [heq j e] at hb ⊢
        exact h.vote j p hj hp5 hb
    · intro j hj
      by_cases e : j = i
      · subst e; rw [hnew]; exact ofn _ _ _ _ hofi
      · rw [heq j e]; exact ofn _ _ _ _ (h.had j hj)
    · intro j p hj hp5 hb
      by_cases e : j = i
      · subst e; rw [hnew, x4] at hb; exact h.taken j p hj hp5 hb
      · rw [heq j e] at hb; exact h.taken j p hj hp5 hb
    · intro c' hc'
      obtain ⟨j, m, h1, h2, h3, h4, h5⟩ := h.chosen c' hc'
      exact ⟨j, m, h1, by rw [hputs j h3]; exact h2, by rw [hputs j h3]; exact h3, h4, h5⟩
theorem Inv.taker (h : Inv v e s ch) {i q : Nat} (hi : i < s.n) (ht : s.tk i q = true) :
    Inv v e (setVt s i (takV (s.vt i) (q : Int) (s.vt i).r (s.vt i).w)) (if takB (s.vt i) (q : Int) (s.vt i).r (s.vt i).w = true then ch ++ [(takV (s.vt i) (q : Int) (s.vt i).r (s.vt i).w).c] else ch) := by
  obtain ⟨hok, hv, hrr, hww, hwf⟩ := h.vts i hi
  have hxok : (takV (s.vt i) (q : Int) (s.vt i).r (s.vt i).w).Ok := hok.tak
  have hxv := tak_v (s.vt i) (q : Int) (s.vt i).r (s.vt i).w
  have hxt : ∀ p, p < 5 → (takV (s.vt i) (q : Int) (s.vt i).r (s.vt i).w).tk.testBit p = true → s.tk i p = true := fun p hp hb => by
    unfold takV at hb
    split at hb
    · change ((s.vt i).tk ||| 2 ^ q).testBit p = true at hb
      rw [Nat.testBit_or, Bool.or_eq_true, Nat.testBit_two_pow, decide_eq_true_eq] at hb
      rcases hb with hb | rfl
      · exact h.taken i p hi hp hb
      · exact ht
    · exact h.taken i p hi hp hb
  have hxb : takB (s.vt i) (q : Int) (s.vt i).r (s.vt i).w = true → putsB (s.vt i) = true ∧ mostB ((takV (s.vt i) (q : Int) (s.vt i).r (s.vt i).w).tk : Int) (v.m : Int) = true := fun hb => by
    rw [takB, Bool.and_eq_true, Bool.and_eq_true, hv] at hb
    exact ⟨hb.1, hb.2.2⟩
  generalize takB (s.vt i) (q : Int) (s.vt i).r (s.vt i).w = tb at hxb
  generalize takV (s.vt i) (q : Int) (s.vt i).r (s.vt i).w = x' at hxok hxv hxt hxb
  obtain ⟨x1, x2, x3, x4, x5, x6, x7⟩ := hxv
  have heq : ∀ j, j ≠ i → (setVt s i x').vt j = s.vt j := fun j hj => if_neg hj
  have hnew : (setVt s i x').vt i = x' := if_pos rfl
  have hputs : ∀ j, putsB ((setVt s i x').vt j) = putsB (s.vt j) ∧ ((setVt s i x').vt j).w = (s.vt j).w ∧ ((setVt s i x').vt j).c = (s.vt j).c := fun j => by
    by_cases e : j = i
    · subst e; rw [hnew]; exact ⟨by rw [putsB, putsB, x1, x7], x3, x4⟩
    · rw [heq j e]; exact ⟨rfl, rfl, rfl⟩
  have ofn : ∀ n hr' hw' c', Of s n hr' hw' c' → Of (setVt s i x') n hr' hw' c' := fun n _ _ _ ho => by
    rcases ho with h0 | ⟨j, j1, j2, j3, j4, j5⟩
    · exact .inl h0
    · obtain ⟨p1, p2, p3⟩ := hputs j
      exact .inr ⟨j, j1, j2, by rw [p2]; exact j3, by rw [p1]; exact j4, by rw [p3]; exact j5⟩
  refine ⟨?_, h.accE, ?_, ?_, ?_, ?_, ?_, ?_, ?_, ?_⟩
  · intro j hj
    by_cases e : j = i
    · subst e; rw [hnew]; exact ⟨hxok, x1.trans hv, x2.trans hrr, by rw [x3]; exact hww, by rw [x4]; exact hwf⟩
    · rw [heq j e]; exact h.vts j hj
  · intro p hp5
    rcases h.accR p hp5 with h0 | ⟨j, j1, j2, j3⟩
    · exact .inl h0
    · exact .inr ⟨j, j1, j2, by rw [(hputs j).2.1]; exact j3⟩
  · intro p hp5
    obtain ⟨h1, h2, h3⟩ := h.accH p hp5
    exact ⟨h1, h2, ofn _ _ _ _ h3⟩
  · intro j p hj hp5 ht'
    obtain ⟨h1, h2⟩ := h.took j p hj hp5 ht'
    exact ⟨h1, by rw [(hputs j).1]; exact h2⟩
  · intro j p hr' hw' c' hj hp5 ho'
    obtain ⟨h1, h2, h3, h4, h5, h6, h7⟩ := h.vows j p hr' hw' c' hj hp5 ho'
    exact ⟨h1, h2, h3, h4, h5, ofn _ _ _ _ h6, h7⟩
  · intro j p hj hp5 hb
    by_cases e : j = i
    · subst e; rw [hnew, x7] at hb; rw [hnew, x5]; exact h.vote j p hj hp5 hb
    · rw [heq j e] at hb ⊢; exact h.vote j p hj hp5 hb
  · intro j hj
    by_cases e : j = i
    · subst e; rw [hnew, x5, x6, x4]; exact ofn _ _ _ _ (h.had j hj)
    · rw [heq j e]; exact ofn _ _ _ _ (h.had j hj)
  · intro j p hj hp5 hb
    by_cases e : j = i
    · subst e; rw [hnew] at hb; exact hxt p hp5 hb
    · rw [heq j e] at hb; exact h.taken j p hj hp5 hb
  · have hold : ∀ c' ∈ ch, ∃ j m, j < s.n ∧ c' = ((setVt s i x').vt j).c ∧ putsB ((setVt s i x').vt j) = true ∧ mostB ((m : Nat) : Int) (v.m : Int) = true ∧ ∀ p, p < 5 → m.testBit p = true → s.tk j p = true := fun c' hc' => by
      obtain ⟨j, m, h1, h2, h3, h4, h5⟩ := h.chosen c' hc'
      exact ⟨j, m, h1, by rw [(hputs j).2.2]; exact h2, by rw [(hputs j).1]; exact h3, h4, h5⟩
    cases tb with
    | false => exact hold
    | true =>
      intro c' hc'
      rw [if_pos rfl, List.mem_append, List.mem_singleton] at hc'
      rcases hc' with hc' | rfl
      · exact hold c' hc'
      · exact ⟨i, x'.tk, hi, by rw [hnew], by rw [(hputs i).1]; exact (hxb rfl).1, (hxb rfl).2, hxt⟩
end
end Go.Proofs.Ytoknodkgmeinmaa.vx
