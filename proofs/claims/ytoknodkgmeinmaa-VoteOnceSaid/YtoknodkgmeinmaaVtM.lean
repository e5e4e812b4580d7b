/- What law 13's VoteOnce holds in memory: rows that grow, and the votes. -/
import Derived.Test.YtoknodkgmeinmaaVtX
import Derived.Test.YtoknodkgmeinmaaCell
import Derived.Test.YtoknodkgmeinmaaLawStep
namespace Go.Proofs.Ytoknodkgmeinmaa.vx
open Go.RowKit

/-! ### rows of pieces of one length -/
section
variable {α : Type} {n k : Nat} {f g : Nat → List α}
def fl (n : Nat) (f : Nat → List α) : List α := (List.range n).flatMap f
theorem fl_zero (f : Nat → List α) : fl 0 f = [] := rfl
theorem fl_succ (n : Nat) (f : Nat → List α) : fl (n + 1) f = fl n f ++ f n := by simp [fl, List.range_succ]
theorem fl_len : ∀ {n : Nat}, (∀ i, i < n → (f i).length = k) → (fl n f).length = n * k
  | 0, _ => by simp [fl]
  | n + 1, h => by rw [fl_succ, List.length_append, fl_len (fun i hi => h i (by omega)), h n (by omega), Nat.succ_mul]
theorem fl_ext : ∀ {n : Nat}, (∀ i, i < n → f i = g i) → fl n f = fl n g
  | 0, _ => rfl
  | n + 1, h => by rw [fl_succ, fl_succ, fl_ext (fun i hi => h i (by omega)), h n (by omega)]
theorem fl_at : ∀ {n : Nat}, (∀ i, i < n → (f i).length = k) → ∀ {i : Nat}, i < n → fl n f = fl i f ++ f i ++ (fl n f).drop (i * k + k)
  | 0, _, _, h => by omega
  | n + 1, h, i, hi => by
    have hl := fl_len (f := f) (n := n) (k := k) (fun i hi => h i (by omega))
    by_cases e : i = n
    · subst e
      rw [fl_succ, List.drop_of_length_le (by rw [List.length_append, hl, h i (by omega)]; exact Nat.le_refl _), List.append_nil]
    · have h2 : i * k + k ≤ n * k := by rw [← Nat.succ_mul]; exact Nat.mul_le_mul_right _ (by omega)
      rw [fl_succ, List.drop_append_of_le_length (by rw [hl]; exact h2), ← List.append_assoc, ← fl_at (fun i hi => h i (by omega)) (by omega)]
theorem fl_get (h : ∀ i, i < n → (f i).length = k) {i : Nat} (hi : i < n) : ((fl n f).drop (i * k)).take k = f i := by
  have hl := fl_len (f := f) (n := i) (k := k) (fun j hj => h j (by omega))
  rw [fl_at h hi, List.append_assoc, List.drop_append_of_le_length (by omega), List.drop_of_length_le (by omega), List.nil_append, List.take_append_of_le_length (by rw [h i hi]; exact Nat.le_refl _), List.take_of_length_le (by rw [h i hi]; exact Nat.le_refl _)]
theorem fl_set : ∀ {n : Nat}, (∀ i, i < n → (f i).length = k) → ∀ {i : Nat}, i < n → ∀ (us : List α), (fl n f).take (i * k) ++ us ++ (fl n f).drop (i * k + k) = fl n (fun j => if j = i then us else f j)
  | 0, _, _, h, _ => by omega
  | n + 1, h, i, hi, us => by
    have hl := fl_len (f := f) (n := n) (k := k) (fun i hi => h i (by omega))
    by_cases e : i = n
    · subst e
      rw [fl_succ i (fun j => if j = i then us else f j), if_pos rfl, fl_succ i f, List.drop_of_length_le (by rw [List.length_append, hl, h i (by omega)]; exact Nat.le_refl _), List.append_nil, List.take_append_of_le_length (by rw [hl]; exact Nat.le_refl _), List.take_of_length_le (by rw [hl]; exact Nat.le_refl _)]
      congr 1
      exact fl_ext fun j hj => (if_neg (by omega)).symm
    · have h2 : i * k + k ≤ n * k := by rw [← Nat.succ_mul]; exact Nat.mul_le_mul_right _ (by omega)
      rw [fl_succ n f, fl_succ n (fun j => if j = i then us else f j), if_neg (by omega), List.drop_append_of_le_length (by rw [hl]; exact h2), List.take_append_of_le_length (by rw [hl]; omega), ← List.append_assoc, fl_set (fun i hi => h i (by omega)) (by omega) us]
end
/-! ### rows that a slice owns -/
theorem own_open {w : World} {base n size : Nat} {e : TypeId} {v : Value} {xs : List Value} (h : w.ownsRow base e size v n xs) (hn : 0 < n) :
    ∃ g cap rest, v = .slice (some ⟨g, 0, none⟩) n cap ∧ base ≤ g ∧ n ≤ cap ∧ VBlk w g e (xs ++ rest) := by
  rcases h.2 with ⟨_, h0⟩ | ⟨g, cap, cur, hv, hb, hg, hc, _, _, ht⟩
  · omega
  · exact ⟨g, cap, cur.toList.drop (n * size), hv, hb, hc, by rw [← ht, List.take_append_drop]; show _ = some (Obj.cells cur.toList.toArray e (0, 0)); rw [hg, Array.toArray_toList]⟩
theorem own_len {w : World} {base n size : Nat} {e : TypeId} {v : Value} {xs : List Value} (h : w.ownsRow base e size v n xs) : ∃ A cap, v = .slice A n cap ∧ n ≤ cap ∧ cap ≤ maxLen := by
  rcases h.2 with ⟨hv, h0⟩ | ⟨g, cap, cur, hv, hb, hg, hc, hm, _, ht⟩
  · exact ⟨none, 0, by rw [hv, h0], by omega, by decide⟩
  · exact ⟨_, cap, hv, hc, hm⟩
theorem own_type {w : World} {base n size : Nat} {e : TypeId} {v : Value} {xs : List Value} (h : w.ownsRow base e size v n xs) {g : Nat} (hg : v.ownBlock = some g) : ∃ cs, Blk w g e cs ∧ base ≤ g := by
  rcases h.2 with ⟨rfl, _⟩ | ⟨g', cap, cur, rfl, hb, hh, _⟩
  · simp [Value.ownBlock] at hg
  · have : g' = g := by simpa [Value.ownBlock] using hg
    subst this
    exact ⟨cur, hh, hb⟩
theorem own_store {w : World} {base n size g cap o : Nat} {e : TypeId} {xs us : List Value} (h : w.ownsRow base e size (.slice (some ⟨g, 0, none⟩) n cap) n xs) (ho : o + us.length ≤ xs.length) :
    (w.setCells g o us).ownsRow base e size (.slice (some ⟨g, 0, none⟩) n cap) n (xs.take o ++ us ++ xs.drop (o + us.length)) := by
  rcases h.2 with ⟨hv, _⟩ | ⟨g', cap', cur, hv, hb, hg, hc, hm, hsz, ht⟩
  · cases hv
  · injection hv with h1 _ h3
    injection h1 with h1
    injection h1 with h1 _ _
    subst h1; subst h3
    have hl := h.1
    have hcl : cur.toList.length = cap * size := by rw [Array.length_toList]; exact hsz
    have hle : n * size ≤ cap * size := Nat.mul_le_mul_right _ hc
    have hV : VBlk w g e cur.toList := by show _ = some (Obj.cells cur.toList.toArray e (0, 0)); rw [hg, Array.toArray_toList]
    have hV2 := hV.setN (us := us) o (by rw [hcl]; omega)
    refine ⟨by simp only [List.length_append, List.length_take, List.length_drop]; omega, .inr ⟨g, cap, _, rfl, hb, hV2, hc, hm, ?_, ?_⟩⟩
    · simp only [List.size_toArray, List.length_append, List.length_take, List.length_drop]; omega
    · have t1 : (cur.toList.take o).length = o := by rw [List.length_take]; omega
      rw [← ht, List.take_take, Nat.min_eq_left (by omega), List.drop_take]
      show List.take (n * size) (cur.toList.take o ++ us ++ cur.toList.drop (o + us.length)) = _
      generalize cur.toList.take o = X at t1
      rw [List.append_assoc, List.take_append, t1, List.take_append, List.append_assoc, List.take_of_length_le (l := X) (by omega), List.take_of_length_le (l := us) (by omega), Nat.sub_sub]
theorem blk_keep {w w' : World} {g g' : Nat} {t t' : TypeId} {cs cs' : Array Value} (h : Blk w g t cs) (h' : Blk w g' t' cs') (hne : t ≠ t') (k : Only (· = g') w w') : Blk w' g t cs :=
  Blk.only h k (fun e => h.ne_ h' hne e)
theorem own_keep {w w' : World} {base n size g' : Nat} {e t' : TypeId} {v : Value} {xs : List Value} {cs' : Array Value} (h : w.ownsRow base e size v n xs) (h' : Blk w g' t' cs') (hne : e ≠ t') (k : Only (· = g') w w') : w'.ownsRow base e size v n xs :=
  own_only h k fun g hg hgg => by
    obtain ⟨cs, hc, _⟩ := own_type h hg
    exact hc.ne_ h' hne hgg
theorem blk_keepA {w w' : World} {g base n size : Nat} {t e : TypeId} {cs : Array Value} {v : Value} {xs : List Value} (h : Blk w g t cs) (ho : w.ownsRow base e size v n xs) (hne : t ≠ e) (k : w.grownBy w' v.ownBlock) : Blk w' g t cs :=
  h.grown k fun hg => by
    obtain ⟨cs', hc, _⟩ := own_type ho hg.symm
    exact h.ne_ hc hne rfl
theorem own_keepA {w w' : World} {base base' n n' size size' : Nat} {e e' : TypeId} {v v' : Value} {xs xs' : List Value} (h : w.ownsRow base e size v n xs) (ho : w.ownsRow base' e' size' v' n' xs') (hne : e ≠ e') (k : w.grownBy w' v'.ownBlock) : w'.ownsRow base e size v n xs :=
  h.kept k (by
    cases hb : v.ownBlock with
    | none => exact .inl rfl
    | some g =>
      refine .inr fun hg => ?_
      obtain ⟨c1, h1, _⟩ := own_type h hb
      obtain ⟨c2, h2, _⟩ := own_type ho hg.symm
      exact h1.ne_ h2 hne rfl)
theorem below_grown {w0 w w' : World} {base n size : Nat} {e : TypeId} {v : Value} {xs : List Value} (hb : Below w0.heap.size w0 w) (h : w.ownsRow base e size v n xs) (hl : w0.heap.size ≤ base) (k : w.grownBy w' v.ownBlock) : Below w0.heap.size w0 w' :=
  below_only hb (only_grown k) (fun i hi => by obtain ⟨_, _, h2⟩ := own_type h hi; omega) hb.size
/-! ### append, as a function of the world -/
def apF (s : TypeId) (x : Array Value) : Sem Value := Builtin.append_ #[s, s] s x
theorem apF_fold (s : TypeId) (x : Array Value) : Builtin.append_ #[s, s] s x = apF s x := rfl
def HasAp (s : TypeId) (w : World) (v x : Value) : Prop := ∃ p : Value × World, (apF s #[v, x]).run Try.prog w = .ok p.1 p.2
open Classical in
noncomputable def apP (s : TypeId) (w : World) (v x : Value) : Value × World := if h : HasAp s w v x then Classical.choose h else (v, w)
theorem apF_has {s : TypeId} {w : World} {v x : Value} (h : HasAp s w v x) : (apF s #[v, x]).run Try.prog w = .ok (apP s w v x).1 (apP s w v x).2 := by
  unfold apP
  rw [dif_pos h]
  exact Classical.choose_spec h
theorem ap_any {s e : TypeId} {z : Value} {size bytes : Nat} (hu : Try.prog.underlying s = some (.slice e)) (hinfo : (Try.prog.info? e).map (fun i => (i.zero, i.size, i.bytes)) = some (some z, size, bytes)) (hzs : z.cells.size = size) (hsz : 0 < size) (hby2 : bytes ≤ 100000)
    {w : World} {base n : Nat} {v : Value} {xs : List Value} (hown : w.ownsRow base e size v n xs) {B : Nat} {A : Option Addr} {m c : Nat} {us : List Value} (hr : Reads w B size A m us) (h1 : ∀ u ∈ us, u.oneCell' = true) (h2 : n + m ≤ 1000) (hb : base ≤ w.heap.size) :
    ∃ v' w', HasAp s w v (.slice A m c) ∧ apP s w v (.slice A m c) = (v', w') ∧ w'.ownsRow base e size v' (n + m) (xs ++ us) ∧ w.grownBy w' v.ownBlock ∧ (v'.ownBlock = v.ownBlock ∨ v'.ownBlock = some w.heap.size) := by
  obtain ⟨i, hi, hz, hs, hby⟩ := info_parts hinfo
  have hbb : (n + m) * bytes ≤ 140737488355328 := Nat.le_trans (Nat.mul_le_mul h2 hby2) (by decide)
  obtain ⟨v', w', hrun, h3, h4, h5⟩ := run_append_any (P := Try.prog) w base s s e i z size bytes hu hi hz hs hby hzs hsz v n xs hown B A m c us hr h1 (by unfold maxLen; omega) hbb hb
  have hh : HasAp s w v (.slice A m c) := ⟨(v', w'), hrun⟩
  refine ⟨v', w', hh, ?_, h3, h4, h5⟩
  have e := (apF_has hh).symm.trans (show (apF s #[v, .slice A m c]).run Try.prog w = .ok v' w' from hrun)
  generalize apP s w v (.slice A m c) = p at e
  obtain ⟨a, w2⟩ := p
  simp only [Result.ok.injEq] at e
  obtain ⟨rfl, rfl⟩ := e
  rfl
end Go.Proofs.Ytoknodkgmeinmaa.vx
