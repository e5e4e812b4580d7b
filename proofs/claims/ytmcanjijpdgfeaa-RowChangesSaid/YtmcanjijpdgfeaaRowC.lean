/- Plain facts for RowChanges: what a changed row tells. -/
import Derived.Test.YtmcanjijpdgfeaaRowP
namespace Go.Proofs.Ytmcanjijpdgfeaa
open Go.RowKit

theorem okN_all {zs : List Int} {o : Nat} : ∀ {n : Nat}, (∀ j, j < n → okC ((zs.drop (o + 7 * j)).take 7) = true) → okN zs o n = true
  | 0, _ => rfl
  | n + 1, h => by rw [okN, okN_all (n := n) (fun j hj => h j (by omega)), h n (by omega)]; rfl
theorem cells_ext {a b : List Int} {o o' : Nat} (ha : o + 7 ≤ a.length) (hb : o' + 7 ≤ b.length) (h : ∀ j, j < 7 → a.getD (o + j) 0 = b.getD (o' + j) 0) : (a.drop o).take 7 = (b.drop o').take 7 := by
  have la : ((a.drop o).take 7).length = 7 := by rw [List.length_take, List.length_drop]; omega
  have lb : ((b.drop o').take 7).length = 7 := by rw [List.length_take, List.length_drop]; omega
  refine ext_getD (by rw [la, lb]) (fun j hj => ?_)
  rw [la] at hj
  rw [getD_part _ _ _ _ hj, getD_part _ _ _ _ hj, h j hj]
/-- A row with one number changed may be, if that cell may be. -/
theorem chg_ok {zs : List Int} (hl : zs.length = 174) (ok : okRow zs = true) {k f : Nat} (hk : k < 4) (hf : f < 7) {n v : Int} (hv : 0 ≤ v) (hc : okC (cellOf (chg zs k f n) k) = true) : okRow (bump (chg zs k f n) v) = true := by
  have hlc : (chg zs k f n).length = 174 := by rw [chg_length, hl]
  obtain ⟨x1, x2, x3⟩ := (rowIs_self hl).ok.1 ok
  have R : RowIs (bump (chg zs k f n) v) (v + 1) (chunk (chg zs k f n) 1) (fun i => zs.getD (29 + i) 0) (fun i => chunk zs (34 + i * 28)) := by
    refine ((rowIs_self hlc).setV (v + 1)).congr (fun i hi => ?_) (fun i hi => ?_)
    · show (chg zs k f n).getD (29 + i) 0 = _
      rw [chg, getD_set (by omega), if_neg (by omega)]
    · show chunk (chg zs k f n) (34 + i * 28) = _
      exact chunk_ext (by omega) (by omega) (fun t ht => by rw [chg, getD_set (by omega), if_neg (by omega)])
  refine R.ok.2 ⟨by omega, ?_, x3⟩
  show okN (((chg zs k f n).drop 1).take 28) 0 4 = true
  rw [okN_part]
  refine okN_all (fun j hj => ?_)
  rw [Nat.mul_comm 7 j]
  by_cases e : j = k
  · subst e; exact hc
  · rw [cells_ext (b := zs) (o' := 1 + j * 7) (by omega) (by omega) (fun t ht => by rw [chg, getD_set (by omega), if_neg (by omega)])]
    exact okRow_c ok hj
theorem growV_ok {zs : List Int} (hl : zs.length = 174) (ok : okRow zs = true) (key n : Int) {f : Nat} (hf : f < 7) (h : (growV zs key n f).2 = 0) : okRow (growV zs key n f).1 = true := by
  unfold growV at h ⊢
  split
  · rename_i h1
    have hk := inK_true.1 h1.1
    split
    · rename_i h2
      exact chg_ok hl ok (by omega) hf (okRow_v ok) h2
    · rename_i h2
      rw [if_pos h1, if_neg h2] at h
      simp at h
  · rename_i h1
    rw [if_neg h1] at h
    simp at h
theorem growV_wf {zs : List Int} (hl : zs.length = 174) (hw : wf64 zs) (ok : okRow zs = true) (hv : zs.getD 0 0 ≤ 1152921504606846976) (key n : Int) {f : Nat} (hf : f < 7) : wf64 (growV zs key n f).1 := by
  have v0 := okRow_v ok
  unfold growV
  split
  · rename_i h1
    have hk := inK_true.1 h1.1
    have hn := inN_true.1 h1.2.2
    have hx := okRow_cell hl ok (k := key.toNat) (f := f) (by omega) hf
    split
    · exact wf_set (wf_set hw (by omega)) (by omega)
    · exact wf_zeros _
  · exact wf_zeros _
/-- What RowChanges' kinds answer. -/
def resV (xs : List Int) (k : Nat) (key n tt : Int) : List Int × Int := if k = 0 then growV xs key n 0 else if k = 1 then growV xs key n 1 else giveV xs key n tt
theorem resV_facts {zs : List Int} (hl : zs.length = 174) (hw : wf64 zs) (ok : okRow zs = true) (hv : zs.getD 0 0 ≤ 1152921504606846976) (k : Nat) (key n tt : Int) {z : List Int} {er : Int} (h : resV zs k key n tt = (z, er)) :
    z.length = 174 ∧ wf64 z ∧ (er = 0 → okRow z = true) := by
  have G : ∀ f, f < 7 → (growV zs key n f).1.length = 174 ∧ wf64 (growV zs key n f).1 ∧ ((growV zs key n f).2 = 0 → okRow (growV zs key n f).1 = true) := fun f hf => ⟨growV_length hl _ _ _, growV_wf hl hw ok hv _ _ hf, growV_ok hl ok _ _ hf⟩
  have e1 : z = (resV zs k key n tt).1 := by rw [h]
  have e2 : er = (resV zs k key n tt).2 := by rw [h]
  rw [e1, e2]
  unfold resV
  split
  · exact G 0 (by omega)
  · split
    · exact G 1 (by omega)
    · unfold giveV
      split
      · rename_i h5
        have := inK_true.1 h5
        exact G (2 + tt.toNat) (by omega)
      · exact ⟨zeros_length _, wf_zeros _, fun h => by simp at h⟩
theorem addF_dec : ∀ (gs : List Int) (s : Int), s ≤ 1099511627776 → 0 ≤ s → (∀ g ∈ gs, 0 ≤ g) → ((addF s gs).2 == 0) = decide (s + gs.sum ≤ 1099511627776)
  | [], s, h, _, _ => by simp [addF, h]
  | g :: gs, s, h, h0, hg => by
    have g0 := hg g (by simp)
    have hs : ∀ l : List Int, (∀ g ∈ l, 0 ≤ g) → 0 ≤ l.sum := by
      intro l
      induction l with
      | nil => simp
      | cons a l ih => intro hl; rw [List.sum_cons]; have := hl a (by simp); have := ih (fun g hg => hl g (by simp [hg])); omega
    have hs' := hs gs (fun x hx => hg x (by simp [hx]))
    rw [List.sum_cons]
    by_cases h1 : 1099511627776 < g
    · rw [addF_bad _ _ _ (.inr h1)]
      simp; omega
    · by_cases h2 : 1099511627776 < s + g
      · rw [addF_over _ _ _ g0 (by omega) h2]
        simp; omega
      · rw [addF_step _ _ _ g0 (by omega) (by omega), addF_dec gs _ (by omega) (by omega) (fun x hx => hg x (by simp [hx]))]
        congr 1; simp; omega
/-- How a changed cell's total tells whether it may be. -/
theorem chg_in {zs : List Int} (hl : zs.length = 174) (ok : okRow zs = true) {k f : Nat} (hk : k < 4) (hf : f < 2) {n : Int} (hn : 1 ≤ n) : okC (cellOf (chg zs k f n) k) = decide (zs.getD (1 + k * 7 + f) 0 + n ≤ 1099511627776) := by
  have hc := okRow_c ok hk
  have h0 := okRow_cell hl ok hk (f := f) (by omega)
  have hg : (((cellOf (chg zs k f n) k)).drop 2).take 5 = (((zs.drop (1 + k * 7)).take 7).drop 2).take 5 := by
    refine ext_getD ?_ (fun j hj => ?_)
    · simp [cellOf, chg_length]
    · have hj5 : j < 5 := by simp [cellOf, chg_length, hl] at hj; omega
      rw [getD_part _ _ _ _ hj5, getD_part _ _ _ _ hj5, cellOf, getD_part _ _ _ _ (by omega), getD_part _ _ _ _ (by omega), chg, getD_set (by omega), if_neg (by omega)]
  have hi : ∀ i, i < 2 → (cellOf (chg zs k f n) k).getD i 0 = if i = f then zs.getD (1 + k * 7 + f) 0 + n else ((zs.drop (1 + k * 7)).take 7).getD i 0 := fun i hi => by
    rw [cellOf, getD_part _ _ _ _ (by omega), chg, getD_set (by omega)]
    by_cases e : i = f
    · rw [if_pos (by omega), if_pos e]
    · rw [if_neg (by omega), if_neg e, getD_part _ _ _ _ (by omega)]
  rw [okC] at hc ⊢
  rw [hg, hi 0 (by omega), hi 1 (by omega)]
  simp only [Bool.and_eq_true] at hc
  rw [hc.1.1]
  rcases (by omega : f = 0 ∨ f = 1) with rfl | rfl
  · rw [if_pos rfl, if_neg (by omega), hc.2]
    simp only [inN, Bool.true_and, Bool.and_true]
    rw [show decide (0 ≤ zs.getD (1 + k * 7 + 0) 0 + n) = true from decide_eq_true (by omega)]
    rfl
  · rw [if_neg (by omega), if_pos rfl, hc.1.2]
    simp only [inN, Bool.true_and]
    rw [show decide (0 ≤ zs.getD (1 + k * 7 + 1) 0 + n) = true from decide_eq_true (by omega)]
    rfl
theorem chg_given {zs : List Int} (hl : zs.length = 174) (ok : okRow zs = true) {k t : Nat} (hk : k < 4) (ht : t < 5) {n : Int} (hn : 1 ≤ n) :
    okC (cellOf (chg zs k (2 + t) n) k) = decide ((((chg zs k (2 + t) n).drop (1 + k * 7 + 2)).take 5).sum ≤ 1099511627776) ∧ ∀ g ∈ ((chg zs k (2 + t) n).drop (1 + k * 7 + 2)).take 5, 0 ≤ g ∧ g ≤ 1099511627776 + n := by
  have hc := okRow_c ok hk
  have hg : (((cellOf (chg zs k (2 + t) n) k)).drop 2).take 5 = ((chg zs k (2 + t) n).drop (1 + k * 7 + 2)).take 5 := by
    rw [cellOf, List.drop_take, List.take_take, List.drop_drop]; rfl
  have hb : ∀ g ∈ ((chg zs k (2 + t) n).drop (1 + k * 7 + 2)).take 5, 0 ≤ g ∧ g ≤ 1099511627776 + n := by
    intro g hg
    obtain ⟨i, hi, rfl⟩ := List.mem_iff_getElem.1 hg
    have hi5 : i < 5 := by rw [List.length_take] at hi; omega
    have e : ∀ (l : List Int) (i : Nat) (hi : i < l.length), l[i] = l.getD i 0 := fun l i hi => by rw [List.getD, List.getElem?_eq_getElem hi]; rfl
    rw [e, getD_part _ _ _ _ hi5, chg, getD_set (by omega)]
    have h1 := okRow_cell hl ok hk (f := 2 + t) (by omega)
    have h2 := okRow_cell hl ok hk (f := 2 + i) (by omega)
    rw [show 1 + k * 7 + (2 + i) = 1 + k * 7 + 2 + i by omega] at h2
    split <;> omega
  refine ⟨?_, hb⟩
  have hi : ∀ i, i < 2 → (cellOf (chg zs k (2 + t) n) k).getD i 0 = ((zs.drop (1 + k * 7)).take 7).getD i 0 := fun i hi => by
    rw [cellOf, getD_part _ _ _ _ (by omega), chg, getD_set (by omega), if_neg (by omega), getD_part _ _ _ _ (by omega)]
  rw [okC] at hc ⊢
  rw [hg, hi 0 (by omega), hi 1 (by omega)]
  simp only [Bool.and_eq_true] at hc
  rw [hc.1.2, hc.2, Bool.and_true, Bool.and_true, addF_dec _ _ (by omega) (by omega) (fun g h => (hb g h).1)]
  congr 1; simp
end Go.Proofs.Ytmcanjijpdgfeaa
