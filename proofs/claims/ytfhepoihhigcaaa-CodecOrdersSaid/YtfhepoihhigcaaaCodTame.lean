/- The contracts of the law package's tame: a cell, a row. -/
import Derived.Test.YtfhepoihhigcaaaCodWRow2
namespace Go.Proofs.Ytfhepoihhigcaaa
open Go.RowKit

def low40 (n : Int) : Int := n % 1099511627776
theorem and40 (n : Int) : bits .and .i64 n 1099511627775 = low40 n := i64_and_mask n 40 (by omega)
theorem low40_bd (n : Int) : 0 ≤ low40 n ∧ low40 n < 1099511627776 := ⟨Int.emod_nonneg _ (by omega), Int.emod_lt_of_pos _ (by omega)⟩
/-- So many of a list, from a place on, are made low. -/
def mk (zs : List Int) (o n : Nat) : List Int := zs.take o ++ (((zs.drop o).take n).map low40 ++ zs.drop (o + n))
theorem mk_zero (zs : List Int) (o : Nat) : mk zs o 0 = zs := by simp [mk]
theorem mk_length {zs : List Int} {o n : Nat} (h : o + n ≤ zs.length) : (mk zs o n).length = zs.length := by
  simp only [mk, List.length_append, List.length_map, List.length_take, List.length_drop]; omega
theorem mk_at {zs : List Int} {o n i : Nat} (h : o + n ≤ i) (hi : i < zs.length) : (mk zs o n)[i]? = some (zs.getD i 0) := by
  have h1 : (zs.take o).length = o := by rw [List.length_take]; omega
  have h2 : (((zs.drop o).take n).map low40).length = n := by rw [List.length_map, List.length_take, List.length_drop]; omega
  unfold mk
  rw [List.getElem?_append_right (by omega), h1, List.getElem?_append_right (by omega), h2, List.getElem?_drop, show o + n + (i - o - n) = i by omega, List.getElem?_eq_getElem hi]
  simp [List.getD, hi]
theorem mk_step {zs : List Int} {o n : Nat} (h : o + n < zs.length) : (mk zs o n).set (o + n) (low40 (zs.getD (o + n) 0)) = mk zs o (n + 1) := by
  have h1 : (zs.take o).length = o := by rw [List.length_take]; omega
  have h2 : (((zs.drop o).take n).map low40).length = n := by rw [List.length_map, List.length_take, List.length_drop]; omega
  have hd : n < (zs.drop o).length := by rw [List.length_drop]; omega
  unfold mk
  rw [List.set_append, if_neg (by omega), h1, List.set_append, if_neg (by omega), h2, show o + n - o - n = 0 by omega, List.drop_eq_getElem_cons h, List.set_cons_zero, List.take_succ_eq_append_getElem hd, List.map_append, show o + (n + 1) = o + n + 1 by omega]
  simp [List.getD, h]

set_option maxRecDepth 100000 in
set_option maxHeartbeats 1600000 in
theorem tame1_any (b o : Nat) (t : TypeId) (zs : List Int) (w : World) (h : IBlk w b t zs) (hn : o + 7 ≤ zs.length) :
    Calls Try.prog 35 #[.pointer (some ⟨b, o, none⟩)] w fun e w' => e = .returned (.tuple #[]) ∧ IBlk w' b t (mk zs o 7) ∧ Only (· = b) w w' := by
  have c0 : w.drew.cell? ⟨b, o, none⟩ = some (.int .i64 (zs.getD o 0)) := h.drew.cell (by omega)
  have c1 : w.drew.cell? ⟨b, o + 1, none⟩ = some (.int .i64 (zs.getD (o + 1) 0)) := h.drew.cell (by omega)
  have c0' : w.cell? ⟨b, o, none⟩ = some (.int .i64 (zs.getD o 0)) := h.cell (by omega)
  have c1' : w.cell? ⟨b, o + 1, none⟩ = some (.int .i64 (zs.getD (o + 1) 0)) := h.cell (by omega)
  have z0 := h.frozen o
  have z1 := h.frozen (o + 1)
  have a0 := and40 (zs.getD o 0)
  have a1 := and40 (zs.getD (o + 1) 0)
  have s0 := mk_step (zs := zs) (o := o) (n := 0) (by omega)
  have s1 := mk_step (zs := zs) (o := o) (n := 1) (by omega)
  rw [mk_zero, Nat.add_zero] at s0
  have S0 := hide s0
  have S1 := hide s1
  clear s0 s1
  have hO : Only (· = b) w w.drew := (Only.refl _ _).drew
  have HD := h.drew
  go_enter Try.func35, Try.ntmps35
  go_upto_region 0 with fail
  go_cut [0] (fun s0 wx => s0 = .pointer (some ⟨b, o, none⟩) ∧ IBlk wx b t (mk zs o 2) ∧ Only (· = b) w wx)
  case first =>
    generalize zs.getD o 0 = x0 at c0 c0' a0 S0
    generalize zs.getD (o + 1) 0 = x1 at c1 c1' a1 S1
    go_region
    all_goals
      go_wp2_with fail
      go_meet
      refine ⟨rfl, ?_, ?_⟩
      · have := (h.set o (low40 x0)).set (o + 1) (low40 x1)
        rw [S0.out, S1.out] at this
        exact this
      · exact (((Only.refl (· = b) w).setCell (p := ⟨b, o, none⟩) (.inl rfl) _).setCell (p := ⟨b, o + 1, none⟩) (.inl rfl) _).drew
  case rest =>
    obtain ⟨rfl, hI, hO2⟩ := hcut
    clear c0 c1 c0' c1' z0 z1 a0 a1 hO HD h
    go_wp2_with fail
    go_loopw [19] (fun i wr => ∃ k : Nat, k ≤ 5 ∧ i = .int .i64 k ∧ IBlk wr b t (mk zs o (2 + k)) ∧ Only (· = b) w wr) (fun i _ => 5 - (intOf i).toNat)
    case atStart => exact ⟨0, by omega, rfl, hI, hO2⟩
    case round =>
      clear hI hO2
      obtain ⟨k, hk, rfl, hI, hO⟩ := hrel
      by_cases hlt : k < 5
      · have c0 := hI.cellAt (o + 2 + k) _ (mk_at (by omega) (by omega))
        have z0 := hI.frozen (o + 2 + k)
        have a0 := and40 (zs.getD (o + 2 + k) 0)
        have s0 := mk_step (zs := zs) (o := o) (n := 2 + k) (by omega)
        rw [show o + (2 + k) = o + 2 + k by omega] at s0
        have S0 := hide s0
        clear s0
        generalize zs.getD (o + 2 + k) 0 = x0 at c0 a0 S0
        go_wp2_with fail
        go_region
        all_goals
          go_wp2_with fail
          go_roundw
          case rel =>
            refine ⟨k + 1, by omega, by go_num, ?_, (hO.setCell (p := ⟨b, o + 2 + k, none⟩) (.inl rfl) _).drew⟩
            have := hI.set (o + 2 + k) (low40 x0)
            rw [S0.out] at this
            exact this
          case measure => simp [intOf]; omega
      · obtain rfl : k = 5 := by omega
        go_wp2_with fail
        go_end0
        exact ⟨rfl, hI, hO⟩

theorem getD_set {ys : List Int} {i : Nat} {x : Int} (hi : i < ys.length) (j : Nat) : (ys.set i x).getD j 0 = if i = j then x else ys.getD j 0 := by
  simp only [List.getD, List.getElem?_set]
  split
  · subst_vars; simp
  · rfl
theorem getD_mk {ys : List Int} {o n : Nat} (h : o + n ≤ ys.length) (j : Nat) : (mk ys o n).getD j 0 = if o ≤ j ∧ j < o + n then low40 (ys.getD j 0) else ys.getD j 0 := by
  have h1 : (ys.take o).length = o := by rw [List.length_take]; omega
  have h2 : (((ys.drop o).take n).map low40).length = n := by rw [List.length_map, List.length_take, List.length_drop]; omega
  simp only [List.getD]
  unfold mk
  by_cases hj : j < o
  · rw [List.getElem?_append_left (by omega), List.getElem?_take, if_pos hj, if_neg (by omega)]
  · rw [List.getElem?_append_right (by omega), h1]
    by_cases hj2 : j < o + n
    · rw [List.getElem?_append_left (by omega), List.getElem?_map, List.getElem?_take, if_pos (by omega), List.getElem?_drop, show o + (j - o) = j by omega, if_pos (by omega), List.getElem?_eq_getElem (by omega)]
      rfl
    · rw [List.getElem?_append_right (by omega), h2, List.getElem?_drop, show o + n + (j - o - n) = j by omega, if_neg (by omega)]
theorem getD_zeros {ys : List Int} {o n : Nat} (h : o + n ≤ ys.length) (j : Nat) : (ys.take o ++ zeros n ++ ys.drop (o + n)).getD j 0 = if o ≤ j ∧ j < o + n then 0 else ys.getD j 0 := by
  have h1 : (ys.take o).length = o := by rw [List.length_take]; omega
  simp only [List.getD]
  rw [List.append_assoc]
  by_cases hj : j < o
  · rw [List.getElem?_append_left (by omega), List.getElem?_take, if_pos hj, if_neg (by omega)]
  · rw [List.getElem?_append_right (by omega), h1]
    by_cases hj2 : j < o + n
    · rw [List.getElem?_append_left (by rw [zeros_length]; omega), if_pos (by omega)]
      simp [zeros, show j - o < n by omega]
    · rw [List.getElem?_append_right (by rw [zeros_length]; omega), zeros_length, List.getElem?_drop, show o + n + (j - o - n) = j by omega, if_neg (by omega)]

def Low (x : Int) : Prop := 0 ≤ x ∧ x < 1099511627776
def Heir (ys : List Int) (j c : Nat) : Prop :=
  (0 ≤ ys.getD (29 + j) 0 ∧ ys.getD (29 + j) 0 < 1073741824) ∧ (∀ t, t < 28 → ys.getD (29 + j) 0 = 0 → ys.getD (34 + 28 * j + t) 0 = 0) ∧ (∀ t, t < 7 * c → Low (ys.getD (34 + 28 * j + t) 0))
/-- How far tame has come: k1 cells, and k2 heirs with what they left. -/
def TS (ys : List Int) (k1 k2 : Nat) : Prop :=
  ys.length = 174 ∧ (0 ≤ ys.getD 0 0 ∧ ys.getD 0 0 < 1125899906842624) ∧ (∀ i, 1 ≤ i → i < 1 + 7 * k1 → Low (ys.getD i 0)) ∧ (∀ j, j < k2 → Heir ys j 4)
theorem TS.start {ys : List Int} {x : Int} (hl : ys.length = 174) (h : 0 ≤ x ∧ x < 1125899906842624) : TS (ys.set 0 x) 0 0 := by
  refine ⟨by simp [hl], ?_, fun i h1 h2 => by omega, fun j hj => by omega⟩
  rw [getD_set (by omega)]; simpa using h
theorem TS.cell {ys : List Int} {k : Nat} (h : TS ys k 0) (hk : k < 4) : TS (mk ys (1 + 7 * k) 7) (k + 1) 0 := by
  obtain ⟨h1, h2, h3, _⟩ := h
  refine ⟨by rw [mk_length (by omega), h1], ?_, fun i hi1 hi2 => ?_, fun j hj => by omega⟩
  · rw [getD_mk (by omega), if_neg (by omega)]; exact h2
  · rw [getD_mk (by omega)]
    split
    · exact low40_bd _
    · exact h3 i hi1 (by omega)
theorem Heir.far {ys zs : List Int} {j c : Nat} (h : Heir ys j c) (e : ∀ i, i = 29 + j ∨ (34 + 28 * j ≤ i ∧ i < 34 + 28 * j + 28) → zs.getD i 0 = ys.getD i 0) (hc : c ≤ 4) : Heir zs j c := by
  obtain ⟨h1, h2, h3⟩ := h
  refine ⟨by rw [e _ (.inl rfl)]; exact h1, fun t ht => ?_, fun t ht => ?_⟩
  · rw [e _ (.inl rfl), e _ (.inr ⟨by omega, by omega⟩)]; exact h2 t ht
  · rw [e _ (.inr ⟨by omega, by omega⟩)]; exact h3 t ht
theorem TS.far {ys zs : List Int} {k : Nat} (h : TS ys 4 k) (hl : zs.length = 174) (e : ∀ i, i < 29 ∨ (29 ≤ i ∧ i < 29 + k) ∨ (34 ≤ i ∧ i < 34 + 28 * k) → zs.getD i 0 = ys.getD i 0) : TS zs 4 k := by
  obtain ⟨_, h2, h3, h4⟩ := h
  refine ⟨hl, by rw [e _ (.inl (by omega))]; exact h2, fun i h1 hi => by rw [e _ (.inl (by omega))]; exact h3 i h1 hi, fun j hj => (h4 j hj).far (fun i hi => e i ?_) (Nat.le_refl _)⟩
  rcases hi with rfl | ⟨_, _⟩
  · right; left; omega
  · right; right; omega
theorem TS.heir {ys : List Int} {k : Nat} {x : Int} (h : TS ys 4 k) (hk : k < 5) (hx : 0 ≤ x ∧ x < 1073741824) : TS (ys.set (29 + k) x) 4 k ∧ (x ≠ 0 → Heir (ys.set (29 + k) x) k 0) := by
  have hl := h.1
  refine ⟨h.far (by simp [hl]) (fun i hi => by rw [getD_set (by omega), if_neg (by omega)]), fun hne => ⟨?_, fun t _ h0 => ?_, fun t ht => by omega⟩⟩
  · rw [getD_set (by omega), if_pos rfl]; exact hx
  · rw [getD_set (by omega), if_pos rfl] at h0; exact absurd h0 hne
theorem TS.none_ {ys : List Int} {k : Nat} (h : TS ys 4 k) (hk : k < 5) (h0 : ys.getD (29 + k) 0 = 0) : TS (ys.take (34 + 28 * k) ++ zeros 28 ++ ys.drop (34 + 28 * k + 28)) 4 k ∧ Heir (ys.take (34 + 28 * k) ++ zeros 28 ++ ys.drop (34 + 28 * k + 28)) k 0 := by
  have hl := h.1
  refine ⟨h.far (by simp only [List.length_append, List.length_take, List.length_drop, zeros_length]; omega) (fun i hi => by rw [getD_zeros (by omega), if_neg (by omega)]), ?_, fun t ht _ => ?_, fun t ht => by omega⟩
  · rw [getD_zeros (by omega), if_neg (by omega), h0]; omega
  · rw [getD_zeros (by omega), if_pos ⟨by omega, by omega⟩]
theorem TS.left {ys : List Int} {k c : Nat} (h : TS ys 4 k) (hk : k < 5) (hc : c < 4) (hh : Heir ys k c) : TS (mk ys (34 + 28 * k + 7 * c) 7) 4 k ∧ Heir (mk ys (34 + 28 * k + 7 * c) 7) k (c + 1) := by
  have hl := h.1
  obtain ⟨h1, h2, h3⟩ := hh
  refine ⟨h.far (by rw [mk_length (by omega), hl]) (fun i hi => by rw [getD_mk (by omega), if_neg (by omega)]), ?_, fun t ht h0 => ?_, fun t ht => ?_⟩
  · rw [getD_mk (by omega), if_neg (by omega)]; exact h1
  · rw [getD_mk (by omega), if_neg (by omega)] at h0
    rw [getD_mk (by omega), h2 t ht h0]
    split
    · rfl
    · rfl
  · rw [getD_mk (by omega)]
    split
    · exact low40_bd _
    · exact h3 t (by omega)
theorem TS.next {ys : List Int} {k : Nat} (h : TS ys 4 k) (hh : Heir ys k 4) : TS ys 4 (k + 1) :=
  ⟨h.1, h.2.1, h.2.2.1, fun j hj => by
    by_cases e : j = k
    · subst e; exact hh
    · exact h.2.2.2 j (by omega)⟩
end Go.Proofs.Ytfhepoihhigcaaa
