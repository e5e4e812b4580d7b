/- The contract of the Reader's Row; what it reads, and what is laid, as plain lists. -/
import Derived.Test.YtfhepoihhigcaaaCodCells
namespace Go.Proofs.Ytfhepoihhigcaaa
open Go.RowKit

/-- The reader of the heirs, and of what they left. -/
def rdH (hs ls : List Int) : Nat → List Int → Option ((List Int × List Int) × List Int)
  | 0, bs => some ((hs, ls), bs)
  | k + 1, bs => match rdN 9 bs with
    | none => none
    | some (h, r) => if 0 < h then
        match rdGo maxN [] 28 r with
        | none => none
        | some (l, r') => rdH (hs ++ [h]) (ls ++ l) k r'
      else rdH (hs ++ [h]) (ls ++ zeros 28) k r
def rdRow (bs : List Int) : Option (List Int × List Int) :=
  match rdN 9 bs with
  | none => none
  | some (v, r) => match rdGo maxN [] 28 r with
    | none => none
    | some (c, r1) => match rdH [] [] 5 r1 with
      | none => none
      | some ((hs, ls), r2) => some (v :: c ++ hs ++ ls, r2)
theorem rdN_bytes {bs : List Int} {n : Int} {r : List Int} (hb : ∀ z ∈ bs, 0 ≤ z ∧ z < 256) (h : rdN 9 bs = some (n, r)) : ∀ z ∈ r, 0 ≤ z ∧ z < 256 := bytes_rest hb (rdN_sound9 hb h).2.2

theorem Try.allocRow (w : World) : (Instr.alloc 42 true (.tuple #[])).run Try.prog w = .ok (.pointer (some ⟨w.heap.size, 0, none⟩)) (w.alloc (.cells (iA (zeros 174)) 42)) := by kernel_rfl
theorem Try.infoRow : (Try.prog.info? 42).map (·.size) = some 174 := by kernel_rfl
theorem Try.buildRow (v : Int) (c : List Int) (hc : c.length = 28) (w : World) : (Instr.build 42 #[(0, .int .i64 v), (1, .agg (iA c))]).run Try.prog w = .ok (.agg (iA (v :: c ++ (zeros 5 ++ zeros 140)))) w :=
  match c, hc with
  | [c0, c1, c2, c3, c4, c5, c6, c7, c8, c9, c10, c11, c12, c13, c14, c15, c16, c17, c18, c19, c20, c21, c22, c23, c24, c25, c26, c27], _ => run_build w _ _ _ (by kernel_rfl)

def finRow (v : Int) (c : List Int) : Option ((List Int × List Int) × List Int) → Option (List Int × List Int)
  | none => none
  | some ((hs, ls), r) => some (v :: c ++ hs ++ ls, r)
theorem rdRow_fin {bs r c r1 : List Int} {v : Int} (h1 : rdN 9 bs = some (v, r)) (h2 : rdGo maxN [] 28 r = some (c, r1)) : rdRow bs = finRow v c (rdH [] [] 5 r1) := by
  rw [rdRow, h1]; simp only [h2]
  cases rdH [] [] 5 r1 with
  | none => rfl
  | some x => obtain ⟨⟨hs, ls⟩, r2⟩ := x; rfl
def rowOf (v : Int) (c hs ls : List Int) (k : Nat) : List Int := v :: c ++ (hs ++ zeros k) ++ (ls ++ zeros (28 * k))
def RowSt (w : World) (g : Nat) (T : Nat → Prop) (G : Option (List Int × List Int)) (v : Int) (c : List Int) (b b' k : Nat) (wr : World) : Prop :=
  ∃ hs ls r, hs.length + k = 5 ∧ ls.length = 28 * hs.length ∧ G = finRow v c (rdH hs ls k r) ∧ Rd wr g T r false ∧ (∀ z ∈ r, 0 ≤ z ∧ z < 256) ∧ Only (· = g) w wr ∧ IBlk wr b 42 (rowOf v c hs ls k) ∧ IBlk wr b' 42 (zeros 174)
theorem rowOf_length {v : Int} {c hs ls : List Int} {k : Nat} (hc : c.length = 28) (hh : hs.length + k = 5) (hl : ls.length = 28 * hs.length) : (rowOf v c hs ls k).length = 174 := by
  simp only [rowOf, List.length_append, List.length_cons, zeros_length]; omega
/-- An heir's place, and what is laid there. -/
def rowH (v : Int) (c hs ls : List Int) (j : Nat) (h : Int) : List Int := v :: c ++ (hs ++ [h] ++ zeros j) ++ (ls ++ zeros (28 * (j + 1)))
theorem rowOf_setH {v h : Int} {c hs ls : List Int} {j i : Nat} (hc : c.length = 28) (hi : i = 29 + hs.length) : (rowOf v c hs ls (j + 1)).set i h = rowH v c hs ls j h := by
  have hp : (v :: c).length = 29 := by simp [hc]
  unfold rowOf rowH
  rw [List.set_append, if_pos (by simp only [List.length_append, zeros_length, hp]; omega), List.set_append, if_neg (by rw [hp]; omega), hp, show i - 29 = hs.length by omega, set_next]
theorem rowH_at {v h : Int} {c hs ls : List Int} {j i : Nat} (hc : c.length = 28) (hi : i = 29 + hs.length) : (rowH v c hs ls j h)[i]? = some h := by
  have hp : (v :: c).length = 29 := by simp [hc]
  unfold rowH
  rw [List.getElem?_append_left (by simp only [List.length_append, List.length_cons, List.length_nil, zeros_length]; omega), List.getElem?_append_right (by rw [hp]; omega), hp, show i - 29 = hs.length by omega, List.append_assoc, List.getElem?_append_right (Nat.le_refl _), Nat.sub_self]
  rfl
theorem rowOf_at {v : Int} {c hs ls : List Int} {j i : Nat} (hc : c.length = 28) (hi : i = 29 + hs.length) : (rowOf v c hs ls (j + 1))[i]? = some 0 := by
  have hp : (v :: c).length = 29 := by simp [hc]
  unfold rowOf
  rw [List.getElem?_append_left (by simp only [List.length_append, zeros_length, hp]; omega), List.getElem?_append_right (by rw [hp]; omega), hp, show i - 29 = hs.length by omega, replicate_getD]
theorem rowH_none {v h : Int} {c hs ls : List Int} {j : Nat} : rowH v c hs ls j h = rowOf v c (hs ++ [h]) (ls ++ zeros 28) j := by
  unfold rowH rowOf
  rw [show 28 * (j + 1) = 28 + 28 * j by omega, zeros_add, List.append_assoc ls]
theorem rowH_some {v h : Int} {c hs ls l : List Int} {j o : Nat} (hc : c.length = 28) (hh : hs.length + (j + 1) = 5) (hl : ls.length = 28 * hs.length) (hl28 : l.length = 28) (ho : o = 34 + 28 * hs.length) :
    (rowH v c hs ls j h).take o ++ l ++ (rowH v c hs ls j h).drop (o + l.length) = rowOf v c (hs ++ [h]) (ls ++ l) j := by
  have e : rowH v c hs ls j h = (v :: c ++ (hs ++ [h] ++ zeros j) ++ ls) ++ zeros (l.length + 28 * j) := by
    unfold rowH
    rw [hl28, show 28 * (j + 1) = 28 + 28 * j by omega, ← List.append_assoc]
  have hp : (v :: c ++ (hs ++ [h] ++ zeros j) ++ ls).length = o := by
    simp only [List.length_append, List.length_cons, List.length_nil, zeros_length]; omega
  rw [e, ← hp, setN_next]
  unfold rowOf
  simp only [List.append_assoc]
theorem rowH_length {v h : Int} {c hs ls : List Int} {j : Nat} (hc : c.length = 28) (hh : hs.length + (j + 1) = 5) (hl : ls.length = 28 * hs.length) : (rowH v c hs ls j h).length = 174 := by
  simp only [rowH, List.length_append, List.length_cons, List.length_nil, zeros_length]; omega

set_option maxRecDepth 100000 in
set_option maxHeartbeats 3200000 in
theorem row_any (g : Nat) (T : Nat → Prop) (bs : List Int) (w : World) (h : Rd w g T bs false) (hb : ∀ z ∈ bs, 0 ≤ z ∧ z < 256) :
    Calls Try.prog 19 #[.pointer (some ⟨g, 0, none⟩)] w (Told (fun l => .agg (iA l)) (rdRow bs) w g T) := by
  have hlt := h.lt
  have hi174 := Try.infoRow
  have hi28 := Try.infoCells
  have h1 : Rd (w.alloc (.cells (iA (zeros 174)) 42)) g T bs false := h.only ((Only.refl (fun _ => False) _).alloc _) (by simp) (by simp)
  have hr1 : IBlk (w.alloc (.cells (iA (zeros 174)) 42)) w.heap.size 42 (zeros 174) := IBlk.new _ _ _
  have hO1 : Only (· = g) w (w.alloc (.cells (iA (zeros 174)) 42)) := (Only.refl _ _).alloc _
  have HN := num_any g T bs _ h1 hb
  cases hs : rdN 9 bs with
  | none =>
    have hG : rdRow bs = none := by rw [rdRow, hs]
    rw [hG]
    rw [hs] at HN
    clear hs
    go_enter Try.func19, Try.ntmps19
    go_wp2_with (refine wpList_alloc_i rfl 42 rfl (iA (zeros 174)) Try.allocRow ?_)
    (with_reducible refine HN.mono ?_)
    rintro e w2 hX
    obtain ⟨rfl, hR, hO⟩ := hX.no
    exact ⟨rfl, hO1.trans_ hO, rfl, hR⟩
  | some x =>
    obtain ⟨v, r0⟩ := x
    have hb0 := rdN_bytes hb hs
    rw [hs] at HN
    cases hs2 : rdGo maxN [] 28 r0 with
    | none =>
      have hG : rdRow bs = none := by rw [rdRow, hs]; simp only [hs2]
      rw [hG]
      clear hs hG
      go_enter Try.func19, Try.ntmps19
      go_wp2_with (refine wpList_alloc_i rfl 42 rfl (iA (zeros 174)) Try.allocRow ?_)
      (with_reducible refine HN.mono ?_)
      rintro e w2 hX
      obtain ⟨rfl, hR2, hO2⟩ := hX.rd
      have HN2 := cells_any g T r0 _ hR2 hb0
      rw [hs2] at HN2
      clear hs2
      go_wp2_with fail
      (with_reducible refine HN2.mono ?_)
      rintro e w3 hX
      obtain ⟨rfl, hR, hO⟩ := hX.no
      exact ⟨rfl, (hO1.trans_ hO2).trans_ hO, rfl, hR⟩
    | some x =>
      obtain ⟨c, r1⟩ := x
      have hc28 : c.length = 28 := by have := rdGo_len maxN 28 hs2; simpa using this
      have hb1 := rdGo_bytes hb0 hs2
      obtain ⟨G, hG0⟩ : ∃ G, G = finRow v c (rdH [] [] 5 r1) := ⟨_, rfl⟩
      rw [rdRow_fin hs hs2, ← hG0]
      have HG := hide hG0
      have HC := hide hc28
      clear hG0 hs hc28
      go_enter Try.func19, Try.ntmps19
      go_wp2_with (refine wpList_alloc_i rfl 42 rfl (iA (zeros 174)) Try.allocRow ?_)
      (with_reducible refine HN.mono ?_)
      rintro e w2 hX
      obtain ⟨rfl, hR2, hO2⟩ := hX.rd
      have HN2 := cells_any g T r0 _ hR2 hb0
      rw [hs2] at HN2
      clear hs2
      go_wp2_with fail
      (with_reducible refine HN2.mono ?_)
      rintro e w3 hX
      obtain ⟨rfl, hR3, hO3⟩ := hX.rd
      have hO13 := (hO1.trans_ hO2).trans_ hO3
      have hb1' : IBlk w3 w.heap.size 42 (zeros 174) := ((hr1.only hO2 (by show ¬ w.heap.size = g; omega)).only hO3 (by show ¬ w.heap.size = g; omega))
      have hw3 : w.heap.size < w3.heap.size := hb1'.lt
      have hbl := Try.buildRow v c HC.out w3
      have hxl : (v :: c ++ (zeros 5 ++ zeros 140)).length = 174 := by simp only [List.length_append, List.length_cons, zeros_length, HC.out]
      have hn0 : 0 + (v :: c ++ (zeros 5 ++ zeros 140)).length ≤ (zeros 174).length := by rw [hxl]; decide
      have hnew : IBlk (w3.alloc (.cells (iA (zeros 174)) 42)) w3.heap.size 42 (zeros 174) := IBlk.new _ _ _
      have hb2 := hnew.setN hn0
      rw [show (zeros 174).take 0 ++ (v :: c ++ (zeros 5 ++ zeros 140)) ++ (zeros 174).drop (0 + (v :: c ++ (zeros 5 ++ zeros 140)).length) = rowOf v c [] [] 5 by rw [hxl]; simp [rowOf, zeros]] at hb2
      have hO4 : Only (· = w3.heap.size) w3 ((w3.alloc (.cells (iA (zeros 174)) 42)).setCells w3.heap.size 0 (iV (v :: c ++ (zeros 5 ++ zeros 140)))) := ((Only.refl _ _).alloc _).trans_ (only_cells _ _ _ _)
      have hR4 := hR3.only hO4 (by show ¬ g = w3.heap.size; omega) (fun i hi (e : i = w3.heap.size) => by omega)
      have hJ4 := hb1'.only hO4 (by show ¬ w.heap.size = w3.heap.size; omega)
      have hO14 := hO13.trans hO4 (fun i (e : i = w3.heap.size) => .inr (by omega))
      generalize hXe : v :: c ++ (zeros 5 ++ zeros 140) = X at hbl hxl hn0 hb2 hO4 hR4 hJ4 hO14
      clear hXe
      go_wp2_with (first
        | refine wpList_build_i rfl 42 0 1 (.tmp 6) (.tmp 8) rfl (.int .i64 v) (.agg (iA c)) rfl rfl _ hbl ?_
        | refine wpList_alloc_i rfl 42 rfl (iA (zeros 174)) Try.allocRow ?_
        | refine wpList_store_i rfl 42 (.tmp 3) (.tmp 9) rfl hnew 0 _ rfl rfl hn0 (by rw [hxl]; exact hi174) ?_)
      generalize hW : (w3.alloc (.cells (iA (zeros 174)) 42)).setCells w3.heap.size 0 (iV X) = w4 at hb2 hO4 hR4 hJ4 hO14
      clear hW
      go_loopw [10] (fun i wr => ∃ (k : Nat), k ≤ 5 ∧ i = .int .i64 k ∧ RowSt w g T G v c w3.heap.size w.heap.size (5 - k) wr) (fun i _ => 5 - (intOf i).toNat)
      case atStart => exact ⟨0, by omega, rfl, [], [], r1, rfl, rfl, HG.out, hR4, hb1, hO14, hb2, hJ4⟩
      case round =>
        clear hO4 hR4 hJ4 hO14 hb2 hnew hn0 hxl hbl hb1' hO13 hR3 hO3 hO2 hR2 HN HN2 hO1 hr1 h1 HG h hb hb0 hb1
        obtain ⟨k, hk, rfl, hs, ls, r, hh, hl, hG, hR, hbr, hO, hI, hJ⟩ := hrel
        have hc28 := HC.out
        by_cases hlt5 : k < 5
        · obtain ⟨j, hj⟩ : ∃ j, 5 - k = j + 1 := ⟨4 - k, by omega⟩
          rw [hj] at hG hI hh
          have HN := num_any g T r wr hR hbr
          have hgb : ¬ w3.heap.size = g := by omega
          have hgw : ¬ w.heap.size = g := by omega
          cases hs1 : rdN 9 r with
          | none =>
            have hG' : G = none := by rw [hG, rdH, hs1]; rfl
            rw [hs1] at HN
            have HG := hide hG'
            clear hG hI hJ hR hj hs1 hG'
            go_wp2_with fail
            (with_reducible refine HN.mono ?_)
            rintro e w5 hX
            obtain ⟨rfl, hR5, hO5⟩ := hX.no
            refine ⟨rfl, hO.trans_ hO5, ?_⟩
            rw [HG.out]
            exact ⟨rfl, hR5⟩
          | some x =>
            obtain ⟨n, r'⟩ := x
            have hbr' := rdN_bytes hbr hs1
            have hnp := (rdN_sound9 hbr hs1).1
            rw [hs1] at HN
            have hik : 29 + k = 29 + hs.length := by omega
            have hlen1 := rowH_length (v := v) (h := n) hc28 hh hl
            have F1 := rowOf_at (v := v) (ls := ls) (j := j) hc28 hik
            have F2 := rowOf_setH (v := v) (h := n) (ls := ls) (j := j) hc28 hik
            have F3 := rowH_at (v := v) (h := n) (ls := ls) (j := j) hc28 hik
            have HJ := hide hj
            have HH := hide hh
            have HLL := hide hl
            have HF1 := hide F1
            have HF2 := hide F2
            have HF3 := hide F3
            have HL1 := hide hlen1
            clear hj hh hl hik F1 F2 F3 hlen1 hc28
            by_cases hpos : 0 < n
            · cases hs2 : rdGo maxN [] 28 r' with
              | none =>
                have hG' : G = none := by rw [hG, rdH, hs1]; simp only [if_pos hpos, hs2]; rfl
                have HG := hide hG'
                clear hG hG' hs1
                go_wp2_with fail
                (with_reducible refine HN.mono ?_)
                rintro e w5 hX
                obtain ⟨rfl, hR5, hO5⟩ := hX.rd
                have hI5 := hI.only hO5 hgb
                have hc5 := hI5.cellAt (29 + k) 0 HF1.out
                have hz5 := hI5.frozen (29 + k)
                have hI6 := hI5.set (29 + k) n
                rw [HF2.out] at hI6
                have hc6 := hI6.cellAt (29 + k) n HF3.out
                have hO6 := only_cell w5 w3.heap.size (29 + k) (.int .i64 n)
                have hR6 := hR5.only hO6 (by show ¬ g = w3.heap.size; omega) (fun i hi (e : i = w3.heap.size) => by omega)
                have HN2 := cells_any g T r' _ hR6 hbr'
                rw [hs2] at HN2
                clear hs2
                go_wp2_with fail
                (with_reducible refine HN2.mono ?_)
                rintro e w7 hX
                obtain ⟨rfl, hR7, hO7⟩ := hX.no
                refine ⟨rfl, ((hO.trans_ hO5).trans hO6 (fun i (e : i = w3.heap.size) => .inr (by omega))).trans_ hO7, ?_⟩
                rw [HG.out]
                exact ⟨rfl, hR7⟩
              | some y =>
                obtain ⟨l, r''⟩ := y
                have hl28 : l.length = 28 := by have := rdGo_len maxN 28 hs2; simpa using this
                have hbr'' := rdGo_bytes hbr' hs2
                have hG' : G = finRow v c (rdH (hs ++ [n]) (ls ++ l) j r'') := by rw [hG, rdH, hs1]; simp only [if_pos hpos, hs2]
                have HG := hide hG'
                have H28 := hide hl28
                clear hG hG' hs1 hl28
                go_wp2_with fail
                (with_reducible refine HN.mono ?_)
                rintro e w5 hX
                obtain ⟨rfl, hR5, hO5⟩ := hX.rd
                have hI5 := hI.only hO5 hgb
                have hJ5 := hJ.only hO5 hgw
                have hc5 := hI5.cellAt (29 + k) 0 HF1.out
                have hz5 := hI5.frozen (29 + k)
                have hI6 := hI5.set (29 + k) n
                rw [HF2.out] at hI6
                have hc6 := hI6.cellAt (29 + k) n HF3.out
                have hO6 := only_cell w5 w3.heap.size (29 + k) (.int .i64 n)
                have hR6 := hR5.only hO6 (by show ¬ g = w3.heap.size; omega) (fun i hi (e : i = w3.heap.size) => by omega)
                have hJ6 := hJ5.only hO6 (by show ¬ w.heap.size = w3.heap.size; omega)
                have HN2 := cells_any g T r' _ hR6 hbr'
                rw [hs2] at HN2
                clear hs2
                go_wp2_with fail
                (with_reducible refine HN2.mono ?_)
                rintro e w7 hX
                obtain ⟨rfl, hR7, hO7⟩ := hX.rd
                have hI7 := hI6.only hO7 hgb
                have hJ7 := hJ6.only hO7 hgw
                have hno : 34 + k * 28 + l.length ≤ (rowH v c hs ls j n).length := by rw [HL1.out, H28.out]; omega
                go_wp2_with (refine wpList_store_i rfl 39 (.tmp 27) (.tmp 25) rfl hI7 (34 + k * 28) l rfl rfl hno (by rw [H28.out]; exact hi28) ?_)
                go_roundw
                case rel =>
                  have hj := HJ.out
                  have hh := HH.out
                  have hl := HLL.out
                  have hO8 := only_cells w7 w3.heap.size (34 + k * 28) (iV l)
                  have hI8 := hI7.setN hno
                  rw [rowH_some HC.out hh hl H28.out (by omega)] at hI8
                  refine ⟨k + 1, by omega, by go_num, hs ++ [n], ls ++ l, r'', by simp; omega, by simp [H28.out]; omega, by rw [HG.out, show 5 - (k + 1) = j by omega], hR7.only hO8 (by show ¬ g = w3.heap.size; omega) (fun i hi (e : i = w3.heap.size) => by omega), hbr'', (((hO.trans_ hO5).trans hO6 (fun i (e : i = w3.heap.size) => .inr (by omega))).trans_ hO7).trans hO8 (fun i (e : i = w3.heap.size) => .inr (by omega)), by rw [show 5 - (k + 1) = j by omega]; exact hI8, hJ7.only hO8 (by show ¬ w.heap.size = w3.heap.size; omega)⟩
                case measure => simp [intOf]; omega
            · have hG' : G = finRow v c (rdH (hs ++ [n]) (ls ++ zeros 28) j r') := by rw [hG, rdH, hs1]; simp only [if_neg hpos]
              have HG := hide hG'
              clear hG hG' hs1
              go_wp2_with fail
              (with_reducible refine HN.mono ?_)
              rintro e w5 hX
              obtain ⟨rfl, hR5, hO5⟩ := hX.rd
              have hI5 := hI.only hO5 hgb
              have hJ5 := hJ.only hO5 hgw
              have hc5 := hI5.cellAt (29 + k) 0 HF1.out
              have hz5 := hI5.frozen (29 + k)
              have hI6 := hI5.set (29 + k) n
              rw [HF2.out] at hI6
              have hc6 := hI6.cellAt (29 + k) n HF3.out
              have hO6 := only_cell w5 w3.heap.size (29 + k) (.int .i64 n)
              have hd : decide (0 < n) = false := by simpa using hpos
              go_wp2_with fail
              go_roundw
              case rel =>
                rw [rowH_none] at hI6
                have hj := HJ.out
                have hh := HH.out
                have hl := HLL.out
                exact ⟨k + 1, by omega, by go_num, hs ++ [n], ls ++ zeros 28, r', by simp; omega, by simp [zeros_length]; omega, by rw [HG.out, show 5 - (k + 1) = j by omega], hR5.only hO6 (by show ¬ g = w3.heap.size; omega) (fun i hi (e : i = w3.heap.size) => by omega), hbr', (hO.trans_ hO5).trans hO6 (fun i (e : i = w3.heap.size) => .inr (by omega)), by rw [show 5 - (k + 1) = j by omega]; exact hI6, hJ5.only hO6 (by show ¬ w.heap.size = w3.heap.size; omega)⟩
              case measure => simp [intOf]; omega
        · obtain rfl : k = 5 := by omega
          rw [show 5 - 5 = 0 from rfl] at hG hI hh
          obtain ⟨zs, hzs⟩ : ∃ zs, zs = rowOf v c hs ls 0 := ⟨_, rfl⟩
          have hzl : zs.length = 174 := by rw [hzs]; exact rowOf_length hc28 hh hl
          rw [← hzs] at hI
          have hG' : G = some (zs, r) := by rw [hG, rdH, hzs]; simp [finRow, rowOf, zeros]
          have hn7 : 0 + zs.length ≤ (zeros 174).length := by rw [hzl]; decide
          have hJ2 := hJ.setN hn7
          rw [show (zeros 174).take 0 ++ zs ++ (zeros 174).drop (0 + zs.length) = zs by rw [hzl]; simp [zeros]] at hJ2
          have HG := hide hG'
          have HZ := hide hzl
          clear hG hG' hl hh hzs hzl hc28
          go_wp2_with (first
            | (refine wpList_load_i rfl 42 (.tmp 3) rfl hI 0 174 rfl (by have := HZ.out; omega) Try.underlying42 rfl hi174 ?_; rw [List.drop_zero, List.take_of_length_le (Nat.le_of_eq HZ.out)])
            | refine wpList_store_i rfl 42 (.tmp 2) (.tmp 29) rfl hJ 0 zs rfl rfl hn7 (by rw [HZ.out]; exact hi174) ?_)
          have hO7 := only_cells wr w.heap.size 0 (iV zs)
          refine bodyPost_ret (results_i rfl rfl hJ2 Try.underlying42 rfl (by rw [HZ.out]; exact hi174)) rfl ⟨hO.trans hO7 (fun i (e : i = w.heap.size) => .inr (by omega)), ?_⟩
          rw [HG.out]
          exact ⟨rfl, hR.only hO7 (by show ¬ g = w.heap.size; omega) (fun i hi (e : i = w.heap.size) => by omega)⟩
end Go.Proofs.Ytfhepoihhigcaaa
