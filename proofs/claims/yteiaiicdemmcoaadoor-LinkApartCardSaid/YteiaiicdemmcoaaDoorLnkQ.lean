/- Frames, in plain words; Frame and Open. -/
import Derived.Test.YteiaiicdemmcoaaDoorSumTurn
import Derived.Test.YteiaiicdemmcoaaDoorBoxT
import Derived.Deep.DeepCutAuto
namespace Go.Proofs.YteiaiicdemmcoaaDoor
open Go.RowKit

/-! ### In plain words -/
/-- The frame of bytes between two. -/
def frL (i j : Nat) (b : List Int) : List Int := putL ((i : Int) :: (j : Int) :: b)
/-- The bytes of a frame. -/
def bodyL (zs : List Int) : List Int := (takeL zs).drop 2
/-- These bytes are a frame between those two. -/
def opB (i j : Nat) (zs : List Int) : Bool := decide (frL i j (bodyL zs) = zs)
section
variable {i j k l : Nat} {b zs xs ys : List Int}
theorem putL_inj (h : putL xs = putL ys) : xs = ys := by rw [← takeL_putL xs, h, takeL_putL]
theorem frL_length : (frL i j b).length = b.length + 6 := by rw [frL, putL_length]; rfl
theorem body_frL : bodyL (frL i j b) = b := by rw [bodyL, frL, takeL_putL]; rfl
theorem frL_inj (h : frL i j b = frL k l zs) : i = k ∧ j = l ∧ b = zs := by
  have := putL_inj h
  simp only [List.cons.injEq] at this
  exact ⟨by omega, by omega, this.2.2⟩
theorem opB_frL : opB k l (frL i j b) = decide (k = i ∧ l = j) := by
  unfold opB
  rw [body_frL]
  by_cases h : k = i ∧ l = j
  · obtain ⟨rfl, rfl⟩ := h; simp
  · rw [decide_eq_false h, decide_eq_false]
    intro e
    exact h ⟨(frL_inj e).1, (frL_inj e).2.1⟩
theorem opB_short (h : zs.length < 6) : opB i j zs = false := decide_eq_false fun e => by
  have := congrArg List.length e
  rw [frL_length] at this
  omega
theorem opB_bad (h : takeB zs = false) : opB i j zs = false := decide_eq_false fun e => by
  rw [← e, frL, takeB_putL] at h
  cases h
theorem opB_at {x y : Int} (h : takeB zs = true) (e : takeL zs = x :: y :: b) : opB i j zs = (decide (x = i) && decide (y = j)) := by
  have hz : putL (takeL zs) = zs := by simpa [takeB, eqB] using h
  unfold opB frL bodyL
  rw [← hz, takeL_putL, e]
  by_cases h1 : x = i
  · by_cases h2 : y = j
    · subst h1 h2; simp
    · rw [decide_eq_false h2, Bool.and_false, decide_eq_false]
      intro h3
      have := putL_inj h3
      simp only [List.drop_succ_cons, List.drop_zero, List.cons.injEq] at this
      exact h2 this.2.1.symm
  · rw [decide_eq_false h1, Bool.false_and, decide_eq_false]
    intro h3
    have := putL_inj h3
    simp only [List.drop_succ_cons, List.drop_zero, List.cons.injEq] at this
    exact h1 this.1.symm
theorem opB_body (h : opB i j zs = true) : frL i j (bodyL zs) = zs := by simpa [opB] using h
theorem frL_bd (hi : i < 256) (hj : j < 256) (h : ∀ z ∈ b, 0 ≤ z ∧ z < 256) : ∀ z ∈ frL i j b, 0 ≤ z ∧ z < 256 := putL_bd fun z hz => by
  simp only [List.mem_cons] at hz
  rcases hz with rfl | rfl | hz
  · omega
  · omega
  · exact h z hz
theorem wf_u8 {zs : List Int} (h : ∀ z ∈ zs, 0 ≤ z ∧ z < 256) : ∀ z ∈ zs, (Lit.int .u8 z).wf = true := fun z hz => by
  have := h z hz
  show (decide (0 ≤ z) && decide (z ≤ 255)) = true
  simp; omega
end

/-- A list with one byte turned is no bytes with their sum. -/
theorem takeB_turned {xs : List Int} {i : Nat} {x : Int} (hx : ∀ z ∈ xs, 0 ≤ z ∧ z < 256) (hi : i < xs.length + 4) (h0 : 0 ≤ x) (h1 : x < 256) (hne : x ≠ 0) :
    takeB ((putL xs).set i (bits .xor .u8 ((putL xs).getD i 0) x)) = false := by
  have hil : i < (putL xs).length := by rw [putL_length]; exact hi
  have hz := getD_bd (putL_bd hx) (by omega) i
  cases hT : takeB ((putL xs).set i (bits .xor .u8 ((putL xs).getD i 0) x)) with
  | false => rfl
  | true =>
    exfalso
    have h := takeB_window (t := i) (p := (putL xs).set i (bits .xor .u8 ((putL xs).getD i 0) x)) (fun z hz' => by
      rcases List.mem_or_eq_of_mem_set hz' with h | rfl
      · exact putL_bd hx z h
      · exact xor_bd _ _ hz ⟨h0, h1⟩) hx (by simp) (fun j hj => by rw [List.getElem?_set_ne (by omega)]) hT
    have e := congrArg (·[i]?) h
    simp [hil] at e
    exact hne (xor_same _ _ hz ⟨h0, h1⟩ (by simpa [List.getD, hil] using e))
theorem opB_turned {i j k l p : Nat} {b : List Int} {x : Int} (hi : i < 256) (hj : j < 256) (hb : ∀ z ∈ b, 0 ≤ z ∧ z < 256) (hp : p < b.length + 6) (h0 : 0 ≤ x) (h1 : x < 256) (hne : x ≠ 0) :
    opB k l ((frL i j b).set p (bits .xor .u8 ((frL i j b).getD p 0) x)) = false :=
  opB_bad (takeB_turned (fun z hz => by
    simp only [List.mem_cons] at hz
    rcases hz with rfl | rfl | hz
    · omega
    · omega
    · exact hb z hz) (by simp only [List.length_cons]; omega) h0 h1 hne)
/-! ### Frame -/
theorem own_lower {w : World} {base base' : Nat} {e : TypeId} {size n : Nat} {v : Value} {xs : List Value} (h : w.ownsRow base e size v n xs) (hb : base' ≤ base) : w.ownsRow base' e size v n xs :=
  ⟨h.1, h.2.elim .inl fun ⟨g, cap, cur, e, hg, r⟩ => .inr ⟨g, cap, cur, e, Nat.le_trans hb hg, r⟩⟩
theorem own_two (w : World) (t : TypeId) (x y : Value) : (w.alloc (.cells #[x, y] t)).ownsRow w.heap.size t 1 (.slice (some ⟨w.heap.size, 0, none⟩) 2 2) 2 [x, y] :=
  ⟨rfl, .inr ⟨w.heap.size, 2, #[x, y], rfl, Nat.le_refl _, heap_alloc_new w _, Nat.le_refl _, by unfold maxLen; omega, rfl, rfl⟩⟩
theorem SlIn.fit {w : World} {s : Sl} (h : SlIn w w.heap.size s) : Part.Fit w ⟨s.A, s.n, s.c, s.zs⟩ := ⟨h.reads, Nat.le_trans h.n_le h.c_le, bytes_bd h.wf⟩
theorem SlIn.go {w w' : World} {B : Nat} {s : Sl} (h : SlIn w B s) (hb : Below B w w') (hB : B ≤ w'.heap.size) : SlIn w' w'.heap.size s := ⟨(h.reads.below hb).more hB, h.n_le, h.c_le, h.wf⟩
theorem SlIn.next {w w' : World} {s : Sl} (h : SlIn w w.heap.size s) (hb : Below w.heap.size w w') : SlIn w' w'.heap.size s := h.go hb hb.size
theorem SlIn.drew {w : World} {s : Sl} (h : SlIn w w.heap.size s) : SlIn w.drew w.drew.heap.size s := ⟨h.reads.drew, h.n_le, h.c_le, h.wf⟩
theorem fits_runs (w : World) {m : Nat} (h : m < 256) : Calls Tryd.prog 16 #[.int .i64 m] w fun e w' => e = .returned (.bool true) ∧ w = w' := by
  have h0 : (0 : Int) ≤ (m : Int) := by omega
  have h1 : (m : Int) < 256 := by omega
  go_enter Tryd.func16, Tryd.ntmps16
  go_wp2_with fail
  go_ret
  exact ⟨rfl, rfl⟩
set_option maxRecDepth 100000 in
set_option maxHeartbeats 1000000 in
theorem Frame_runs (w : World) (hL : Laid w) {i j : Nat} (hi : i < 256) (hj : j < 256) (s : Sl) (hs : SlIn w w.heap.size s) (hn : s.n ≤ 90000) :
    Calls Tryd.prog 8 #[.int .i64 i, .int .i64 j, .slice s.A s.n s.c] w fun e w' => ∃ t : Sl, e = .returned (slV t) ∧ t.zs = frL i j s.zs ∧ t.n = s.n + 6 ∧ OwnS w' w.heap.size t ∧ Below w.heap.size w w' := by
  obtain ⟨A, n, c, zs⟩ := s
  obtain ⟨i0, hi0, hz0, hz1, hz2⟩ := info_parts Tryd.infoByte
  have hbd := bytes_bd hs.wf
  go_enter Tryd.func8, Tryd.ntmps8
  go_wp2_with fail
  refine (fits_runs w hi).mono ?_
  rintro e w1 ⟨rfl, rfl⟩
  go_wp2_with fail
  refine (fits_runs w hj).mono ?_
  rintro e w1 ⟨rfl, rfl⟩
  have h0 := own_two w 5 (.int .u8 i) (.int .u8 j)
  have m1 : (i : Int) % 256 = i := by omega
  have m2 : (j : Int) % 256 = j := by omega
  have hb0 : Below w.heap.size w (w.alloc (.cells #[.int .u8 i, .int .u8 j] 5)) := (Below.refl _ _).alloc (Nat.le_refl _) _
  have hr0 := (hs.keep hb0).reads
  have hz := hs.len
  simp only at hz
  go_wp2_with (at_builtin; refine wpList_append_any _ rfl (.tmp 20) (.tmp 21) 23 rfl w.heap.size 5 i0 (.int .u8 0) 1 1 Tryd.underlying23 hi0 hz0 hz1 hz2 rfl (by decide) _ _ _ rfl h0 w.heap.size A n c (u8V zs) rfl hr0 (oneCell_ints _) (by unfold maxLen; omega) (by omega) (by simp) ?_; intro v2 w2 hown2 hgrow2 _)
  have hB2 : Below w.heap.size w w2 := hb0.grown hgrow2 (by simp) (own_base h0)
  have hown3 : w2.ownsRow w.heap.size 5 1 v2 (2 + n) (u8V ((i : Int) :: (j : Int) :: zs)) := hown2
  have hf : ∀ z ∈ ((i : Int) :: (j : Int) :: zs), 0 ≤ z ∧ z < 256 := fun z hz => by
    simp only [List.mem_cons] at hz
    rcases hz with rfl | rfl | hz
    · omega
    · omega
    · exact hbd z hz
  obtain ⟨A2, c2, rfl⟩ := own_slice hown3
  have p2 := own_fit hown3 (by omega) hf
  have hP := hide (put_any A2 (2 + n) c2 _ w2 (hL.below hB2 hL.lt) p2 (by omega))
  clear hown2 hown3 hgrow2 h0 hr0 m1 m2
  go_wp2_with fail
  (with_reducible refine hP.out.mono ?_)
  rintro e w4 ⟨v, rfl, hown, hb4⟩
  clear hP
  go_wp2_with fail
  go_ret
  obtain ⟨s, rfl, e1, e2, _⟩ := own_sl hown (wf_u8 (putL_bd hf))
  have e3 : s.n = n + 6 := by omega
  refine ⟨s, rfl, e1, e3, ?_, hB2.trans (hb4.mono hB2.size)⟩
  unfold OwnS
  rw [e1, e2]
  exact own_lower hown hB2.size

/-! ### Open -/
set_option maxRecDepth 100000 in
set_option maxHeartbeats 1000000 in
theorem Open_runs (w : World) (hL : Laid w) (i j : Nat) (s : Sl) (hs : SlIn w w.heap.size s) (hn : s.n ≤ 100000) :
    Calls Tryd.prog 9 #[.int .i64 i, .int .i64 j, .slice s.A s.n s.c] w fun e w' => Below w.heap.size w w' ∧
      ((opB i j s.zs = true ∧ ∃ t : Sl, e = .returned (.tuple #[slV t, .bool true]) ∧ t.zs = bodyL s.zs ∧ t.n = s.n - 6 ∧ SlOk w' (fun b => w.heap.size ≤ b) t) ∨
      (opB i j s.zs = false ∧ e = .returned (.tuple #[.slice none 0 0, .bool false]))) := by
  have hf := hs.fit
  have hlen := hs.len
  have hnc := hs.n_le
  have hbd := bytes_bd hs.wf
  obtain ⟨A, n, c, zs⟩ := s
  simp only at hf hlen hnc hn hbd ⊢
  clear hs
  go_enter Tryd.func9, Tryd.ntmps9
  go_wp2_with fail
  by_cases h4 : n < 4
  · refine (take_short A n c w h4).mono ?_
    rintro e w1 ⟨rfl, rfl⟩
    go_wp2_with fail
    go_ret2
    exact ⟨Below.refl _ _, .inr ⟨opB_short (by omega), rfl⟩⟩
  · refine (take_long A n c zs w hL hf (by omega) hnc (by omega)).mono ?_
    rintro e w1 ⟨hb1, ⟨hT, B, rfl, hr, hB⟩ | ⟨hF, rfl⟩⟩
    · obtain ⟨k, hk⟩ : ∃ k, n - 4 = k := ⟨_, rfl⟩
      rw [hk] at hr
      rw [hk]
      have hkl : (takeL zs).length = k := by unfold takeL; rw [List.length_take]; omega
      have HK := hide hk
      clear hk hf
      by_cases h6 : k < 2
      · have d6 : (k : Int) < 2 := by omega
        have hO : opB i j zs = false := opB_short (by have := HK.out; omega)
        go_wp2_with fail
        go_ret2
        exact ⟨hb1, .inr ⟨hO, rfl⟩⟩
      · have d6 : ¬ (k : Int) < 2 := by omega
        have hk63 : k ≤ 100000 := by have := HK.out; omega
        obtain ⟨x, y, b, hxy⟩ : ∃ x y b, takeL zs = x :: y :: b := by
          match h : takeL zs, hkl with
          | [], h' => simp at h'; omega
          | [_], h' => simp at h'; omega
          | x :: y :: b, _ => exact ⟨x, y, b, rfl⟩
        have hO := hide (opB_at (i := i) (j := j) hT hxy)
        have hz := hide (show bodyL zs = b by rw [bodyL, hxy]; rfl)
        have hbt : ∀ z ∈ takeL zs, 0 ≤ z ∧ z < 256 := fun z hz => hbd z (List.mem_of_mem_take hz)
        rw [hxy] at hr hbt
        have hx := hbt x (by simp)
        have hy := hbt y (by simp)
        have hT2 : SlOk w1 (fun b => w.heap.size ≤ b) ⟨if k = 2 then B else B.map (·.add 2), k - 2, k - 2, b⟩ := by
          have h := hr.cut (k := 2) (cap := k) (by omega) (Nat.le_refl _)
          refine ⟨⟨h, Nat.le_refl _, by unfold maxLen; show k - 2 ≤ _; omega, wf_u8 fun z hz => hbt z (by simp [hz])⟩, fun h0 ad ha => ?_⟩
          simp only at h0 ha
          rw [if_neg (by omega)] at ha
          rcases B with _ | ad'
          · cases ha
          · injection ha with ha
            subst ha
            rw [block_of_add]
            exact hB ad' rfl
        obtain ⟨g, off, rfl, hg, hc⟩ := hr.plain (by omega)
        have c0 := hc 0 (.int .u8 x) rfl
        rw [Nat.add_zero] at c0
        have c1 := hc 1 (.int .u8 y) rfl
        have HT := hide hT2
        clear hT2 hc hr hT hkl hxy hbd hbt hlen
        by_cases e1 : x = i
        · by_cases e2 : y = j
          · subst e1 e2
            have d1 : ((i : Int) != (i : Int)) = false := by simp
            have d2 : ((j : Int) != (j : Int)) = false := by simp
            have hO2 : opB i j zs = true := by rw [hO.out]; simp
            have hn6 : Hid (k - 2 = n - 6) := hide (by have := HK.out; omega)
            have HZ := hide (hz.out.symm)
            by_cases h2 : k = 2
            · subst h2
              rw [if_pos rfl] at HT
              go_wp2_with fail
              go_ret2
              exact ⟨hb1, .inl ⟨hO2, _, rfl, HZ.out, hn6.out, HT.out⟩⟩
            · rw [if_neg h2] at HT
              go_wp2_with fail
              go_ret2
              exact ⟨hb1, .inl ⟨hO2, _, rfl, HZ.out, hn6.out, HT.out⟩⟩
          · have d1 : (x != (i : Int)) = false := by simp [e1]
            have d2 : (y != (j : Int)) = true := by simp [e2]
            have hO2 : opB i j zs = false := by rw [hO.out]; simp [e2]
            clear e1 e2
            go_wp2_with fail
            go_ret2
            exact ⟨hb1, .inr ⟨hO2, rfl⟩⟩
        · have d1 : (x != (i : Int)) = true := by simp [e1]
          have hO2 : opB i j zs = false := by rw [hO.out]; simp [e1]
          clear e1
          go_wp2_with fail
          go_ret2
          exact ⟨hb1, .inr ⟨hO2, rfl⟩⟩
    · go_wp2_with fail
      go_ret2
      exact ⟨hb1, .inr ⟨opB_bad hF, rfl⟩⟩

/-! ### The same, between numbers as they come -/
theorem Frame_at (w : World) (hL : Laid w) {x y : Int} {i j : Nat} (hx : x = i) (hy : y = j) (hi : i < 256) (hj : j < 256) (A : Option Addr) (n c : Nat) (zs : List Int) (hs : SlIn w w.heap.size ⟨A, n, c, zs⟩) (hn : n ≤ 90000) :
    Calls Tryd.prog 8 #[.int .i64 x, .int .i64 y, .slice A n c] w fun e w' => ∃ t : Sl, e = .returned (slV t) ∧ t.zs = frL i j zs ∧ t.n = n + 6 ∧ OwnS w' w.heap.size t ∧ Below w.heap.size w w' := by
  subst hx hy
  exact Frame_runs w hL hi hj ⟨A, n, c, zs⟩ hs hn
theorem Frame_in (w : World) (hL : Laid w) {i j : Nat} (hi : i < 256) (hj : j < 256) (A : Option Addr) (n c : Nat) (zs : List Int) (hs : SlIn w w.heap.size ⟨A, n, c, zs⟩) (hn : n ≤ 90000) :
    Calls Tryd.prog 8 #[.int .i64 i, .int .i64 j, .slice A n c] w fun e w' => ∃ t : Sl, e = .returned (slV t) ∧ t.zs = frL i j zs ∧ SlIn w' w'.heap.size t ∧ Below w.heap.size w w' :=
  (Frame_runs w hL hi hj ⟨A, n, c, zs⟩ hs hn).mono fun _ _ ⟨t, e, hz, _, ho, hb⟩ => ⟨t, e, hz, (ho.ok (by rw [hz]; exact wf_u8 (frL_bd hi hj (bytes_bd hs.wf)))).in_, hb⟩
theorem Open_at (w : World) (hL : Laid w) {x y : Int} {i j : Nat} (hx : x = i) (hy : y = j) (A : Option Addr) (n c : Nat) (zs : List Int) (hs : SlIn w w.heap.size ⟨A, n, c, zs⟩) (hn : n ≤ 100000) :
    Calls Tryd.prog 9 #[.int .i64 x, .int .i64 y, .slice A n c] w fun e w' => Below w.heap.size w w' ∧
      ((opB i j zs = true ∧ ∃ t : Sl, e = .returned (.tuple #[slV t, .bool true]) ∧ t.zs = bodyL zs ∧ t.n = n - 6 ∧ SlOk w' (fun b => w.heap.size ≤ b) t) ∨
      (opB i j zs = false ∧ e = .returned (.tuple #[.slice none 0 0, .bool false]))) := by
  subst hx hy
  exact Open_runs w hL i j ⟨A, n, c, zs⟩ hs hn
end Go.Proofs.YteiaiicdemmcoaaDoor
