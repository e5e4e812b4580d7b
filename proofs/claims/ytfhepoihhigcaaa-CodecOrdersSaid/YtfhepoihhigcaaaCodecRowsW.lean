/- The walk of CodecRows: it returns true at all arguments and leaves what was there as it was. -/
import Derived.Test.YtfhepoihhigcaaaCodTame2
import Derived.Test.YtfhepoihhigcaaaCodTell
import Derived.Test.YtfhepoihhigcaaaOpenI
namespace Go.Proofs.Ytfhepoihhigcaaa.codecRows
open Go.RowKit

/-- What the reading call leaves: the row in its variable, or nothing. -/
def RowsQ (q : Nat) (bs : List Int) (x : Option (List Int)) (w2 : World) : Prop :=
  match rdRow bs with
  | some (l, r) => x = some r ∧ IBlk w2 q 42 l
  | none => x = none ∧ IBlk w2 q 42 (zeros 174)
theorem rdH_len : ∀ (k : Nat) {hs ls bs : List Int} {x : List Int × List Int} {r : List Int}, rdH hs ls k bs = some (x, r) → x.1.length = hs.length + k ∧ x.2.length = ls.length + 28 * k
  | 0, hs, ls, bs, x, r, h => by
    simp only [rdH, Option.some.injEq, Prod.mk.injEq] at h
    rw [← h.1]; simp
  | k + 1, hs, ls, bs, x, r, h => by
    rw [rdH] at h
    cases hr : rdN 9 bs with
    | none => rw [hr] at h; cases h
    | some y =>
      obtain ⟨m, r'⟩ := y
      rw [hr] at h
      simp only at h
      by_cases hm : 0 < m
      · rw [if_pos hm] at h
        cases hg : rdGo maxN [] 28 r' with
        | none => rw [hg] at h; cases h
        | some z =>
          obtain ⟨l, r''⟩ := z
          rw [hg] at h
          have h1 := rdGo_len maxN 28 hg
          have := rdH_len k h
          simp at this h1 ⊢
          omega
      · rw [if_neg hm] at h
        have := rdH_len k h
        simp [zeros_length] at this ⊢
        omega
theorem rdRow_len {bs l r : List Int} (h : rdRow bs = some (l, r)) : l.length = 174 := by
  rw [rdRow] at h
  cases hr : rdN 9 bs with
  | none => rw [hr] at h; cases h
  | some y =>
    obtain ⟨m, r'⟩ := y
    rw [hr] at h
    simp only at h
    cases hg : rdGo maxN [] 28 r' with
    | none => rw [hg] at h; cases h
    | some z =>
      obtain ⟨c, r''⟩ := z
      rw [hg] at h
      simp only at h
      have hc := rdGo_len maxN 28 hg
      cases hh : rdH [] [] 5 r'' with
      | none => rw [hh] at h; cases h
      | some u =>
        obtain ⟨⟨hs, ls⟩, r3⟩ := u
        rw [hh] at h
        have := rdH_len 5 hh
        simp only [Option.some.injEq, Prod.mk.injEq] at h
        rw [← h.1]
        simp at this hc ⊢
        omega
theorem enters1 (args : Array Value) (w : World) : (callFunc 18 args).run Try.prog w = .ok (.enter 18 args) w := by kernel_rfl
set_option maxRecDepth 100000 in
set_option maxHeartbeats 1600000 in
theorem call1_any (g q : Nat) (bs : List Int) (w : World) (h : Rd w g (· = q) bs false) (hb : ∀ z ∈ bs, 0 ≤ z ∧ z < 256) (hq : q < g) (hB : IBlk w q 42 (zeros 174)) :
    Calls Try.prog 18 #[.pointer (some ⟨g, 0, none⟩), .pointer (some ⟨q, 0, none⟩)] w (Calling g (· = q) (RowsQ q bs) w) := by
  have HN := row_any g (· = q) bs w h hb
  have hi174 := Try.infoRow
  have HQ : Hid (∀ x w2, RowsQ q bs x w2 = match rdRow bs with | some (l, r) => x = some r ∧ IBlk w2 q 42 l | none => x = none ∧ IBlk w2 q 42 (zeros 174)) := hide fun _ _ => rfl
  generalize RowsQ q bs = Q at HQ
  cases hr : rdRow bs with
  | none =>
    rw [hr] at HN HQ
    clear hr
    go_enter Try.func18, Try.ntmps18
    go_wp2_with fail
    (with_reducible refine HN.mono ?_)
    rintro e w2 hX
    obtain ⟨rfl, hR, hO⟩ := hX.no
    refine ⟨rfl, hO.mono fun i _ h => .inl h, .inr ⟨rfl, hR, ?_⟩⟩
    rw [HQ.out]
    exact ⟨rfl, hB.only hO (by show ¬ q = g; omega)⟩
  | some y =>
    obtain ⟨l, r⟩ := y
    have hll : l.length = 174 := rdRow_len hr
    rw [hr] at HN HQ
    have HL := hide hll
    clear hr hll
    go_enter Try.func18, Try.ntmps18
    go_wp2_with fail
    (with_reducible refine HN.mono ?_)
    rintro e w2 hX
    obtain ⟨rfl, hR, hO⟩ := hX.rd
    have hB2 := hB.only hO (by show ¬ q = g; omega)
    have hn : 0 + l.length ≤ (zeros 174).length := by rw [HL.out]; decide
    have hB3 := hB2.setN hn
    rw [show (zeros 174).take 0 ++ l ++ (zeros 174).drop (0 + l.length) = l by rw [HL.out]; simp [zeros]] at hB3
    have hO3 := only_cells w2 q 0 (iV l)
    go_wp2_with (refine wpList_store_i rfl 42 (.tmp 1) (.tmp 4) rfl hB2 0 l rfl rfl hn (by rw [HL.out]; exact hi174) ?_)
    go_end0
    refine ⟨(hO.mono (S' := fun i => i = g ∨ i = q) fun i _ h => .inl h).trans hO3 (fun i (e : i = q) => .inl (.inr e)), .inl ⟨r, rfl, hR.only hO3 (by show ¬ g = q; omega) (fun i _ (e : i = q) => e), ?_⟩⟩
    rw [HQ.out]
    exact ⟨rfl, hB3⟩
theorem enters2 (args : Array Value) (w : World) : (callFunc 20 args).run Try.prog w = .ok (.enter 20 args) w := by kernel_rfl
set_option maxRecDepth 100000 in
set_option maxHeartbeats 1600000 in
theorem call2_any (g q : Nat) (bs : List Int) (w : World) (h : Rd w g (· = q) bs false) (hb : ∀ z ∈ bs, 0 ≤ z ∧ z < 256) (hq : q < g) (hB : IBlk w q 42 (zeros 174)) :
    Calls Try.prog 20 #[.pointer (some ⟨g, 0, none⟩), .pointer (some ⟨q, 0, none⟩)] w (Calling g (· = q) (RowsQ q bs) w) := by
  have HN := row_any g (· = q) bs w h hb
  have hi174 := Try.infoRow
  have HQ : Hid (∀ x w2, RowsQ q bs x w2 = match rdRow bs with | some (l, r) => x = some r ∧ IBlk w2 q 42 l | none => x = none ∧ IBlk w2 q 42 (zeros 174)) := hide fun _ _ => rfl
  generalize RowsQ q bs = Q at HQ
  cases hr : rdRow bs with
  | none =>
    rw [hr] at HN HQ
    clear hr
    go_enter Try.func20, Try.ntmps20
    go_wp2_with fail
    (with_reducible refine HN.mono ?_)
    rintro e w2 hX
    obtain ⟨rfl, hR, hO⟩ := hX.no
    refine ⟨rfl, hO.mono fun i _ h => .inl h, .inr ⟨rfl, hR, ?_⟩⟩
    rw [HQ.out]
    exact ⟨rfl, hB.only hO (by show ¬ q = g; omega)⟩
  | some y =>
    obtain ⟨l, r⟩ := y
    have hll : l.length = 174 := rdRow_len hr
    rw [hr] at HN HQ
    have HL := hide hll
    clear hr hll
    go_enter Try.func20, Try.ntmps20
    go_wp2_with fail
    (with_reducible refine HN.mono ?_)
    rintro e w2 hX
    obtain ⟨rfl, hR, hO⟩ := hX.rd
    have hB2 := hB.only hO (by show ¬ q = g; omega)
    have hn : 0 + l.length ≤ (zeros 174).length := by rw [HL.out]; decide
    have hB3 := hB2.setN hn
    rw [show (zeros 174).take 0 ++ l ++ (zeros 174).drop (0 + l.length) = l by rw [HL.out]; simp [zeros]] at hB3
    have hO3 := only_cells w2 q 0 (iV l)
    go_wp2_with (refine wpList_store_i rfl 42 (.tmp 1) (.tmp 4) rfl hB2 0 l rfl rfl hn (by rw [HL.out]; exact hi174) ?_)
    go_end0
    refine ⟨(hO.mono (S' := fun i => i = g ∨ i = q) fun i _ h => .inl h).trans hO3 (fun i (e : i = q) => .inl (.inr e)), .inl ⟨r, rfl, hR.only hO3 (by show ¬ g = q; omega) (fun i _ (e : i = q) => e), ?_⟩⟩
    rw [HQ.out]
    exact ⟨rfl, hB3⟩

theorem tellRow_bd {ys : List Int} (h : TS ys 4 5) : ∀ z ∈ tellRow ys, 0 ≤ z ∧ z < 9223372036854775808 := by
  have hb := h.bd
  intro z hz
  rw [tellRow] at hz
  rcases List.mem_append.1 hz with hz | hz
  · exact hb z (List.mem_of_mem_take hz)
  · exact tellH_bd (P := fun z => 0 ≤ z ∧ z < 9223372036854775808) _ _ (fun z hz => hb z (List.mem_of_mem_drop (List.mem_of_mem_take hz))) (fun z hz => hb z (List.mem_of_mem_drop hz)) z hz
theorem tell_pos {ys : List Int} (h : ys.length = 174) : 0 < (encL (tellRow ys)).length := by
  match ys, h with
  | y :: ys, _ =>
    rw [tellRow, show (y :: ys).take 29 = y :: ys.take 28 from rfl, List.cons_append, encL_cons, List.length_append]
    have := enc_pos y
    omega
/-- Loads of rows, and a row of zeros, folded: the walk does not open them cell by cell. -/
def loadRow (x : Value) : Sem Value := Instr.loadAt 42 x
theorem loadRow_fold (x : Value) : Instr.loadAt 42 x = loadRow x := rfl
theorem loadRow_has {w : World} {b o : Nat} (h : HasRow w b o 174) : (loadRow (.pointer (some ⟨b, o, none⟩))).run Try.prog w = .ok (.agg (rowAt w b o 174)) w := run_loadAt_has Try.underlying42 rfl Try.infoRow h
def buildRow (x : Array (Nat × Value)) : Sem Value := Instr.build 42 x
theorem buildRow_fold (x : Array (Nat × Value)) : Instr.build 42 x = buildRow x := rfl
theorem buildRow_none (w : World) : (buildRow #[]).run Try.prog w = .ok (.agg (iA (zeros 174))) w := run_build w _ _ _ (by kernel_rfl)
attribute [local go_sem ↓] loadRow_fold buildRow_fold
attribute [local go_sem] loadRow_has buildRow_none

set_option maxRecDepth 100000 in
set_option maxHeartbeats 4000000 in
theorem walk (w : World) (zs : List Int) (hl : zs.length = 174) (_ : wf64 zs) (cut : Int) (_ : -9223372036854775808 ≤ cut) (_ : cut ≤ 9223372036854775807) :
    Calls Try.prog 5 #[.agg (iA zs), .int .i64 cut] w fun e w' => e = .returned (.bool true) ∧ Below w.heap.size w w' := by
  have hmf := Try.makeFunc
  have hi174 := Try.infoRow
  have HL := hide hl
  obtain ⟨q, hq, hq1⟩ : ∃ q : Nat, bits .and .i64 cut 65535 = (q : Int) ∧ q < 65536 := ⟨(cut % 65536).toNat, by rw [show bits .and .i64 cut 65535 = cut % 65536 from i64_and_mask cut 16 (by omega)]; omega, by omega⟩
  have hI0 : IBlk (w.alloc (.cells (iA zs) 42)) w.heap.size 42 zs := IBlk.new _ _ _
  have hB0 : Below w.heap.size w (w.alloc (.cells (iA zs) 42)) := (Below.refl _ _).alloc (Nat.le_refl _) _
  have hs0 : (w.alloc (.cells (iA zs) 42)).heap.size = w.heap.size + 1 := by simp
  go_enter Try.func5, Try.ntmps5
  go_wp2_with fail
  generalize w.alloc (.cells (iA zs) 42) = w0 at hI0 hB0 hs0
  have HS0 := hide hs0
  clear hs0 hl
  refine (fit_any _).mono ?_
  rintro e w1 ⟨rfl, hb1⟩
  have hI1 := hI0.below hb1 hI0.lt
  have hB1 := hB0.trans (hb1.mono hB0.size)
  have hr1 : rowAt w1 w.heap.size 0 174 = iA zs := by rw [hI1.row 0 174 (by have := HL.out; omega), List.drop_zero, List.take_of_length_le (Nat.le_of_eq HL.out)]
  have hh1 : HasRow w1 w.heap.size 0 174 := hI1.has 0 174 (by have := HL.out; omega)
  go_wp2_with fail
  (with_reducible refine (tame_any zs w1 HL.out).mono ?_)
  rintro e w2 ⟨ys, rfl, hT, hb2⟩
  have HT := hide hT
  have HY : Hid (ys.length = 174) := hide hT.1
  have hI2 := hI1.below hb2 hI1.lt
  have hB2 := hB1.trans (hb2.mono hB1.size)
  have hn2 : 0 + ys.length ≤ zs.length := by rw [HY.out, HL.out]; omega
  have hI3 := hI2.setN hn2
  rw [show zs.take 0 ++ ys ++ zs.drop (0 + ys.length) = ys by rw [HY.out]; simp [List.drop_of_length_le, HL.out]] at hI3
  have hB3 := below_only hB2 (only_cells w2 w.heap.size 0 (iV ys)) (fun i (e : i = w.heap.size) => by omega) hB2.size
  have HN2 := hide hn2
  clear hT hr1 hh1 hn2
  go_upto_region 4 with (refine wpList_store_i rfl 42 (.tmp 2) (.tmp 14) rfl hI2 0 ys rfl rfl HN2.out (by rw [HY.out]; exact hi174) ?_)
  generalize w2.setCells w.heap.size 0 (iV ys) = w3 at hI3 hB3
  clear hI2 hI1 hI0
  have hI4 := hI3.alloc (.cells #[.slice none 0 0] 26)
  have hr4 : rowAt (w3.alloc (.cells #[.slice none 0 0] 26)) w.heap.size 0 174 = iA ys := by rw [hI4.row 0 174 (by have := HY.out; omega), List.drop_zero, List.take_of_length_le (Nat.le_of_eq HY.out)]
  have hh4 : HasRow (w3.alloc (.cells #[.slice none 0 0] 26)) w.heap.size 0 174 := hI4.has 0 174 (by have := HY.out; omega)
  have hB4 := hB3.alloc hB3.size (.cells #[.slice none 0 0] 26)
  have hlt3 := hI3.lt
  go_wp2_with fail
  (with_reducible refine (wrow_any w3.heap.size (.slice none 0 0) [] ys _ (Wr.new w3) HT.out.bd HY.out (by decide)).mono ?_)
  rintro e w5 ⟨rfl, v5, hW5, hO5⟩
  rw [List.nil_append] at hW5
  have hI5 := hI4.only hO5.only (Wr.far (Wr.new w3) hI4 (by decide) (by decide))
  have hB5 := hO5.below hB4 (by omega) (by simp [Value.ownBlock]) hB4.size
  obtain ⟨bs, hbs⟩ : ∃ bs, bs = encL (tellRow ys) := ⟨_, rfl⟩
  have hbl : bs.length ≤ 1566 := by
    have h1 := tellRow_len HY.out
    have h2 := rdRow_tell HT.out []
    rw [List.append_nil, ← hbs] at h2
    rw [hbs]
    have := encL_len (l := tellRow ys) (fun m hm => (tellRow_bd HT.out m hm).2)
    omega
  have hbp : 0 < bs.length := by rw [hbs]; exact tell_pos HY.out
  have hbb : ∀ z ∈ bs, 0 ≤ z ∧ z < 256 := by rw [hbs]; exact encL_bd _
  have hrd : ∀ r, rdRow (bs ++ r) = some (ys, r) := by rw [hbs]; exact rdRow_tell HT.out
  rw [← hbs] at hW5
  have HRD := hide hrd
  clear hbs hr4 hh4 hI4 hI3 hrd
  go_wp2_with fail
  (with_reducible refine (bytes_any w3.heap.size v5 bs w5 hW5 (by omega)).mono ?_)
  rintro e w6 ⟨v6, rfl, hown6, hB6⟩
  obtain ⟨A6, c6, rfl⟩ := own_slice hown6
  have hI6 := hI5.below hB6 hI5.lt
  have hB6' := hB5.trans (hB6.mono hB5.size)
  obtain ⟨hn6, hc6⟩ := own_caps hown6
  have ha6 := own_at hown6
  have hs6 := hB6.size
  go_upto_region 7 with (refine wpList_alloc_i rfl 42 rfl (iA (zeros 174)) Try.allocRow ?_)
  have hZ1 : IBlk ((w6.alloc (.cells (iA (zeros 174)) 42)).alloc (.cells (iA (zeros 174)) 42)) w6.heap.size 42 (zeros 174) := (IBlk.new _ _ _).alloc _
  have hZ2 : IBlk ((w6.alloc (.cells (iA (zeros 174)) 42)).alloc (.cells (iA (zeros 174)) 42)) (w6.heap.size + 1) 42 (zeros 174) := by
    have := IBlk.new (w6.alloc (.cells (iA (zeros 174)) 42)) 42 (zeros 174)
    simpa using this
  have hI7 := (hI6.alloc (.cells (iA (zeros 174)) 42)).alloc (.cells (iA (zeros 174)) 42)
  have hR7 : Reads ((w6.alloc (.cells (iA (zeros 174)) 42)).alloc (.cells (iA (zeros 174)) 42)) w6.heap.size 1 A6 bs.length (bs.map (Value.int .u8)) := ((Reads.of_own hown6).alloc (Nat.le_refl _) _).alloc (by simp) _
  have hB7 : Below w.heap.size w ((w6.alloc (.cells (iA (zeros 174)) 42)).alloc (.cells (iA (zeros 174)) 42)) := (hB6'.alloc hB6'.size _).alloc (by have := hB6'.size; simp; omega) _
  have hs7 : ((w6.alloc (.cells (iA (zeros 174)) 42)).alloc (.cells (iA (zeros 174)) 42)).heap.size = w6.heap.size + 2 := by simp
  generalize (w6.alloc (.cells (iA (zeros 174)) 42)).alloc (.cells (iA (zeros 174)) 42) = w7 at hZ1 hZ2 hI7 hR7 hB7 hs7
  have HS7 := hide hs7
  have hlt6 := hI6.lt
  clear hs7 hI6 hI5 hown6 hW5 hO5
  have hA6 : ∀ ad, A6 = some ad → ad.block < w6.heap.size := fun ad e => (ha6 ad e).2
  have hrd1 := read_any _ #[.pointer (some ⟨w6.heap.size, 0, none⟩)] enters1 A6 _ c6 bs w7 (hR7.more (by rw [HS7.out]; omega)) hn6 hc6 (· = w6.heap.size) (RowsQ w6.heap.size bs) (fun ad _ e h => by have := hA6 ad e; omega) (fun i (hi : i = w6.heap.size) => by rw [HS7.out]; omega)
    (fun w8 hb8 _ hR8 => call1_any _ _ bs w8 hR8 hbb (by rw [HS7.out]; omega) (hZ1.below hb8 hZ1.lt))
  go_wp2_with fail
  (with_reducible refine hrd1.mono ?_)
  rintro e w8 ⟨x, w9, hQ, hO1, hO2, rfl⟩
  have hrb : rdRow bs = some (ys, []) := by have := HRD.out []; rwa [List.append_nil] at this
  unfold RowsQ at hQ
  rw [hrb] at hQ
  obtain ⟨rfl, hY9⟩ := hQ
  rw [show endB (some []) = true from rfl]
  have hY8 := hY9.only hO1 (by show ¬ w6.heap.size = w7.heap.size; rw [HS7.out]; omega)
  have hZ8 := hZ2.only hO2 (by show ¬ w6.heap.size + 1 = w6.heap.size; omega)
  have hI8 := hI7.only hO2 (by show ¬ w.heap.size = w6.heap.size; omega)
  have hs8 := hO2.size
  have hR8 := hR7.only hO2 (by rw [HS7.out]; omega) (fun ad e (h : ad.block = w6.heap.size) => by have := hA6 ad e; omega)
  have hB8 := below_only hB7 hO2 (fun i (e : i = w6.heap.size) => by have := hB6'.size; omega) hB7.size
  obtain ⟨m, hm⟩ : ∃ m, m = q % bs.length := ⟨_, rfl⟩
  have hml : m < bs.length := by rw [hm]; exact Nat.mod_lt _ hbp
  have hme : (q : Int) % (bs.length : Int) = (m : Int) := by rw [hm]; omega
  have hno : rdRow (bs.take m) = none := by
    cases hc : rdRow (bs.take m) with
    | none => rfl
    | some y =>
      obtain ⟨l, r⟩ := y
      have := rdRow_ext (bs.drop m) hc
      rw [List.take_append_drop, hrb] at this
      simp only [Option.some.injEq, Prod.mk.injEq] at this
      have := congrArg List.length this.2
      simp at this
      omega
  have HNO := hide hno
  have hRm : Reads w8 w6.heap.size 1 A6 m ((bs.take m).map (Value.int .u8)) := by
    refine ⟨by simp; omega, fun h0 => ?_⟩
    obtain ⟨ad, e, hb, hc⟩ := hR8.2 (by omega)
    exact ⟨ad, e, hb, fun j u hu => hc j u (by rw [List.map_take, List.getElem?_take] at hu; split at hu; exact hu; cases hu)⟩
  have hmc : m ≤ c6 := by omega
  have hrd2 := read_any _ #[.pointer (some ⟨w6.heap.size + 1, 0, none⟩)] enters2 A6 m c6 (bs.take m) w8 (hRm.more (by have := HS7.out; omega)) hmc hc6 (· = w6.heap.size + 1) (RowsQ (w6.heap.size + 1) (bs.take m)) (fun ad _ e h => by have := hA6 ad e; omega) (fun i (hi : i = w6.heap.size + 1) => by have := HS7.out; omega)
    (fun w10 hb10 _ hR10 => call2_any _ _ _ w10 hR10 (fun z hz => hbb z (List.mem_of_mem_take hz)) (by have := HS7.out; omega) (hZ8.below hb10 hZ8.lt))
  clear hm hrb hno hRm hR8 hR7 hrd1 hO1 hO2 hY9 hI7 hZ1 hZ2
  generalize hnn : bs.length = n at *
  clear hnn
  go_wp2_with fail
  (with_reducible refine hrd2.mono ?_)
  rintro e w10 ⟨x, w11, hQ, hO1, hO2, rfl⟩
  unfold RowsQ at hQ
  rw [HNO.out] at hQ
  obtain ⟨rfl, hZ11⟩ := hQ
  rw [show endB none = false from rfl]
  have hZ10 := hZ11.only hO1 (by show ¬ w6.heap.size + 1 = w8.heap.size; have := HS7.out; omega)
  have hY10 := hY8.only hO2 (by show ¬ w6.heap.size = w6.heap.size + 1; omega)
  have hI10 := hI8.only hO2 (by show ¬ w.heap.size = w6.heap.size + 1; omega)
  have hB10 := below_only hB8 hO2 (fun i (e : i = w6.heap.size + 1) => by have := hB6'.size; omega) hB8.size
  have row_ : ∀ {b : Nat} {ls : List Int}, ls.length = 174 → IBlk w10 b 42 ls → rowAt w10 b 0 174 = iA ls := fun hl h => by rw [h.row 0 174 (by omega), List.drop_zero, List.take_of_length_le (Nat.le_of_eq hl)]
  have r1 := row_ HY.out hY10
  have r2 := row_ HY.out hI10
  have r3 := row_ (zeros_length 174) hZ10
  have h1 := hY10.has 0 174 (by have := HY.out; omega)
  have h2 := hI10.has 0 174 (by have := HY.out; omega)
  have h3 := hZ10.has 0 174 (by rw [zeros_length]; omega)
  have hwf : wf64 ys := fun z hz => by
    have := HT.out.bd z hz
    simp [Lit.wf, IntKind.min, IntKind.max, IntKind.signed, IntKind.bits]; omega
  have hwz : wf64 (zeros 174) := fun z hz => by
    have : z = 0 := by simpa [zeros] using hz
    subst this; decide
  have q1 := fun w => Try.eqRow HY.out HY.out hwf hwf w
  have q2 := fun w => Try.eqRow (zeros_length 174) (zeros_length 174) hwz hwz w
  simp only [decide_true] at q1 q2
  clear hY10 hI10 hZ10 hY8 hI8 hZ8 row_ hrd2 hO1 hO2 hZ11
  generalize iA ys = Y at *
  go_wp2_with fail
  go_ret
  exact ⟨rfl, hB10⟩
end Go.Proofs.Ytfhepoihhigcaaa.codecRows
