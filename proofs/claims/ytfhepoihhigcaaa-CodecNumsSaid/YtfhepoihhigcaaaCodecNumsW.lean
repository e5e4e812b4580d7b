/- The walk of CodecNums: it returns true at all arguments and leaves what was there as it was. -/
import Derived.Test.YtfhepoihhigcaaaCodSep
namespace Go.Proofs.Ytfhepoihhigcaaa.codecNums
open Go.RowKit

theorem enters (args : Array Value) (w : World) : (callFunc 13 args).run Try.prog w = .ok (.enter 13 args) w := by kernel_rfl
def NumsQ (q : Nat) (x : Option (List Int)) (w2 : World) : Prop := x = some [] ∧ w2.cell? ⟨q, 0, none⟩ = some (.bool true)

set_option maxRecDepth 100000 in
set_option maxHeartbeats 1600000 in
theorem call_any (g p q B : Nat) (A : Option Addr) (n c : Nat) (ms : List Int) (w : World) (h : Rd w g (· = q) (encL ms) false) (hp : Blk w p 22 #[.slice A n c]) (hq : Blk w q 4 #[.bool true])
    (hr : Reads w B 1 A n (ms.map (Value.int .i64))) (hB : B ≤ w.heap.size) (hA : ∀ ad, 0 < n → A = some ad → ad.block ≠ q ∧ ad.block < g) (hqg : q < g) (hm : ∀ m ∈ ms, 0 ≤ m ∧ m < 4611686018427387904) (hn : n ≤ 60) :
    Calls Try.prog 13 #[.pointer (some ⟨g, 0, none⟩), .pointer (some ⟨p, 0, none⟩), .pointer (some ⟨q, 0, none⟩)] w (Calling g (· = q) (NumsQ q) w) := by
  have hlen : Hid (ms.length = n) := hide (by have := hr.1; simpa using this)
  have hcp : w.cell? ⟨p, 0, none⟩ = some (.slice A n c) := by rw [hp.cell]; rfl
  go_enter Try.func13, Try.ntmps13
  go_wp2_with fail
  go_loopw [8] (fun i wr => ∃ k : Nat, k ≤ n ∧ i = .int .i64 k ∧ Rd wr g (· = q) (encL (ms.drop k)) false ∧ Blk wr q 4 #[.bool true] ∧ Only (fun i => i = g ∨ i = q) w wr) (fun i _ => n - (intOf i).toNat)
  case atStart => exact ⟨0, by omega, rfl, h, hq, Only.refl _ _⟩
  case round =>
    obtain ⟨k, hk, rfl, hR, hQ, hO⟩ := hrel
    by_cases hlt : k < n
    · have hkz : k < ms.length := by rw [hlen.out]; exact hlt
      have hr1 : Reads wr B 1 A n (ms.map (Value.int .i64)) := hr.only hO hB (fun ad e hs => by have := hA ad (by omega) e; omega)
      obtain ⟨b, off, rfl, _, hc0⟩ := hr1.ints (by omega)
      have hc := hc0 k hlt
      rw [show ms.getD k 0 = ms[k] by simp [List.getD, hkz]] at hc
      have hbd := hm ms[k] (List.getElem_mem _)
      have HN := num_any g (· = q) _ wr hR (encL_bd _)
      have hbnd : ∀ z ∈ encL (ms.drop (k + 1)), 0 ≤ z ∧ z < 256 := encL_bd _
      rw [encL_drop hkz, rdN_enc hbd.1 (by omega)] at HN
      have hcq : wr.cell? ⟨q, 0, none⟩ = some (.bool true) := by rw [hQ.cell]; rfl
      generalize ms[k] = x at hc hbd HN
      clear hc0 hr1 hr h hR hcp hbnd
      go_wp2_with fail
      refine HN.mono ?_
      rintro e w2 hX
      obtain ⟨rfl, hR2, hO2⟩ := hX.rd
      have hQ2 := hQ.only hO2 (by show ¬ q = g; omega)
      have hcq2 : w2.cell? ⟨q, 0, none⟩ = some (.bool true) := by rw [hQ2.cell]; rfl
      have hzq2 := hQ2.frozen 0
      go_wp2_with fail
      go_roundw
      case rel =>
        refine ⟨k + 1, by omega, by go_num, hR2.only ((Only.refl (· = q) w2).setCell (p := ⟨q, 0, none⟩) (.inl rfl) _) (by omega) (fun i _ e => e), ?_, ?_⟩
        · exact hQ2.set_ 0 _
        · exact (hO.trans hO2 (fun i hi => .inl (.inl hi))).setCell (p := ⟨q, 0, none⟩) (.inl (.inr rfl)) _
      case measure => simp [intOf]; omega
    · have he : ms.drop k = [] := List.drop_of_length_le (by rw [hlen.out]; omega)
      rw [he] at hR
      clear he hr h hcp
      go_wp2_with fail
      go_end0
      exact ⟨hO, .inl ⟨[], rfl, hR, rfl, by rw [hQ.cell]; rfl⟩⟩

theorem pcs_step {m : Nat} (h : 128 ≤ m) : (pcs m).length = (pcs (m / 128)).length + 1 := by rw [pcs_ge h]; simp
theorem pcs_last {m : Nat} (h : m < 128) : (pcs m).length = 1 := by rw [pcs_lt h]; rfl

theorem set_step {zs : List Int} {k : Nat} (hk : k < zs.length) (f : Int → Int) :
    (((zs.take k).map f ++ zs.drop k).map (Value.int .i64)).set k (.int .i64 (f zs[k])) = ((zs.take (k + 1)).map f ++ zs.drop (k + 1)).map (Value.int .i64) := by
  have hl : ((zs.take k).map f).length = k := by simp; omega
  rw [← List.map_set, List.set_append, if_neg (by omega), hl, Nat.sub_self, List.drop_eq_getElem_cons hk, List.take_succ_eq_append_getElem hk, List.set_cons_zero]
  simp only [List.map_append, List.map_cons, List.map_nil, List.append_assoc, List.cons_append, List.nil_append]
/-- What the first loop knows after k numbers. -/
def St (w0 : World) (zs : List Int) (n p gw : Nat) (u : Value) (k : Nat) (s : Int) (wr : World) : Prop :=
  ∃ v', s = ((encL ((zs.take k).map low62)).length : Int) ∧ Blk wr p 22 #[u] ∧ wr.ownsRow w0.heap.size 3 1 u n (((zs.take k).map low62 ++ zs.drop k).map (Value.int .i64)) ∧
    Wr wr gw v' (encL ((zs.take k).map low62)) ∧ (∀ i, v'.ownBlock = some i → w0.heap.size ≤ i) ∧ Below w0.heap.size w0 wr

set_option maxRecDepth 100000 in
set_option maxHeartbeats 3200000 in
theorem walk (w : World) (A : Option Addr) (n c : Nat) (zs : List Int) (hr : Reads w w.heap.size 1 A n (zs.map (Value.int .i64))) (hnc : n ≤ c) (hcm : c ≤ maxLen) (_ : c * 8 ≤ 140737488351232) (_ : ∀ z ∈ zs, (Lit.int .i64 z).wf = true) :
    Calls Try.prog 3 #[.slice A n c] w fun e w' => e = .returned (.bool true) ∧ Below w.heap.size w w' := by
  have hmf := Try.makeFunc
  have hn : n ≤ 9223372036854775807 := by unfold maxLen at hcm; omega
  clear hcm
  obtain ⟨i0, hi, hz0, hz1, hz2⟩ := info_parts Try.infoInt
  have hlen : Hid (zs.length = n) := hide (by have := hr.1; simpa using this)
  go_enter Try.func3, Try.ntmps3
  go_wp2_with fail
  refine (fit_any _).mono ?_
  rintro e w1 ⟨rfl, hb1⟩
  have hp1 : Blk w1 w.heap.size 22 #[.slice A n c] := (Blk.new w _ _).below hb1 (by simp)
  have hB1 : Below w.heap.size w w1 := ((Below.refl _ _).alloc (Nat.le_refl _) _).trans (hb1.mono (by simp))
  have hs1 := hB1.size
  have hc1 : w1.cell? ⟨w.heap.size, 0, none⟩ = some (.slice A n c) := by rw [hp1.cell]; rfl
  by_cases hbig : 60 < n
  · go_wp2_with fail
    go_ret
    exact ⟨rfl, hB1⟩
  · have hr1 : Reads w1 w1.heap.size 1 A n (zs.map (Value.int .i64)) := (hr.below hB1).more hs1
    have hzz := hp1.frozen 0
    have hp2 := hp1.alloc (.cells #[.slice none 0 0] 26)
    have hW2 := Wr.new w1
    have hc2 : (w1.alloc (.cells #[.slice none 0 0] 26)).cell? ⟨w.heap.size, 0, none⟩ = some (.slice A n c) := by rw [hp2.cell]; rfl
    have hB2 : Below w.heap.size w (w1.alloc (.cells #[.slice none 0 0] 26)) := hB1.alloc hs1 _
    go_wp2_with (at_builtin; refine wpList_append_any _ rfl (.const (.slice none 0 0)) (.tmp 14) 22 rfl w.heap.size 3 i0 (.int .i64 0) 1 8 Try.underlying22 hi hz0 hz1 hz2 rfl (by decide) (.slice none 0 0) 0 [] rfl (own_nil _ _ _ _) (w1.heap.size + 1) A n c (zs.map (Value.int .i64)) rfl ((hr1.alloc (Nat.le_refl _) _).more (by omega)) (oneCell_ints _) (by unfold maxLen; omega) (by omega) (by simp; omega) ?_; intro v3 w3 hown3 hgrow3 hv3; simp only [Nat.zero_add, List.nil_append] at hown3; have hp3 := hp2.grown hgrow3 (by simp [Value.ownBlock]); have hc3 : w3.cell? ⟨w.heap.size, 0, none⟩ = some (.slice A n c) := (by rw [hp3.cell]; rfl); have hz3 := hp3.frozen 0; obtain ⟨A3, c3, rfl⟩ := own_slice hown3)
    have hne3 : ∀ i, (Value.slice A3 n c3).ownBlock = some i → i ≠ w.heap.size := fun i h e => own_blk_ne hown3 hp3 (by decide) (by rw [h, e])
    have hp4 : Blk (w3.setCell ⟨w.heap.size, 0, none⟩ (.slice A3 n c3)) w.heap.size 22 #[.slice A3 n c3] := hp3.set_ 0 _
    have hown4 := own_only hown3 ((Only.refl (· = w.heap.size) w3).setCell (p := ⟨w.heap.size, 0, none⟩) (.inl rfl) (.slice A3 n c3)) hne3
    have hO3 : Only (fun _ => False) (w1.alloc (.cells #[.slice none 0 0] 26)) w3 := (Only.refl _ _).grown hgrow3 (by simp [Value.ownBlock])
    have hW3 : Wr w3 w1.heap.size (.slice none 0 0) [] := hW2.only hO3 (by simp) (by simp)
    have hW4 : Wr (w3.setCell ⟨w.heap.size, 0, none⟩ (.slice A3 n c3)) w1.heap.size (.slice none 0 0) [] := hW3.only ((Only.refl (· = w.heap.size) w3).setCell (p := ⟨w.heap.size, 0, none⟩) (.inl rfl) (.slice A3 n c3)) (by have := hb1.size; simp at this; show ¬ _ = _; omega) (by simp [Value.ownBlock])
    have hB4 : Below w.heap.size w (w3.setCell ⟨w.heap.size, 0, none⟩ (.slice A3 n c3)) := (below_only hB2 hO3 (by simp) (by simp; omega)).setCell (Nat.le_refl _) _
    have hgp : w.heap.size < w1.heap.size := by have := hb1.size; simp at this; omega
    clear hp3 hown3 hW3 hW2 hp2 hc2 hc3 hz3 hzz hgrow3 hv3 hp1 hb1 hB1 hB2 hc1 hO3 hne3 hr1 hr
    go_loopw [4, 18] (fun s i wr => ∃ (k : Nat) (t : Int), k ≤ n ∧ i = .int .i64 k ∧ s = .int .i64 t ∧ St w zs n w.heap.size w1.heap.size (.slice A3 n c3) k t wr) (fun _ i _ => n - (intOf i).toNat)
    case atStart => exact ⟨0, 0, by omega, rfl, rfl, _, by simp [encL], hp4, by simpa using hown4, by simpa [encL] using hW4, by simp [Value.ownBlock], hB4⟩
    case round =>
      clear hp4 hown4 hW4 hB4
      obtain ⟨k, t, hk, rfl, rfl, v', rfl, hp, hown, hW, hv, hB⟩ := hrel
      have hlS : (encL ((zs.take k).map low62)).length ≤ 540 := by
        have := encL_len (l := (zs.take k).map low62) (fun m hm => by obtain ⟨x, _, rfl⟩ := List.mem_map.1 hm; have := low62_bd x; omega)
        rw [List.length_map, List.length_take] at this; omega
      by_cases hlt : k < n
      · have hkz : k < zs.length := by rw [hlen.out]; exact hlt
        obtain ⟨g3, cap, hv3, _, _⟩ := hown.form (by omega)
        injection hv3 with hA3 _ hcap
        subst hA3 hcap
        have hck : wr.cell? ⟨g3, k, none⟩ = some (.int .i64 zs[k]) := by
          rw [hown.cellAt k (by omega)]
          simp [List.getElem?_append, Nat.min_eq_left (Nat.le_of_lt hkz), hkz]
        have hzk := hown.frozenAt k
        obtain ⟨hown2, _⟩ := hown.stored k (.int .i64 (low62 zs[k]))
        have hxs := set_step hkz low62
        rw [hxs] at hown2
        have hT : Hid (encL ((zs.take (k + 1)).map low62) = encL ((zs.take k).map low62) ++ enc (low62 zs[k])) := hide (by rw [List.take_succ_eq_append_getElem hkz, List.map_append, encL_append]; simp [encL_one])
        have hfar := hW.farOwn hown (by decide) (by decide) g3 rfl
        have hO2 : Only (· = g3) wr (wr.setCell ⟨g3, k, none⟩ (.int .i64 (low62 zs[k]))) := (Only.refl (· = g3) wr).setCell (p := ⟨g3, k, none⟩) (.inl rfl) _
        have hpg : w.heap.size ≠ g3 := fun e => own_blk_ne hown hp (by decide) (by rw [e]; rfl)
        have hg3 := (hown.lt g3 rfl).1
        have hp2 := hp.only hO2 (by exact hpg)
        have hW2 := hW.only hO2 (fun e => hfar (.inl e.symm)) (fun i h e => hfar (.inr (by rw [← e]; exact h)))
        have hB2 : Below w.heap.size w (wr.setCell ⟨g3, k, none⟩ (.int .i64 (low62 zs[k]))) := hB.setCell hg3 _
        have hpc : wr.cell? ⟨w.heap.size, 0, none⟩ = some (.slice (some ⟨g3, 0, none⟩) n c3) := by rw [hp.cell]; rfl
        have hand := and62 zs[k]
        have hbd := low62_bd zs[k]
        clear hown hO2 hW hp hB hxs
        generalize zs[k] = x at hck hown2 hT hp2 hW2 hB2 hand hbd
        generalize low62 x = y at hown2 hT hp2 hW2 hB2 hand hbd
        obtain ⟨y, rfl⟩ := Int.eq_ofNat_of_zero_le hbd.1
        generalize encL ((zs.take k).map low62) = bs at hW2 hT hlS
        have hly := pcs_len 9 y (by omega) (by omega)
        go_wp2_with fail
        (with_reducible refine (wnum_one w1.heap.size _ v' bs y _ (by simp) hW2 (by omega) (by omega) (by omega)).mono ?_)
        rintro e w5 ⟨rfl, v5, hW5, hO5⟩
        have hown5 := own_only hown2 hO5.only (hW2.farOwn hown2 (by decide) (by decide))
        have hp5 := hp2.only hO5.only (hW2.far hp2 (by decide) (by decide))
        have hB5 := hO5.below hB2 (by omega) hv hB2.size
        have hv5 := hO5.base hv hB2.size
        clear hown2 hp2 hB2 hO5 hW2 hck hpc hand
        go_wp2_with fail
        go_loop [4, 6] (fun s m => ∃ (a t : Nat), s = .int .i64 t ∧ m = .int .i64 a ∧ a ≤ y ∧ t + (pcs a).length = bs.length + 1 + (pcs y).length) (fun _ m => (intOf m).toNat)
        case atStart => exact ⟨y, bs.length + 1, by go_num, rfl, Nat.le_refl _, rfl⟩
        case round =>
          obtain ⟨a, t, rfl, rfl, ha, ht⟩ := hrel
          by_cases ha1 : 128 ≤ a
          · have hst := pcs_step ha1
            have hla := pcs_pos (a / 128)
            go_wp2_with fail
            go_round
            case rel => exact ⟨a / 128, t + 1, by go_num, by go_num, by omega, by omega⟩
            case measure => simp [intOf]; omega
          · have hla := pcs_last (m := a) (by omega)
            have hte : t = bs.length + (pcs y).length := by omega
            subst hte
            go_wp2_with fail
            go_roundw
            case rel => exact ⟨k + 1, _, by omega, by go_num, rfl, v5, by rw [hT.out]; simp [enc], hp5, hown5, by rw [hT.out]; exact hW5, hv5, hB5⟩
            case measure => simp [intOf]; omega
      · have hkn : k = zs.length := by rw [hlen.out]; omega
        subst hkn
        rw [List.take_length] at hW hlS
        rw [List.take_length, List.drop_length, List.append_nil] at hown
        have hms : ∀ m ∈ zs.map low62, 0 ≤ m ∧ m < 4611686018427387904 := fun m hm => by obtain ⟨x, _, rfl⟩ := List.mem_map.1 hm; exact low62_bd x
        have hL := hlen.out
        rw [List.take_length]
        generalize zs.map low62 = ms at hW hlS hown hms
        subst hL
        have hcp : wr.cell? ⟨w.heap.size, 0, none⟩ = some (.slice A3 zs.length c3) := by rw [hp.cell]; rfl
        have hB5 := hB.alloc hB.size (.cells #[.bool true] 4)
        have hW5 := hW.alloc (.cells #[.bool true] 4)
        have hq5 : Blk (wr.alloc (.cells #[.bool true] 4)) wr.heap.size 4 #[.bool true] := Blk.new _ _ _
        go_wp2_with fail
        (with_reducible refine (bytes_any w1.heap.size v' (encL ms) _ hW5 (by omega)).mono ?_)
        rintro e w6 ⟨v6, rfl, hown6, hB6⟩
        obtain ⟨A6, c6, rfl⟩ := own_slice hown6
        go_wp2_with fail
        have hs5 : wr.heap.size < (wr.alloc (.cells #[.bool true] 4)).heap.size := by simp
        have hq6 := hq5.below hB6 hs5
        have hp6 := (hp.alloc (.cells #[.bool true] 4)).below hB6 (by have := hp.lt; omega)
        have hr6 := Reads.of_own (own_only (hown.alloc (.cells #[.bool true] 4)) (only_of_below hB6 (fun _ => False)) (by simp))
        have hB6' := hB5.trans (hB6.mono hB5.size)
        have hW6 := hW5.only (only_of_below hB6 (fun _ => False)) (by simp) (by simp)
        obtain ⟨hn6, hc6⟩ := own_caps hown6
        have ha6 := own_at hown6
        have ha3 := own_at hown
        have hs6 := hB6.size
        (with_reducible refine (read_any _ _ enters A6 _ c6 (encL ms) w6 (Reads.of_own hown6) hn6 hc6 (· = wr.heap.size) (NumsQ wr.heap.size) (fun ad _ e h => by have := (ha6 ad e).1; omega) (fun i (hi : i = wr.heap.size) => by omega) ?_).mono ?_)
        · intro w8 hb8 _ hR8
          exact call_any _ w.heap.size wr.heap.size w6.heap.size A3 zs.length c3 ms w8 hR8 (hp6.below hb8 hp6.lt) (hq6.below hb8 hq6.lt) (hr6.below hb8) hb8.size (fun ad _ e => by have := ha3 ad e; omega) (by omega) hms (by omega)
        · rintro e w9 ⟨x, w8, ⟨rfl, hc8⟩, hO8, hO9, rfl⟩
          rw [show endB (some []) = true from rfl]
          have hc9 : w9.cell? ⟨wr.heap.size, 0, none⟩ = some (.bool true) := by
            rw [hO8.cell (World.block_lt_of_cell? w8 _ hc8) (by show ¬ wr.heap.size = w6.heap.size; omega), hc8]
          have hgl := hW.lt
          have hW9 := hW6.only hO9 (by show ¬ w1.heap.size = wr.heap.size; omega) (fun i h (e : i = wr.heap.size) => by have := hW.ownLt h; omega)
          have hsB := hB.size
          have hB9 := below_only hB6' hO9 (fun i (hi : i = wr.heap.size) => by omega) hB6'.size
          go_wp2_with fail
          (with_reducible refine (bytes_any w1.heap.size v' (encL ms) _ hW9 (by omega)).mono ?_)
          rintro e w10 ⟨v10, rfl, hown10, hB10⟩
          obtain ⟨A10, c10, rfl⟩ := own_slice hown10
          go_wp2_with fail
          go_ret
          exact ⟨by simp, hB9.trans (hB10.mono hB9.size)⟩
end Go.Proofs.Ytfhepoihhigcaaa.codecNums
