/- The walk of CodecJoins: it returns true at all arguments and leaves what was there as it was. -/
import Derived.Test.YtfhepoihhigcaaaCodSep
import Derived.Deep.DeepCutAuto
namespace Go.Proofs.Ytfhepoihhigcaaa.codecJoins
open Go.RowKit

theorem enters (args : Array Value) (w : World) : (callFunc 30 args).run Try.prog w = .ok (.enter 30 args) w := by kernel_rfl
def JoinsQ (more : Int) (x : Option (List Int)) (_ : World) : Prop := endB x = (more == 0)

set_option maxRecDepth 100000 in
set_option maxHeartbeats 1600000 in
theorem call_any (g p1 p2 p3 : Nat) (A B : Option Addr) (n m c d : Nat) (more : Nat) (ms : List Int) (w : World) (h : Rd w g (fun _ => False) (encL ms) false) (h1 : Blk w p1 22 #[.slice A n c]) (h2 : Blk w p2 22 #[.slice B m d]) (h3 : Blk w p3 3 #[.int .i64 (more : Int)])
    (hl : ms.length = n + m) (hm : ∀ m ∈ ms, 0 ≤ m ∧ m < 4611686018427387904) (hn : n + m ≤ 60) (h4 : more ≤ 3) :
    Calls Try.prog 30 #[.pointer (some ⟨g, 0, none⟩), .pointer (some ⟨p1, 0, none⟩), .pointer (some ⟨p2, 0, none⟩), .pointer (some ⟨p3, 0, none⟩)] w (Calling g (fun _ => False) (JoinsQ more) w) := by
  have c1 : w.cell? ⟨p1, 0, none⟩ = some (.slice A n c) := by rw [h1.cell]; rfl
  have c2 : w.cell? ⟨p2, 0, none⟩ = some (.slice B m d) := by rw [h2.cell]; rfl
  have c3 : w.cell? ⟨p3, 0, none⟩ = some (.int .i64 (more : Int)) := by rw [h3.cell]; rfl
  have HL := hide hl
  clear hl h1 h2 h3
  go_enter Try.func30, Try.ntmps30
  go_wp2_with fail
  go_loopw [12] (fun i wr => ∃ k : Nat, k ≤ n + m ∧ i = .int .i64 k ∧ Rd wr g (fun _ => False) (encL (ms.drop k)) false ∧ Only (fun i => i = g ∨ False) w wr) (fun i _ => n + m - (intOf i).toNat)
  case atStart => exact ⟨0, by omega, rfl, h, Only.refl _ _⟩
  case round =>
    clear h c1 c2 c3
    obtain ⟨k, hk, rfl, hR, hO⟩ := hrel
    have HN := num_any g (fun _ => False) _ wr hR (encL_bd _)
    by_cases hlt : k < n + m
    · have hkz : k < ms.length := by rw [HL.out]; exact hlt
      have hbd := hm ms[k] (List.getElem_mem _)
      rw [encL_drop hkz, rdN_enc hbd.1 (by omega)] at HN
      have hkm : (k : Int) < (n : Int) + (m : Int) + (more : Int) := by omega
      generalize ms[k] = x at hbd HN
      clear hR
      go_wp2_with fail
      refine HN.mono ?_
      rintro e w2 hX
      obtain ⟨rfl, hR2, hO2⟩ := hX.rd
      go_wp2_with fail
      go_roundw
      case rel => exact ⟨k + 1, by omega, by go_num, hR2, hO.trans hO2 (fun i hi => .inl (.inl hi))⟩
      case measure => simp [intOf]; omega
    · have he : ms.drop k = [] := List.drop_of_length_le (by rw [HL.out]; omega)
      have hkn : k = n + m := by omega
      rw [he] at HN hR
      rw [show rdN 9 (encL []) = none from rfl] at HN
      clear he
      subst hkn
      by_cases h0 : more = 0
      · subst h0
        go_wp2_with fail
        go_end0
        exact ⟨hO, .inl ⟨[], rfl, hR, rfl⟩⟩
      · have hpos : (0 : Int) < (more : Int) := by omega
        have hq : ((more : Int) == 0) = false := by simp; omega
        clear hR
        go_wp2_with fail
        refine HN.mono ?_
        rintro e w2 hX
        obtain ⟨rfl, hR2, hO2⟩ := hX.no
        refine ⟨rfl, hO.trans hO2 (fun i hi => .inl (.inl hi)), .inr ⟨rfl, hR2, ?_⟩⟩
        show false = _
        rw [hq]

/-- Three Writers, apart, all made behind w0. -/
def J (w0 : World) (gx gy gz : Nat) (bx by_ bz : List Int) (wr : World) : Prop :=
  ∃ vx vy vz, Wr wr gx vx bx ∧ Wr wr gy vy by_ ∧ Wr wr gz vz bz ∧ Sep vx vy ∧ Sep vx vz ∧ Sep vy vz ∧
    (∀ i, vx.ownBlock = some i → w0.heap.size ≤ i) ∧ (∀ i, vy.ownBlock = some i → w0.heap.size ≤ i) ∧ (∀ i, vz.ownBlock = some i → w0.heap.size ≤ i) ∧ Below w0.heap.size w0 wr
section
variable {w0 wr : World} {gx gy gz : Nat} {bx by_ bz : List Int}
theorem J.xzy (h : J w0 gx gy gz bx by_ bz wr) : J w0 gx gz gy bx bz by_ wr := by
  obtain ⟨vx, vy, vz, a, b, c, d, e, f, g, h, i, j⟩ := h
  exact ⟨vx, vz, vy, a, c, b, e, d, f.symm, g, i, h, j⟩
theorem J.zyx (h : J w0 gx gy gz bx by_ bz wr) : J w0 gz gy gx bz by_ bx wr := by
  obtain ⟨vx, vy, vz, a, b, c, d, e, f, g, h, i, j⟩ := h
  exact ⟨vz, vy, vx, c, b, a, f.symm, e.symm, d.symm, i, h, g, j⟩
theorem J.below (h : J w0 gx gy gz bx by_ bz wr) {w' : World} (k : Below wr.heap.size wr w') : J w0 gx gy gz bx by_ bz w' := by
  obtain ⟨vx, vy, vz, a, b, c, d, e, f, g, h, i, j⟩ := h
  have o := only_of_below k (fun _ => False)
  exact ⟨vx, vy, vz, a.only o (by simp) (by simp), b.only o (by simp) (by simp), c.only o (by simp) (by simp), d, e, f, g, h, i, j.trans (k.mono j.size)⟩
theorem J.drew (h : J w0 gx gy gz bx by_ bz wr) : J w0 gx gy gz bx by_ bz wr.drew := h.below ((Below.refl _ _).drew)
/-- One number on the first. -/
theorem J.num (h : J w0 gx gy gz bx by_ bz wr) (hxy : gx ≠ gy) (hxz : gx ≠ gz) (hx : w0.heap.size ≤ gx) (b : Nat) (hb : b = wr.heap.size) (x : Int) (h0 : 0 ≤ x) (h1 : x < 4611686018427387904) (hl : bx.length ≤ 5000) :
    Calls Try.prog 10 #[.pointer (some ⟨gx, 0, none⟩), .slice (some ⟨b, 0, none⟩) 1 1] (wr.alloc (.cells #[.int .i64 x] 3)) fun e w' => e = .returned (.pointer (some ⟨gx, 0, none⟩)) ∧ J w0 gx gy gz (bx ++ enc x) by_ bz w' := by
  obtain ⟨vx, vy, vz, a, b', c, d, e, f, g, h, i, j⟩ := h
  refine (wnum_one gx b vx bx x wr hb a h0 (by omega) (by omega)).mono ?_
  rintro e' w' ⟨rfl, v', hW, hO⟩
  obtain ⟨k1, k2⟩ := a.step b' hxy d hO
  obtain ⟨k3, k4⟩ := a.step c hxz e hO
  exact ⟨rfl, v', vy, vz, hW, k1, k3, k2, k4, f, hO.base g j.size, h, i, hO.below j hx g j.size⟩
/-- The bytes of the first. -/
theorem J.bytes (h : J w0 gx gy gz bx by_ bz wr) (hl : bx.length ≤ 10000) :
    Calls Try.prog 12 #[.pointer (some ⟨gx, 0, none⟩)] wr fun e w' => ∃ A n c, e = .returned (.slice A n c) ∧ Reads w' w'.heap.size 1 A n (bx.map (Value.int .u8)) ∧ n ≤ c ∧ c ≤ maxLen ∧ (∀ ad, A = some ad → wr.heap.size ≤ ad.block) ∧ Below wr.heap.size wr w' ∧ J w0 gx gy gz bx by_ bz w' := by
  obtain ⟨vx, vy, vz, a, rest⟩ := h
  refine (bytes_any gx vx bx wr a (by omega)).mono ?_
  rintro e w' ⟨v', rfl, hown, hB⟩
  obtain ⟨A, c, rfl⟩ := own_slice hown
  obtain ⟨h1, h2⟩ := own_caps hown
  exact ⟨A, _, c, rfl, Reads.of_own hown, h1, h2, fun ad e => (own_at hown ad e).1, hB, J.below ⟨vx, vy, vz, a, rest⟩ hB⟩
end

set_option maxRecDepth 100000 in
set_option maxHeartbeats 8000000 in
theorem walk (w : World) (A : Option Addr) (n c : Nat) (xs : List Int) (hr : Reads w w.heap.size 1 A n (xs.map (Value.int .i64))) (_ : n ≤ c) (_ : c ≤ maxLen) (_ : c * 8 ≤ 140737488351232) (_ : ∀ z ∈ xs, (Lit.int .i64 z).wf = true)
    (B : Option Addr) (m d : Nat) (ys : List Int) (hs : Reads w w.heap.size 1 B m (ys.map (Value.int .i64))) (_ : m ≤ d) (_ : d ≤ maxLen) (_ : d * 8 ≤ 140737488351232) (_ : ∀ z ∈ ys, (Lit.int .i64 z).wf = true)
    (more : Int) (_ : -9223372036854775808 ≤ more) (_ : more ≤ 9223372036854775807) :
    Calls Try.prog 7 #[.slice A n c, .slice B m d, .int .i64 more] w fun e w' => e = .returned (.bool true) ∧ Below w.heap.size w w' := by
  have hmf := Try.makeFunc
  have hn : n ≤ 17592186043904 := by omega
  have hm : m ≤ 17592186043904 := by omega
  have hand3 : ∃ q : Nat, bits .and .i64 more 3 = (q : Int) ∧ q ≤ 3 := by
    refine ⟨(more % 4).toNat, ?_, by omega⟩
    rw [show bits .and .i64 more 3 = more % 4 from i64_and_mask more 2 (by omega)]; omega
  obtain ⟨q, hq, hq3⟩ := hand3
  have hla : Hid (xs.length = n) := hide (by have := hr.1; simpa using this)
  have hlb : Hid (ys.length = m) := hide (by have := hs.1; simpa using this)
  go_enter Try.func7, Try.ntmps7
  go_wp2_with fail
  refine (fit_any _).mono ?_
  rintro e w1 ⟨rfl, hb1⟩
  have p1 : Blk w1 w.heap.size 22 #[.slice A n c] := (((Blk.new w _ _).alloc _).alloc _).below hb1 (by simp; omega)
  have p2 : Blk w1 (w.heap.size + 1) 22 #[.slice B m d] := by
    have := ((Blk.new (w.alloc (.cells #[.slice A n c] 22)) 22 #[.slice B m d]).alloc (.cells #[.int .i64 more] 3)).below hb1 (by simp)
    simpa using this
  have p3 : Blk w1 (w.heap.size + 1 + 1) 3 #[.int .i64 more] := by
    have := (Blk.new ((w.alloc (.cells #[.slice A n c] 22)).alloc (.cells #[.slice B m d] 22)) 3 #[.int .i64 more]).below hb1 (by simp)
    simpa using this
  have hB1 : Below w.heap.size w w1 := ((((Below.refl _ _).alloc (Nat.le_refl _) _).alloc (by simp) _).alloc (by simp; omega) _).trans (hb1.mono (by simp; omega))
  have hs1 : w.heap.size + 3 ≤ w1.heap.size := by have := hb1.size; simpa using this
  have hc1 : w1.cell? ⟨w.heap.size, 0, none⟩ = some (.slice A n c) := by rw [p1.cell]; rfl
  have hc2 : w1.cell? ⟨w.heap.size + 1, 0, none⟩ = some (.slice B m d) := by rw [p2.cell]; rfl
  by_cases hbig : 60 < n + m
  · have hbig' : (60 : Int) < (n : Int) + (m : Int) := by omega
    go_wp2_with fail
    go_ret
    exact ⟨rfl, hB1⟩
  · have hbig' : ¬ (60 : Int) < (n : Int) + (m : Int) := by omega
    have hJ0 : J w1 w1.heap.size (w1.heap.size + 1) (w1.heap.size + 1 + 1) [] [] [] (((w1.alloc (.cells #[.slice none 0 0] 26)).alloc (.cells #[.slice none 0 0] 26)).alloc (.cells #[.slice none 0 0] 26)) := by
      refine ⟨.slice none 0 0, .slice none 0 0, .slice none 0 0, ((Wr.new _).alloc _).alloc _, ?_, ?_, by simp [Sep, Value.ownBlock], by simp [Sep, Value.ownBlock], by simp [Sep, Value.ownBlock], by simp [Value.ownBlock], by simp [Value.ownBlock], by simp [Value.ownBlock], (((Below.refl _ _).alloc (Nat.le_refl _) _).alloc (by simp) _).alloc (by simp; omega) _⟩
      · have := (Wr.new (w1.alloc (.cells #[.slice none 0 0] 26))).alloc (.cells #[.slice none 0 0] 26)
        simpa using this
      · have := Wr.new ((w1.alloc (.cells #[.slice none 0 0] 26)).alloc (.cells #[.slice none 0 0] 26))
        simpa using this
    have hra := (hr.below hB1).more (B' := w1.heap.size) (by omega)
    have hrb := (hs.below hB1).more (B' := w1.heap.size) (by omega)
    have HBig : n + m ≤ 60 := by omega
    have hc1' : (((w1.alloc (.cells #[.slice none 0 0] 26)).alloc (.cells #[.slice none 0 0] 26)).alloc (.cells #[.slice none 0 0] 26)).cell? ⟨w.heap.size, 0, none⟩ = some (.slice A n c) := by rw [(((p1.alloc _).alloc _).alloc _).cell]; rfl
    clear hr hs hb1
    go_wp2_with fail
    generalize (((w1.alloc (.cells #[.slice none 0 0] 26)).alloc (.cells #[.slice none 0 0] 26)).alloc (.cells #[.slice none 0 0] 26)) = w2 at hJ0 hc1'
    have e1 : w1.heap.size ≠ w1.heap.size + 1 := by omega
    have e2 : w1.heap.size ≠ w1.heap.size + 1 + 1 := by omega
    have e3 : w1.heap.size + 1 + 1 ≠ w1.heap.size + 1 := by omega
    have E1 := hide e1
    have E2 := hide e2
    have E3 := hide e3
    clear e1 e2 e3
    go_loopw [24] (fun i wr => ∃ k : Nat, k ≤ n ∧ i = .int .i64 k ∧ J w1 w1.heap.size (w1.heap.size + 1) (w1.heap.size + 1 + 1) (encL ((xs.take k).map low62)) [] (encL ((xs.take k).map low62)) wr) (fun i _ => n - (intOf i).toNat)
    case atStart => exact ⟨0, by omega, rfl, by simpa [encL] using hJ0⟩
    case round =>
      clear hJ0 hc1' hc1 hc2
      obtain ⟨k, hk, rfl, hJ⟩ := hrel
      have hlS : (encL ((xs.take k).map low62)).length ≤ 540 := by
        have := encL_len (l := (xs.take k).map low62) (fun m hm => by obtain ⟨x, _, rfl⟩ := List.mem_map.1 hm; have := low62_bd x; omega)
        rw [List.length_map, List.length_take] at this; omega
      by_cases hlt : k < n
      · have hkz : k < xs.length := by rw [hla.out]; exact hlt
        have hB : Below w1.heap.size w1 wr := by obtain ⟨_, _, _, _, _, _, _, _, _, _, _, _, h⟩ := hJ; exact h
        obtain ⟨b, off, rfl, _, hc0⟩ := (hra.below hB).ints (by omega)
        have hck := hc0 k hlt
        rw [show xs.getD k 0 = xs[k] by simp [List.getD, hkz]] at hck
        have hT : Hid (encL ((xs.take (k + 1)).map low62) = encL ((xs.take k).map low62) ++ enc (low62 xs[k])) := hide (by rw [List.take_succ_eq_append_getElem hkz, List.map_append, encL_append]; simp [encL_one])
        have hand := and62 xs[k]
        have hbd := low62_bd xs[k]
        clear hc0 hB
        generalize xs[k] = x at hck hT hand hbd
        generalize low62 x = y at hT hand hbd
        have hyl := enc_len (n := y) (by omega)
        generalize encL ((xs.take k).map low62) = E at hJ hT hlS
        go_wp2_with fail
        (with_reducible refine (hJ.num E1.out E2.out (Nat.le_refl _) _ rfl y hbd.1 hbd.2 (by omega)).mono ?_)
        rintro e w5 ⟨rfl, hJ5⟩
        go_wp2_with fail
        (with_reducible refine (hJ5.zyx.num E3.out E2.out.symm (by omega) _ rfl y hbd.1 hbd.2 (by omega)).mono ?_)
        rintro e w6 ⟨rfl, hJ6⟩
        go_wp2_with fail
        go_roundw
        case rel => exact ⟨k + 1, by omega, by go_num, by rw [hT.out]; exact hJ6.zyx⟩
        case measure => simp [intOf]; omega
      · have hta : xs.take k = xs := List.take_of_length_le (by rw [hla.out]; omega)
        rw [hta] at hJ hlS
        clear hta
        obtain rfl : k = n := by omega
        have hxm : ∀ m ∈ xs.map low62, 0 ≤ m ∧ m < 4611686018427387904 := fun m hm => by obtain ⟨x, _, rfl⟩ := List.mem_map.1 hm; exact low62_bd x
        have hxl : (xs.map low62).length = k := by rw [List.length_map]; exact hla.out
        generalize xs.map low62 = as' at hJ hlS hxm hxl
        have HXL := hide hxl
        clear hxl
        have hB : Below w1.heap.size w1 wr := by obtain ⟨_, _, _, _, _, _, _, _, _, _, _, _, h⟩ := hJ; exact h
        have hc2 : wr.cell? ⟨w.heap.size + 1, 0, none⟩ = some (.slice B m d) := by rw [(p2.below hB p2.lt).cell]; rfl
        clear hB hk
        go_wp2_with fail
        go_loopw [39] (fun i wr => ∃ j : Nat, j ≤ m ∧ i = .int .i64 j ∧ J w1 w1.heap.size (w1.heap.size + 1) (w1.heap.size + 1 + 1) (encL as') (encL ((ys.take j).map low62)) (encL as' ++ encL ((ys.take j).map low62)) wr) (fun i _ => m - (intOf i).toNat)
        case atStart => exact ⟨0, by omega, rfl, by simpa [encL] using hJ⟩
        case round =>
          clear hJ hc2
          obtain ⟨j, hj, rfl, hJ⟩ := hrel
          have hlT : (encL ((ys.take j).map low62)).length ≤ 540 := by
            have := encL_len (l := (ys.take j).map low62) (fun m hm => by obtain ⟨x, _, rfl⟩ := List.mem_map.1 hm; have := low62_bd x; omega)
            rw [List.length_map, List.length_take] at this; omega
          by_cases hlt2 : j < m
          · have hjz : j < ys.length := by rw [hlb.out]; exact hlt2
            have hB : Below w1.heap.size w1 wr := by obtain ⟨_, _, _, _, _, _, _, _, _, _, _, _, h⟩ := hJ; exact h
            obtain ⟨b, off, rfl, _, hc0⟩ := (hrb.below hB).ints (by omega)
            have hck := hc0 j hlt2
            rw [show ys.getD j 0 = ys[j] by simp [List.getD, hjz]] at hck
            have hT : Hid (encL ((ys.take (j + 1)).map low62) = encL ((ys.take j).map low62) ++ enc (low62 ys[j])) := hide (by rw [List.take_succ_eq_append_getElem hjz, List.map_append, encL_append]; simp [encL_one])
            have hand := and62 ys[j]
            have hbd := low62_bd ys[j]
            clear hc0 hB
            generalize ys[j] = x at hck hT hand hbd
            generalize low62 x = y at hT hand hbd
            have hyl := enc_len (n := y) (by omega)
            generalize encL ((ys.take j).map low62) = E at hJ hT hlT
            go_wp2_with fail
            (with_reducible refine (hJ.xzy.zyx.xzy.num E1.out.symm E3.out.symm (by omega) _ rfl y hbd.1 hbd.2 (by omega)).mono ?_)
            rintro e w5 ⟨rfl, hJ5⟩
            go_wp2_with fail
            (with_reducible refine (hJ5.xzy.zyx.xzy.zyx.num E3.out E2.out.symm (by omega) _ rfl y hbd.1 hbd.2 (by simp; omega)).mono ?_)
            rintro e w6 ⟨rfl, hJ6⟩
            go_wp2_with fail
            go_roundw
            case rel => exact ⟨j + 1, by omega, by go_num, by rw [hT.out, ← List.append_assoc]; exact hJ6.zyx⟩
            case measure => simp [intOf]; omega
          · have hta : ys.take j = ys := List.take_of_length_le (by rw [hlb.out]; omega)
            rw [hta] at hJ hlT
            clear hta
            obtain rfl : j = m := by omega
            have hym : ∀ m ∈ ys.map low62, 0 ≤ m ∧ m < 4611686018427387904 := fun m hm => by obtain ⟨x, _, rfl⟩ := List.mem_map.1 hm; exact low62_bd x
            have hyl : (ys.map low62).length = j := by rw [List.length_map]; exact hlb.out
            generalize ys.map low62 = bs' at hJ hlT hym hyl
            have HYL := hide hyl
            clear hyl hj
            go_upto_region 18 with fail
            go_cut [59] (fun s59 wx => s59 = .bool false ∧ J w1 (w1.heap.size + 1) (w1.heap.size + 1 + 1) w1.heap.size (encL bs') (encL as' ++ encL bs') (encL as') wx)
            case first =>
              have hJd := hJ.drew
              have hlz : (encL as' ++ encL bs').length ≤ 10000 := by simp; omega
              have hcat := fun w => strOf_cat (P := Try.prog) (encL as') (encL bs') (by omega) w
              go_region_with (first
                | (go_at_call 12; (with_reducible refine (hJd.zyx.bytes hlz).mono ?_); rintro e w5 ⟨A5, n5, c5, rfl, hr5, _, _, _, hB5, hJ5⟩; have k5 := reads_string hr5 c5)
                | (go_at_call 12; (with_reducible refine (hJ5.zyx.bytes (by omega)).mono ?_); rintro e w6 ⟨A6, n6, c6, rfl, hr6, _, _, _, hB6, hJ6⟩; have k6 := reads_string hr6 c6; have k5' := reads_string (hr5.below hB6) c5)
                | (go_at_call 12; (with_reducible refine (hJ6.xzy.zyx.bytes (by omega)).mono ?_); rintro e w7 ⟨A7, n7, c7, rfl, hr7, _, _, _, hB7, hJ7⟩; have k7 := reads_string hr7 c7; have k6' := reads_string (hr6.below hB7) c6; have k5'' := reads_string (hr5.below (hB6.trans (hB7.mono hB6.size))) c5))
              all_goals (go_wp2_with fail; go_meet; exact ⟨by simp, hJ7⟩)
            case rest =>
              obtain ⟨rfl, hJ7⟩ := hcut
              clear hJ
              have hlz : (encL as' ++ encL bs').length ≤ 10000 := by simp; omega
              obtain ⟨vy, vz, vx, _, hWz, _, _, _, _, _, hvz, _, hBz⟩ := hJ7
              have q3 := p3.below hBz p3.lt
              have c3 : wc.cell? ⟨w.heap.size + 1 + 1, 0, none⟩ = some (.int .i64 more) := by rw [q3.cell]; rfl
              have z3 := q3.frozen 0
              have hO8 : Only (· = w.heap.size + 1 + 1) wc (wc.setCell ⟨w.heap.size + 1 + 1, 0, none⟩ (.int .i64 (q : Int))) := (Only.refl (· = w.heap.size + 1 + 1) wc).setCell (p := ⟨w.heap.size + 1 + 1, 0, none⟩) (.inl rfl) _
              have r3 : Blk (wc.setCell ⟨w.heap.size + 1 + 1, 0, none⟩ (.int .i64 (q : Int))) (w.heap.size + 1 + 1) 3 #[.int .i64 (q : Int)] := q3.set_ 0 _
              have r1 := (p1.below hBz p1.lt).only hO8 (by show ¬ w.heap.size = w.heap.size + 1 + 1; omega)
              have r2 := (p2.below hBz p2.lt).only hO8 (by show ¬ w.heap.size + 1 = w.heap.size + 1 + 1; omega)
              have hW8 := hWz.only hO8 (by show ¬ w1.heap.size + 1 + 1 = w.heap.size + 1 + 1; omega) (fun i h (e : i = w.heap.size + 1 + 1) => by have := hvz i h; omega)
              have hB8 : Below w.heap.size w (wc.setCell ⟨w.heap.size + 1 + 1, 0, none⟩ (.int .i64 (q : Int))) := (hB1.trans (hBz.mono (by omega))).setCell (by show w.heap.size ≤ w.heap.size + 1 + 1; omega) _
              have s3 : (wc.setCell ⟨w.heap.size + 1 + 1, 0, none⟩ (.int .i64 (q : Int))).drew.cell? ⟨w.heap.size + 1 + 1, 0, none⟩ = some (.int .i64 (q : Int)) := by rw [r3.drew.cell]; rfl
              have s3' : (wc.setCell ⟨w.heap.size + 1 + 1, 0, none⟩ (.int .i64 (q : Int))).cell? ⟨w.heap.size + 1 + 1, 0, none⟩ = some (.int .i64 (q : Int)) := by rw [r3.cell]; rfl
              go_wp2_with fail
              have hHm : ∀ m ∈ as' ++ bs', 0 ≤ m ∧ m < 4611686018427387904 := fun m hm => (List.mem_append.1 hm).elim (hxm m) (hym m)
              have hHl : (as' ++ bs').length = k + j := by rw [List.length_append, HXL.out, HYL.out]
              have HE : Hid (encL as' ++ encL bs' = encL (as' ++ bs')) := hide (encL_append _ _).symm
              rw [HE.out] at hW8 hlz
              have HLz := hide hlz
              have HHl := hide hHl
              clear hHl hlz
              have hRead : ∀ (w9 : World) (A9 : Option Addr) (c9 : Nat), Below (wc.setCell ⟨w.heap.size + 1 + 1, 0, none⟩ (.int .i64 (q : Int))).drew.heap.size (wc.setCell ⟨w.heap.size + 1 + 1, 0, none⟩ (.int .i64 (q : Int))).drew w9 →
                  w9.ownsRow (wc.setCell ⟨w.heap.size + 1 + 1, 0, none⟩ (.int .i64 (q : Int))).drew.heap.size 5 1 (.slice A9 (encL (as' ++ bs')).length c9) (encL (as' ++ bs')).length ((encL (as' ++ bs')).map (Value.int .u8)) →
                  Calls Try.prog 11 #[.slice A9 (encL (as' ++ bs')).length c9, .func (.func 30) #[] #[.pointer (some ⟨w.heap.size, 0, none⟩), .pointer (some ⟨w.heap.size + 1, 0, none⟩), .pointer (some ⟨w.heap.size + 1 + 1, 0, none⟩)]] w9 (ReadEnd (fun _ => False) (JoinsQ q) w9) := by
                intro w9 A9 c9 hB9 hown9
                have o1 := r1.drew.below hB9 r1.lt
                have o2 := r2.drew.below hB9 r2.lt
                have o3 := r3.drew.below hB9 r3.lt
                exact read_any _ _ enters A9 _ c9 (encL (as' ++ bs')) w9 (Reads.of_own hown9) (own_caps hown9).1 (own_caps hown9).2 (fun _ => False) (JoinsQ q) (fun _ _ _ h => h) (fun _ h => h.elim) (fun w10 hb10 _ hR10 => call_any _ _ _ _ A B k j c d q (as' ++ bs') w10 hR10 (o1.below hb10 o1.lt) (o2.below hb10 o2.lt) (o3.below hb10 o3.lt) HHl.out hHm HBig hq3)
              go_region_with (first
                | (go_at_call 12; (with_reducible refine (bytes_any (w1.heap.size + 1 + 1) vz (encL (as' ++ bs')) _ hW8.drew (by have := HLz.out; omega)).mono ?_); rintro e w9 ⟨v9, rfl, hown9, hB9⟩; obtain ⟨A9, c9, rfl⟩ := own_slice hown9; have t3 : w9.cell? ⟨w.heap.size + 1 + 1, 0, none⟩ = some (.int .i64 (q : Int)) := (by rw [(r3.drew.below hB9 r3.lt).cell]; rfl))
                | (go_at_call 11; (with_reducible refine (hRead w9 A9 c9 hB9 hown9).mono ?_); rintro e w12 ⟨x, w11, hQ, hO1, hO2, rfl⟩; have hQ' : endB x = ((q : Int) == 0) := hQ; rw [hQ']; have u3 : w12.cell? ⟨w.heap.size + 1 + 1, 0, none⟩ = some (.int .i64 (q : Int)) := (by rw [((r3.drew.below hB9 r3.lt).only hO2 (fun h => h)).cell]; rfl)))
              all_goals
                go_wp2_with fail
                go_ret
                exact ⟨rfl, below_only (hB8.drew.trans (hB9.mono hB8.size)) hO2 (fun _ h => h.elim) (Nat.le_trans hB8.size hB9.size)⟩
end Go.Proofs.Ytfhepoihhigcaaa.codecJoins
