/- The walk of CodecSmall: it returns true at all arguments and leaves what was there as it was. -/
import Derived.Test.YthacenajocchcaaCodSmallC
namespace Go.Proofs.Ythacenajocchcaa.codecSmall
open Go.RowKit

def loadViewF (x : Value) : Sem Value := Instr.loadAt 24 x
theorem loadViewF_fold (x : Value) : Instr.loadAt 24 x = loadViewF x := rfl
theorem loadViewF_has {w : World} {b o : Nat} (h : HasRow w b o 7) : (loadViewF (.pointer (some ⟨b, o, none⟩))).run Try.prog w = .ok (.agg (rowAt w b o 7)) w := run_loadAt_has Try.underlying24 rfl Try.infoView h
def loadChangeF (x : Value) : Sem Value := Instr.loadAt 38 x
theorem loadChangeF_fold (x : Value) : Instr.loadAt 38 x = loadChangeF x := rfl
theorem loadChangeF_has {w : World} {b o : Nat} (h : HasRow w b o 3) : (loadChangeF (.pointer (some ⟨b, o, none⟩))).run Try.prog w = .ok (.agg (rowAt w b o 3)) w := run_loadAt_has Try.underlying38 rfl infoChange h
def loadBallotF (x : Value) : Sem Value := Instr.loadAt 40 x
theorem loadBallotF_fold (x : Value) : Instr.loadAt 40 x = loadBallotF x := rfl
theorem loadBallotF_has {w : World} {b o : Nat} (h : HasRow w b o 2) : (loadBallotF (.pointer (some ⟨b, o, none⟩))).run Try.prog w = .ok (.agg (rowAt w b o 2)) w := run_loadAt_has Try.underlying40 rfl infoBallot h
attribute [local go_sem ↓] loadViewF_fold loadChangeF_fold loadBallotF_fold
attribute [local go_sem] loadViewF_has loadChangeF_has loadBallotF_has

set_option maxRecDepth 100000 in
set_option maxHeartbeats 6400000 in
theorem walk (w : World) (n : Int) (_ : -9223372036854775808 ≤ n) (_ : n ≤ 9223372036854775807) (limit : Int) (_ : -9223372036854775808 ≤ limit) (_ : limit ≤ 9223372036854775807) (zs : List Int) (hl : zs.length = 7) (_ : wf64 zs) :
    Calls Try.prog 3 #[.int .i64 n, .int .i64 limit, .agg (iA zs)] w fun e w' => e = .returned (.bool true) ∧ Below w.heap.size w w' := by
  have hmf := Try.makeFunc
  obtain ⟨N, hN, hN1⟩ : ∃ N : Nat, bits .and .i64 n 1023 = (N : Int) ∧ N < 1024 := ⟨(n % 1024).toNat, by rw [show bits .and .i64 n 1023 = n % 1024 from i64_and_mask n 10 (by omega)]; omega, by omega⟩
  obtain ⟨L, hL, hL1⟩ : ∃ L : Nat, bits .and .i64 limit 1023 = (L : Int) ∧ L < 1024 := ⟨(limit % 1024).toNat, by rw [show bits .and .i64 limit 1023 = limit % 1024 from i64_and_mask limit 10 (by omega)]; omega, by omega⟩
  have hP0 : Blk ((w.alloc (.cells #[.int .i64 limit] 3)).alloc (.cells (iA zs) 24)) w.heap.size 3 #[.int .i64 limit] := (Blk.new _ _ _).alloc _
  have hV0 : IBlk ((w.alloc (.cells #[.int .i64 limit] 3)).alloc (.cells (iA zs) 24)) (w.heap.size + 1) 24 zs := by
    have := IBlk.new (w.alloc (.cells #[.int .i64 limit] 3)) 24 zs
    simpa using this
  have hB0 : Below w.heap.size w ((w.alloc (.cells #[.int .i64 limit] 3)).alloc (.cells (iA zs) 24)) := ((Below.refl _ _).alloc (Nat.le_refl _) _).alloc (by simp) _
  go_enter Try.func3, Try.ntmps3
  go_wp2_with fail
  generalize (w.alloc (.cells #[.int .i64 limit] 3)).alloc (.cells (iA zs) 24) = w0 at hP0 hV0 hB0
  (with_reducible refine (fit_any w0).mono ?_)
  rintro e w1 ⟨rfl, hx⟩
  have hP1 := hP0.below hx hP0.lt
  have hV1 := hV0.below hx hV0.lt
  have hB1 := hB0.trans (hx.mono hB0.size)
  clear hP0 hV0 hB0 hx
  go_upto_region 3 with fail
  have cp : w1.drew.cell? ⟨w.heap.size, 0, none⟩ = some (.int .i64 limit) := by show w1.cell? _ = _; rw [hP1.cell]; rfl
  have zp := hP1.drew.frozen 0
  have hP2 := hP1.drew.set_ 0 (.int .i64 L)
  have oP := ((Only.refl (· = w.heap.size) w1).drew).setCell (p := ⟨w.heap.size, 0, none⟩) (.inl rfl) (.int .i64 L)
  have hV2 := hV1.only oP (by show ¬ w.heap.size + 1 = w.heap.size; omega)
  have hB2 := below_only hB1 oP (fun i (e : i = w.heap.size) => by omega) hB1.size
  go_cut [0] (fun s0 wx => s0 = .int .i64 N ∧ Blk wx w.heap.size 3 #[.int .i64 L] ∧ IBlk wx (w.heap.size + 1) 24 zs ∧ Below w.heap.size w wx)
  case first =>
    clear hP1 hV1 hB1 oP
    go_region
    all_goals
      go_wp2_with fail
      go_meet
      exact ⟨rfl, hP2, hV2, hB2⟩
  case rest =>
    clear cp zp hP1 hV1 hB1 hP2 hV2 hB2 oP
    obtain ⟨rfl, hP, hV, hB⟩ := hcut
    -- the first Writer
    have hW2 : Wr (wc.alloc (.cells #[.slice none 0 0] 28)) wc.heap.size (.slice none 0 0) [] := Wr.new wc
    have hP2 := hP.alloc (.cells #[.slice none 0 0] 28)
    have hV2 := hV.alloc (.cells #[.slice none 0 0] 28)
    have hB2 := hB.alloc hB.size (.cells #[.slice none 0 0] 28)
    have hVl := hV.lt
    have hBs := hB.size
    go_upto_region 5 with fail
    generalize hge : wc.heap.size = g at hW2 hVl hBs
    generalize wc.alloc (.cells #[.slice none 0 0] 28) = w2 at hW2 hP2 hV2 hB2
    clear hP hV hB hge
    go_wp2_with fail
    (with_reducible refine (wnum_one g _ (.slice none 0 0) [] N _ (by simp) hW2 (by omega) (by omega) (by simp)).mono ?_)
    rintro e w3 ⟨rfl, v3, hW3, hO3⟩
    rw [List.nil_append] at hW3
    have hP3 := hP2.only hO3.only (hW2.far hP2 (by decide) (by decide))
    have hV3 := hV2.only hO3.only (hW2.far hV2 (by decide) (by decide))
    have hB3 := hO3.below hB2 (by omega) (by simp [Value.ownBlock]) hB2.size
    have hv3 := hO3.base (B := w.heap.size) (by simp [Value.ownBlock]) hB2.size
    clear hP2 hV2 hB2 hW2 hO3
    have hP4 := hP3.alloc (.cells #[.int .i64 (-1)] 3)
    have hV4 := hV3.alloc (.cells #[.int .i64 (-1)] 3)
    have hB4 := hB3.alloc hB3.size (.cells #[.int .i64 (-1)] 3)
    have hW4 := hW3.alloc (.cells #[.int .i64 (-1)] 3)
    have hG4 : Blk (w3.alloc (.cells #[.int .i64 (-1)] 3)) w3.heap.size 3 #[.int .i64 (-1)] := Blk.new _ _ _
    have hgq : g < w3.heap.size := hW3.lt
    go_upto_region 7 with fail
    generalize hqe : w3.heap.size = q at hG4 hgq
    generalize w3.alloc (.cells #[.int .i64 (-1)] 3) = w4 at hP4 hV4 hB4 hW4 hG4
    clear hP3 hV3 hB3 hW3 hqe
    have hel : (enc (N : Int)).length ≤ 9 := enc_len (by omega)
    go_wp2_with fail
    (with_reducible refine (bytes_any g v3 (enc (N : Int)) w4 hW4 (by omega)).mono ?_)
    rintro e w5 ⟨v5, rfl, hown5, hx⟩
    obtain ⟨A5, c5, rfl⟩ := own_slice hown5
    have hP5 := hP4.below hx hP4.lt
    have hV5 := hV4.below hx hV4.lt
    have hG5 := hG4.below hx hG4.lt
    have hB5 := hB4.trans (hx.mono hB4.size)
    obtain ⟨hn5, hc5⟩ := own_caps hown5
    have ha5 := own_at hown5
    have hq4 := hG4.lt
    have hs5 := hx.size
    have hrd := read_any _ #[.pointer (some ⟨w.heap.size, 0, none⟩), .pointer (some ⟨q, 0, none⟩)] enters1 A5 _ c5 (enc (N : Int)) w5 (Reads.of_own hown5) hn5 hc5 (· = q) (SmallQ q N L) (fun ad _ e h => by have := (ha5 ad e).1; omega) (fun i (hi : i = q) => by omega)
      (fun w8 hb8 _ hR8 => call1_any _ w.heap.size q N L (-1) w8 hR8 (by have := hP5.below hb8 hP5.lt; rw [this.cell]; rfl) (hG5.below hb8 hG5.lt) (by omega) (by omega) (by omega))
    clear hP4 hV4 hG4 hB4 hW4 hown5 hx
    go_wp2_with fail
    (with_reducible refine hrd.mono ?_)
    rintro e w6 ⟨x, w7, hQ, hO1, hO2, rfl⟩
    have hP6 := hP5.only hO2 (by show ¬ w.heap.size = q; omega)
    have hV6 := hV5.only hO2 (by show ¬ w.heap.size + 1 = q; omega)
    have hB6 := below_only hB5 hO2 (fun i (e : i = q) => by omega) hB5.size
    have cl : w6.cell? ⟨w.heap.size, 0, none⟩ = some (.int .i64 L) := by rw [hP6.cell]; rfl
    clear hrd hG5 hP5 hV5 hB5 hn5 hc5 ha5 hel
    go_upto_region 8 with fail
    go_cut [41] (fun s41 wx => s41 = .bool false ∧ wx = w6)
    case first =>
      rcases hQ with ⟨hlt, rfl, hc⟩ | ⟨hlt, rfl, _⟩
      · have hcq : w6.cell? ⟨q, 0, none⟩ = some (.int .i64 N) := by
          rw [hO1.cell (World.block_lt_of_cell? w7 _ hc) (by show ¬ q = w5.heap.size; omega), hc]
        rw [show endB (some []) = true from rfl]
        have d : decide ((N : Int) < (L : Int)) = true := decide_eq_true hlt
        go_wp2_with fail
        go_meet
        exact ⟨rfl, rfl⟩
      · rw [show endB none = false from rfl]
        have d : decide ((N : Int) < (L : Int)) = false := decide_eq_false hlt
        go_wp2_with fail
        go_meet
        exact ⟨rfl, rfl⟩
    case rest =>
      obtain ⟨rfl, hcw⟩ := hcut
      have hcw := hcw.symm
      subst hcw
      clear hQ hO1 hO2 hs5 hq4 hgq
      -- the view is made small
      have e0 : bits .and .i64 (zs.getD 0 0) 1023 = zs.getD 0 0 % 1024 := i64_and_mask _ 10 (by omega)
      have e1 : bits .and .i64 (zs.getD 1 0) 31 = zs.getD 1 0 % 32 := i64_and_mask _ 5 (by omega)
      have c0 := hV6.cell (i := 0) (by omega)
      have c1 := hV6.cell (i := 1) (by omega)
      have z0 := hV6.frozen 0
      have z1 := hV6.frozen 1
      have hV7 := (hV6.set 0 (zs.getD 0 0 % 1024)).set 1 (zs.getD 1 0 % 32)
      have oV := (only_cell w6 (w.heap.size + 1) 0 (.int .i64 (zs.getD 0 0 % 1024))).trans_ (only_cell _ (w.heap.size + 1) 1 (.int .i64 (zs.getD 1 0 % 32)))
      have hP7 := hP6.only oV (by show ¬ w.heap.size = w.heap.size + 1; omega)
      have hB7 := below_only hB6 oV (fun i (e : i = w.heap.size + 1) => by omega) hB6.size
      have hys : ∃ ys, (zs.set 0 (zs.getD 0 0 % 1024)).set 1 (zs.getD 1 0 % 32) = ys ∧ ys.length = 7 ∧ (0 ≤ ys.getD 0 0 ∧ ys.getD 0 0 < 1024) ∧ (0 ≤ ys.getD 1 0 ∧ ys.getD 1 0 < 32) := by
        refine ⟨_, rfl, by simp [hl], ?_, ?_⟩
        · rw [getD_set (by simp; omega), if_neg (by omega), getD_set (by omega), if_pos rfl]; omega
        · rw [getD_set (by simp; omega), if_pos rfl]; omega
      obtain ⟨ys, hye, hyl, hy0, hy1⟩ := hys
      rw [hye] at hV7
      clear hye
      generalize zs.getD 0 0 = x0 at *
      generalize zs.getD 1 0 = x1 at *
      generalize x0 % 1024 = u0 at *
      generalize x1 % 32 = u1 at *
      go_upto_region 11 with fail
      generalize (w6.setCell ⟨w.heap.size + 1, 0, none⟩ (.int .i64 u0)).setCell ⟨w.heap.size + 1, 1, none⟩ (.int .i64 u1) = w8 at hV7 hP7 hB7
      clear oV hV6 hP6 hB6 c0 c1 z0 z1 e0 e1 cl
      go_wp2_with fail
      go_loopw [50] (fun i wr => ∃ (k : Nat) (ys : List Int), k ≤ 5 ∧ i = .int .i64 k ∧ IBlk wr (w.heap.size + 1) 24 ys ∧ Hid (ys.length = 7 ∧ (0 ≤ ys.getD 0 0 ∧ ys.getD 0 0 < 1024) ∧ (0 ≤ ys.getD 1 0 ∧ ys.getD 1 0 < 32) ∧ ∀ j, j < k → 0 ≤ ys.getD (2 + j) 0 ∧ ys.getD (2 + j) 0 < 6) ∧ Blk wr w.heap.size 3 #[.int .i64 L] ∧ Below w.heap.size w wr) (fun i _ => 5 - (intOf i).toNat)
      case atStart => exact ⟨0, ys, by omega, rfl, hV7, hide ⟨hyl, hy0, hy1, fun j hj => by omega⟩, hP7, hB7⟩
      case round =>
        clear hV7 hP7 hB7 hyl hy0 hy1
        obtain ⟨k, ys, hk, rfl, hV, HY, hP, hB⟩ := hrel
        by_cases hlt : k < 5
        · have hyl := HY.out.1
          have ck := hV.cell (i := 2 + k) (by omega)
          have zk := hV.frozen (2 + k)
          obtain ⟨m, hm, hm8⟩ : ∃ m : Nat, bits .and .i64 (ys.getD (2 + k) 0) 7 = (m : Int) ∧ m < 8 := ⟨(ys.getD (2 + k) 0 % 8).toNat, by rw [show bits .and .i64 (ys.getD (2 + k) 0) 7 = ys.getD (2 + k) 0 % 8 from i64_and_mask _ 3 (by omega)]; omega, by omega⟩
          have hm6 : (m : Int) % 6 = ((m % 6 : Nat) : Int) := by omega
          have hV2 := hV.set (2 + k) ((m % 6 : Nat) : Int)
          have oV := only_cell wr (w.heap.size + 1) (2 + k) (.int .i64 ((m % 6 : Nat) : Int))
          have hP2 := hP.only oV (by show ¬ w.heap.size = w.heap.size + 1; omega)
          have hB2 := below_only hB oV (fun i (e : i = w.heap.size + 1) => by omega) hB.size
          have HY2 : Hid ((ys.set (2 + k) ((m % 6 : Nat) : Int)).length = 7 ∧ (0 ≤ (ys.set (2 + k) ((m % 6 : Nat) : Int)).getD 0 0 ∧ (ys.set (2 + k) ((m % 6 : Nat) : Int)).getD 0 0 < 1024) ∧ (0 ≤ (ys.set (2 + k) ((m % 6 : Nat) : Int)).getD 1 0 ∧ (ys.set (2 + k) ((m % 6 : Nat) : Int)).getD 1 0 < 32) ∧ ∀ j, j < k + 1 → 0 ≤ (ys.set (2 + k) ((m % 6 : Nat) : Int)).getD (2 + j) 0 ∧ (ys.set (2 + k) ((m % 6 : Nat) : Int)).getD (2 + j) 0 < 6) := hide (by
            obtain ⟨h1, h2, h3, h4⟩ := HY.out
            refine ⟨by simp [h1], ?_, ?_, fun j hj => ?_⟩
            · rw [getD_set (by omega), if_neg (by omega)]; exact h2
            · rw [getD_set (by omega), if_neg (by omega)]; exact h3
            · rw [getD_set (by omega)]
              by_cases e : j = k
              · rw [if_pos (by omega)]; omega
              · rw [if_neg (by omega)]; exact h4 j (by omega))
          clear oV hP hB hyl
          generalize ys.getD (2 + k) 0 = y at ck hm
          generalize ((m % 6 : Nat) : Int) = s at *
          go_wp2_with fail
          go_roundw
          case rel => exact ⟨k + 1, _, by omega, by go_num, hV2, HY2, hP2, hB2⟩
          case measure => simp [intOf]; omega
        · obtain rfl : k = 5 := by omega
          have k0 : bits .and .i64 (N : Int) 1 = ((N % 2 : Nat) : Int) := by rw [show bits .and .i64 (N : Int) 1 = (N : Int) % 2 from i64_and_mask _ 1 (by omega)]; omega
          have k1 : bits .and .i64 ((N : Int) / 2) 3 = ((N / 2 % 4 : Nat) : Int) := by rw [show bits .and .i64 ((N : Int) / 2) 3 = (N : Int) / 2 % 4 from i64_and_mask _ 2 (by omega)]; omega
          have k2 : bits .and .i64 ((N : Int) / 8) 3 = ((N / 8 % 4 : Nat) : Int) := by rw [show bits .and .i64 ((N : Int) / 8) 3 = (N : Int) / 8 % 4 from i64_and_mask _ 2 (by omega)]; omega
          have k3 : bits .and .i64 ((N : Int) / 32) 3 = ((N / 32 % 4 : Nat) : Int) := by rw [show bits .and .i64 ((N : Int) / 32) 3 = (N : Int) / 32 % 4 from i64_and_mask _ 2 (by omega)]; omega
          have b0 : N % 2 < 2 := by omega
          have b1 : N / 2 % 4 < 4 := by omega
          have b2 : N / 8 % 4 < 4 := by omega
          have b3 : N / 32 % 4 < 4 := by omega
          generalize N % 2 = n0 at *
          generalize N / 2 % 4 = n1 at *
          generalize N / 8 % 4 = n2 at *
          generalize N / 32 % 4 = n3 at *
          have cl : wr.drew.cell? ⟨w.heap.size, 0, none⟩ = some (.int .i64 L) := by show wr.cell? _ = _; rw [hP.cell]; rfl
          have hVl := hV.lt
          have hBs := hB.size
          have cl1 : ∀ o1, (wr.alloc o1).cell? ⟨w.heap.size, 0, none⟩ = some (.int .i64 L) := fun o1 => (World.cell?_alloc_lt wr o1 _ (by show w.heap.size < _; omega)).trans cl
          have cl2 : ∀ o1 o2, ((wr.alloc o1).alloc o2).cell? ⟨w.heap.size, 0, none⟩ = some (.int .i64 L) := fun o1 o2 => (World.cell?_alloc_lt (wr.alloc o1) o2 _ (by show w.heap.size < _; simp; omega)).trans (cl1 o1)
          have cl1d : ∀ o1, (wr.alloc o1).drew.cell? ⟨w.heap.size, 0, none⟩ = some (.int .i64 L) := cl1
          have cl2d : ∀ o1 o2, ((wr.alloc o1).alloc o2).drew.cell? ⟨w.heap.size, 0, none⟩ = some (.int .i64 L) := cl2
          go_upto_region 16 with fail
          go_cut [11, 12] (fun s11 s12 wx => ∃ pc pb : Nat, s11 = .pointer (some ⟨pc, 0, none⟩) ∧ s12 = .pointer (some ⟨pb, 0, none⟩) ∧ w.heap.size + 1 < pc ∧ w.heap.size + 1 < pb ∧ pc ≠ pb ∧ IBlk wx pc 38 [(n0 : Int), n1, n2] ∧ IBlk wx pb 40 [(L : Int), n3] ∧ IBlk wx (w.heap.size + 1) 24 ys ∧ Below w.heap.size w wx)
          case first =>
            clear HY hP
            have c1 : ∀ o1 o2 : Obj, IBlk (((wr.alloc o1).alloc o2).drew) (w.heap.size + 1) 24 ys ∧ Below w.heap.size w (((wr.alloc o1).alloc o2).drew) := fun o1 o2 => ⟨((hV.alloc o1).alloc o2).drew, ((hB.alloc hBs o1).alloc (by simp; omega) o2).drew⟩
            have c2 : ∀ (cs : Array Value) (t : TypeId) (o2 : Obj), Blk (((wr.alloc (.cells cs t)).alloc o2).drew) wr.heap.size t cs := fun cs t o2 => ((Blk.new wr t cs).alloc o2).drew
            have c3 : ∀ (cs : Array Value) (t : TypeId) (o1 : Obj), Blk (((wr.alloc o1).alloc (.cells cs t)).drew) (wr.heap.size + 1) t cs := fun cs t o1 => by
              have := Blk.new (wr.alloc o1) t cs
              simp only [World.size_alloc] at this
              exact this.drew
            go_region
            all_goals
              go_wp2_with fail
              go_meet
              first
                | exact ⟨wr.heap.size, wr.heap.size + 1, rfl, rfl, hVl, by omega, by omega, c2 _ _ _, c3 _ _ _, (c1 _ _).1, (c1 _ _).2⟩
                | exact ⟨wr.heap.size + 1, wr.heap.size, rfl, rfl, by omega, hVl, by omega, c3 _ _ _, c2 _ _ _, (c1 _ _).1, (c1 _ _).2⟩
          case rest =>
            clear hV hP hB cl cl1 cl2 cl1d cl2d k0 k1 k2 k3
            obtain ⟨pc, pb, rfl, rfl, hpc, hpb, hpp, hC, hb, hV, hB⟩ := hcut
            obtain ⟨a, b, gs, hye, hg5, ha, hbb, hgs⟩ : ∃ a b gs, ys = a :: b :: gs ∧ gs.length = 5 ∧ (0 ≤ a ∧ a < 1024) ∧ (0 ≤ b ∧ b < 32) ∧ ∀ z ∈ gs, 0 ≤ z ∧ z < 6 := by
              obtain ⟨h1, h2, h3, h4⟩ := HY.out
              match ys, h1 with
              | a :: b :: gs, h1 =>
                refine ⟨a, b, gs, rfl, by simpa using h1, by simpa using h2, by simpa using h3, fun z hz => ?_⟩
                obtain ⟨i, hi, rfl⟩ := List.mem_iff_getElem.1 hz
                have hi5 : i < 5 := by have : gs.length = 5 := by simpa using h1
                                       omega
                have := h4 i hi5
                rw [show 2 + i = i + 1 + 1 by omega] at this
                simpa [List.getD, hi] using this
            have hyl : ys.length = 7 := HY.out.1
            have hyz : ∀ z ∈ ys, 0 ≤ z ∧ z < 9223372036854775808 := by
              intro z hz
              rw [hye] at hz
              rcases List.mem_cons.1 hz with rfl | hz
              · omega
              · rcases List.mem_cons.1 hz with rfl | hz
                · omega
                · have := hgs z hz; omega
            have hwy : wf64 ys := fun z hz => by
              have := hyz z hz
              simp [Lit.wf, IntKind.min, IntKind.max, IntKind.signed, IntKind.bits]; omega
            have hcz : ∀ z ∈ [(n0 : Int), n1, n2], 0 ≤ z ∧ z < 9223372036854775808 := by
              intro z hz; simp at hz; rcases hz with rfl | rfl | rfl <;> omega
            have hbz : ∀ z ∈ [(L : Int), n3], 0 ≤ z ∧ z < 9223372036854775808 := by
              intro z hz; simp at hz; rcases hz with rfl | rfl <;> omega
            have hwc : wf64 [(n0 : Int), n1, n2] := fun z hz => by
              have := hcz z hz
              simp [Lit.wf, IntKind.min, IntKind.max, IntKind.signed, IntKind.bits]; omega
            have hwb : wf64 [(L : Int), n3] := fun z hz => by
              have := hbz z hz
              simp [Lit.wf, IntKind.min, IntKind.max, IntKind.signed, IntKind.bits]; omega
            have ly := encL_len (l := ys) (fun z hz => (hyz z hz).2)
            have lc := encL_len (l := [(n0 : Int), n1, n2]) (fun z hz => (hcz z hz).2)
            have lb := encL_len (l := [(L : Int), n3]) (fun z hz => (hbz z hz).2)
            rw [hyl] at ly
            simp only [List.length_cons, List.length_nil] at lc lb
            have qv : ∀ w, (Op.equalIn 10000 24 (.agg (iA ys)) (.agg (iA ys))).run Try.prog w = .ok true w := fun w => by
              have := Try.eqView hyl hyl hwy hwy w; simpa using this
            have qc : ∀ w, (Op.equalIn 10000 38 (.agg (iA [(n0 : Int), n1, n2])) (.agg (iA [(n0 : Int), n1, n2]))).run Try.prog w = .ok true w := fun w => by
              have := eqChange (xs := [(n0 : Int), n1, n2]) rfl rfl hwc hwc w; simpa using this
            have qb : ∀ w, (Op.equalIn 10000 40 (.agg (iA [(L : Int), n3])) (.agg (iA [(L : Int), n3]))).run Try.prog w = .ok true w := fun w => by
              have := eqBallot (xs := [(L : Int), n3]) rfl rfl hwb hwb w; simpa using this
            have ALL := hide (And.intro hyz (And.intro hcz (And.intro hbz (And.intro hye (And.intro hg5 (And.intro ha (And.intro hbb hgs)))))))
            have QS := hide (And.intro qv (And.intro qc qb))
            clear hyz hcz hbz hye hg5 ha hbb hgs hwy hwc hwb qv qc qb HY
            -- the second Writer
            have hBs := hB.size
            have hCl := hC.lt
            have hbl := hb.lt
            have hVl := hV.lt
            have hW1 : Wr (wc.alloc (.cells #[.slice none 0 0] 28)) wc.heap.size (.slice none 0 0) [] := Wr.new wc
            have hC1 := hC.alloc (.cells #[.slice none 0 0] 28)
            have hb1 := hb.alloc (.cells #[.slice none 0 0] 28)
            have hV1 := hV.alloc (.cells #[.slice none 0 0] 28)
            have hB1 := hB.alloc hBs (.cells #[.slice none 0 0] 28)
            go_upto_region 18 with fail
            generalize hge : wc.heap.size = g2 at hW1 hBs hCl hbl hVl
            generalize wc.alloc (.cells #[.slice none 0 0] 28) = w9 at hW1 hC1 hb1 hV1 hB1
            clear hC hb hV hB hge
            have HV := wview_any g2 (.slice none 0 0) [] a b gs ys ALL.out.2.2.2.1 ALL.out.2.2.2.2.1 w9.drew hW1.drew ALL.out.1 (by simp)
            rw [List.nil_append] at HV
            have HC := fun v w (h : Wr w g2 v (encL ys)) => wchange_any g2 v (encL ys) n0 n1 n2 w h ALL.out.2.1 (by omega)
            have HBl := fun v w (h : Wr w g2 v (encL ys ++ encL [(n0 : Int), n1, n2])) => wballot_any g2 v (encL ys ++ encL [(n0 : Int), n1, n2]) L n3 w h ALL.out.2.2.1 (by simp; omega)
            have hBo : w.heap.size ≤ g2 := hBs
            go_cut [13] (fun s13 wx => s13 = .pointer (some ⟨g2, 0, none⟩) ∧ ∃ v', Wr wx g2 v' (encL ys ++ encL [(n0 : Int), n1, n2] ++ encL [(L : Int), n3]) ∧ IBlk wx pc 38 [(n0 : Int), n1, n2] ∧ IBlk wx pb 40 [(L : Int), n3] ∧ IBlk wx (w.heap.size + 1) 24 ys ∧ Below w.heap.size w wx)
            case first =>
              have rv : ∀ {w'}, IBlk w' (w.heap.size + 1) 24 ys → rowAt w' (w.heap.size + 1) 0 7 = iA ys ∧ HasRow w' (w.heap.size + 1) 0 7 := fun h => h.whole hyl
              have rc : ∀ {w'}, IBlk w' pc 38 [(n0 : Int), n1, n2] → rowAt w' pc 0 3 = #[.int .i64 n0, .int .i64 n1, .int .i64 n2] ∧ HasRow w' pc 0 3 := fun h => h.whole rfl
              have rb : ∀ {w'}, IBlk w' pb 40 [(L : Int), n3] → rowAt w' pb 0 2 = #[.int .i64 L, .int .i64 n3] ∧ HasRow w' pb 0 2 := fun h => h.whole rfl
              obtain ⟨rv1, hv1⟩ := rv hV1.drew
              obtain ⟨rc1, hc1⟩ := rc hC1.drew
              obtain ⟨rb1, hb1'⟩ := rb hb1.drew
              have hB1d := hB1.drew
              go_region_with (first
                | (go_at_call 16; (with_reducible refine HV.mono ?_); rintro e wA ⟨rfl, vA, hWA, hOA⟩; have hCA := hC1.drew.only hOA.only (hW1.drew.far hC1.drew (by decide) (by decide)); have hbA := hb1.drew.only hOA.only (hW1.drew.far hb1.drew (by decide) (by decide)); have hVA := hV1.drew.only hOA.only (hW1.drew.far hV1.drew (by decide) (by decide)); obtain ⟨rcA, hcA⟩ := rc hCA; obtain ⟨rbA, hbA'⟩ := rb hbA; have hBA := hOA.below hB1d hBo (by simp [Value.ownBlock]) hB1d.size; have hvA := hOA.base (B := w.heap.size) (by simp [Value.ownBlock]) hB1d.size)
                | (go_at_call 17; (with_reducible refine (HC _ _ hWA).mono ?_); rintro e wB ⟨rfl, vB, hWB, hOB⟩; have hCB := hCA.only hOB.only (hWA.far hCA (by decide) (by decide)); have hbB := hbA.only hOB.only (hWA.far hbA (by decide) (by decide)); have hVB := hVA.only hOB.only (hWA.far hVA (by decide) (by decide)); obtain ⟨rbB, hbB'⟩ := rb hbB; have hBB := hOB.below hBA hBo hvA hBA.size; have hvB := hOB.base (B := w.heap.size) hvA hBA.size)
                | (go_at_call 18; (with_reducible refine (HBl _ _ hWB).mono ?_); rintro e wC ⟨rfl, vC, hWC, hOC⟩; have hCC := hCB.only hOC.only (hWB.far hCB (by decide) (by decide)); have hbC := hbB.only hOC.only (hWB.far hbB (by decide) (by decide)); have hVC := hVB.only hOC.only (hWB.far hVB (by decide) (by decide)); have hBC := hOC.below hBB hBo hvB hBB.size))
              all_goals
                go_wp2_with fail
                go_meet
                exact ⟨rfl, vC, hWC, hCC, hbC, hVC, hBC⟩
            case rest =>
              clear HV HC HBl hW1 hC1 hb1 hV1 hB1
              obtain ⟨rfl, vC, hW, hC, hb, hV, hB⟩ := hcut
              generalize hbs : encL ys ++ encL [(n0 : Int), n1, n2] ++ encL [(L : Int), n3] = bs at hW
              have hbl : bs.length ≤ 200 := by rw [← hbs]; simp; omega
              have HBS := hide hbs
              clear hbs ly lc lb
              have hBs2 := hB.size
              have hg2 := hW.lt
              have hCl2 := hC.lt
              have hbl2 := hb.lt
              have hA1 : IBlk (((wc.alloc (.cells (iA (zeros 7)) 24)).alloc (.cells (iA (zeros 3)) 38)).alloc (.cells (iA (zeros 2)) 40)) wc.heap.size 24 (zeros 7) := ((IBlk.new _ _ _).alloc _).alloc _
              have hD1 : IBlk (((wc.alloc (.cells (iA (zeros 7)) 24)).alloc (.cells (iA (zeros 3)) 38)).alloc (.cells (iA (zeros 2)) 40)) (wc.heap.size + 1) 38 (zeros 3) := by
                have := (IBlk.new (wc.alloc (.cells (iA (zeros 7)) 24)) 38 (zeros 3)).alloc (.cells (iA (zeros 2)) 40)
                simpa using this
              have hE1 : IBlk (((wc.alloc (.cells (iA (zeros 7)) 24)).alloc (.cells (iA (zeros 3)) 38)).alloc (.cells (iA (zeros 2)) 40)) (wc.heap.size + 1 + 1) 40 (zeros 2) := by
                have := IBlk.new ((wc.alloc (.cells (iA (zeros 7)) 24)).alloc (.cells (iA (zeros 3)) 38)) 40 (zeros 2)
                simpa using this
              have hW1 := ((hW.alloc (.cells (iA (zeros 7)) 24)).alloc (.cells (iA (zeros 3)) 38)).alloc (.cells (iA (zeros 2)) 40)
              have hC1 := ((hC.alloc (.cells (iA (zeros 7)) 24)).alloc (.cells (iA (zeros 3)) 38)).alloc (.cells (iA (zeros 2)) 40)
              have hb1 := ((hb.alloc (.cells (iA (zeros 7)) 24)).alloc (.cells (iA (zeros 3)) 38)).alloc (.cells (iA (zeros 2)) 40)
              have hV1 := ((hV.alloc (.cells (iA (zeros 7)) 24)).alloc (.cells (iA (zeros 3)) 38)).alloc (.cells (iA (zeros 2)) 40)
              have hB1 := ((hB.alloc hBs2 (.cells (iA (zeros 7)) 24)).alloc (by simp; omega) (.cells (iA (zeros 3)) 38)).alloc (by simp; omega) (.cells (iA (zeros 2)) 40)
              have hal3 : ∀ w, (Instr.alloc 38 true (.tuple #[])).run Try.prog w = .ok (.pointer (some ⟨w.heap.size, 0, none⟩)) (w.alloc (.cells (iA (zeros 3)) 38)) := fun w => by kernel_rfl
              have hal2 : ∀ w, (Instr.alloc 40 true (.tuple #[])).run Try.prog w = .ok (.pointer (some ⟨w.heap.size, 0, none⟩)) (w.alloc (.cells (iA (zeros 2)) 40)) := fun w => by kernel_rfl
              go_upto_region 22 with (first
                | refine wpList_alloc_i rfl 24 rfl (iA (zeros 7)) Try.allocView ?_
                | refine wpList_alloc_i rfl 38 rfl (iA (zeros 3)) hal3 ?_
                | refine wpList_alloc_i rfl 40 rfl (iA (zeros 2)) hal2 ?_)
              generalize ((wc.alloc (.cells (iA (zeros 7)) 24)).alloc (.cells (iA (zeros 3)) 38)).alloc (.cells (iA (zeros 2)) 40) = w10 at hA1 hD1 hE1 hW1 hC1 hb1 hV1 hB1
              clear hW hC hb hV hB hal3 hal2
              go_wp2_with fail
              (with_reducible refine (bytes_any g2 vC bs w10 hW1 (by omega)).mono ?_)
              rintro e w11 ⟨v11, rfl, hown, hx⟩
              obtain ⟨A6, c6, rfl⟩ := own_slice hown
              have hA2 := hA1.below hx hA1.lt
              have hD2 := hD1.below hx hD1.lt
              have hE2 := hE1.below hx hE1.lt
              have hC2 := hC1.below hx hC1.lt
              have hb2 := hb1.below hx hb1.lt
              have hV2 := hV1.below hx hV1.lt
              have hB2 := hB1.trans (hx.mono hB1.size)
              obtain ⟨hn6, hc6⟩ := own_caps hown
              have ha6 := own_at hown
              have hEl := hE1.lt
              have hs11 := hx.size
              obtain ⟨hyz, hcz, hbz, hye, hg5, ha, hbb, hgs⟩ := ALL.out
              have hbse : bs = enc a ++ (enc b ++ (encL gs ++ (enc (n0 : Int) ++ (enc (n1 : Int) ++ (enc (n2 : Int) ++ (enc (L : Int) ++ enc (n3 : Int))))))) := by
                rw [← HBS.out, hye]
                simp only [encL_cons, encL_nil, List.append_nil, List.append_assoc]
              have hrd := read_any _ #[.pointer (some ⟨wc.heap.size, 0, none⟩), .pointer (some ⟨wc.heap.size + 1, 0, none⟩), .pointer (some ⟨wc.heap.size + 1 + 1, 0, none⟩)] enters2 A6 _ c6 bs w11 (Reads.of_own hown) hn6 hc6 (T3 wc.heap.size (wc.heap.size + 1) (wc.heap.size + 1 + 1)) (ThreeQ wc.heap.size (wc.heap.size + 1) (wc.heap.size + 1 + 1) (a :: b :: gs) [(n0 : Int), n1, n2] [(L : Int), n3]) (fun ad _ e h => by have := (ha6 ad e).1; rcases h with h | h | h <;> omega) (fun i hi => by rcases hi with h | h | h <;> omega)
                (fun w8 hb8 _ hR8 => call2_any _ wc.heap.size (wc.heap.size + 1) (wc.heap.size + 1 + 1) a b gs n0 n1 n2 L n3 bs hbse w8 hR8 hg5 (by omega) hbb hgs (by omega) (by omega) (by omega) (by omega) (by omega) (hA2.below hb8 hA2.lt) (hD2.below hb8 hD2.lt) (hE2.below hb8 hE2.lt) (by omega) (by omega) (by omega))
              rw [← hye] at hrd
              clear hbse hyz hcz hbz hye hg5 ha hbb hgs hown hx hA1 hD1 hE1 hC1 hb1 hV1 hB1 hW1
              go_wp2_with fail
              (with_reducible refine hrd.mono ?_)
              rintro e w12 ⟨x, w13, ⟨rfl, hA3, hD3, hE3⟩, hO1, hO2, rfl⟩
              rw [show endB (some []) = true from rfl]
              have hA4 := hA3.only hO1 (by omega)
              have hD4 := hD3.only hO1 (by omega)
              have hE4 := hE3.only hO1 (by omega)
              have hC4 := hC2.only hO2 (by rintro (h | h | h) <;> omega)
              have hb4 := hb2.only hO2 (by rintro (h | h | h) <;> omega)
              have hV4 := hV2.only hO2 (by rintro (h | h | h) <;> omega)
              have hB4 := below_only hB2 hO2 (fun i hi => by rcases hi with h | h | h <;> omega) hB2.size
              obtain ⟨qv, qc, qb⟩ := QS.out
              obtain ⟨r1, h1⟩ := hA4.whole hyl
              obtain ⟨r2, h2⟩ := hD4.whole (n := 3) rfl
              obtain ⟨r3, h3⟩ := hE4.whole (n := 2) rfl
              obtain ⟨r4, h4⟩ := hC4.whole (n := 3) rfl
              obtain ⟨r5, h5⟩ := hb4.whole (n := 2) rfl
              obtain ⟨r6, h6⟩ := hV4.whole hyl
              clear hrd hA2 hD2 hE2 hC2 hb2 hV2 hB2 hO1 hO2 hA3 hD3 hE3 hA4 hD4 hE4 hC4 hb4 hV4 QS ALL
              generalize iA ys = Y at *
              generalize iA [(n0 : Int), n1, n2] = C3 at *
              generalize iA [(L : Int), n3] = B2 at *
              go_wp2_with fail
              go_ret
              exact ⟨rfl, hB4⟩
end Go.Proofs.Ythacenajocchcaa.codecSmall
