/- The walk of BoxKeeps. -/
import Derived.Test.YtejdmeheafgmbaaBoxL
import Derived.Test.YtejdmeheafgmbaaBytS
namespace Go.Proofs.Ytejdmeheafgmbaa.boxKeeps
open Go.RowKit Go.Conc

/-- The cells of bytes of one's own: in one block, with what is spare behind them. -/
theorem own_cells {w : World} {base : Nat} {t : Sl} (h : OwnS w base t) (hn : 0 < t.n) : ∃ g rest, t.A = some ⟨g, 0, none⟩ ∧ base ≤ g ∧ VBlk w g 5 (u8V t.zs ++ rest) := by
  rcases h.2 with ⟨_, h0⟩ | ⟨g, cap, cur, e, hb, hh, _, _, _, ht⟩
  · omega
  · injection e with e
    refine ⟨g, cur.toList.drop (t.n * 1), e, hb, ?_⟩
    rw [← ht, List.take_append_drop]
    exact hh
set_option maxRecDepth 100000 in
set_option maxHeartbeats 8000000 in
theorem walk (w : World) (A : Option Addr) (n c : Nat) (zs : List Int) (hr : Reads w w.heap.size 1 A n (zs.map (Value.int .u8))) (hnc : n ≤ c) (hcm : c ≤ maxLen) (_ : c * 1 ≤ 140737488351232) (hz : ∀ z ∈ zs, (Lit.int .u8 z).wf = true)
    (x : Int) (_ : 0 ≤ x) (_ : x ≤ 255) :
    Calls Try.prog 4 #[.slice A n c, .int .u8 x] w fun e w' => e = .returned (.bool true) ∧ Below w.heap.size w w' := by
  have hn63 : n ≤ 9223372036854775807 := Nat.le_trans hnc hcm
  have hzl : zs.length = n := by have := hr.1; simpa using this
  go_enter Try.func4, Try.ntmps4
  go_wp2_with fail
  (with_reducible refine (fit_runs w).mono ?_)
  rintro x w1 ⟨rfl, B1⟩
  by_cases h0 : n = 0
  · subst h0
    go_wp2_with fail
    go_ret
    exact ⟨rfl, B1⟩
  · have d0 : ((n : Int) == 0) = false := by simp; omega
    by_cases h200 : 200 < n
    · have d200 : (200 : Int) < (n : Int) := by omega
      go_wp2_with fail
      go_ret
      exact ⟨rfl, B1⟩
    · have d200 : ¬ (200 : Int) < (n : Int) := by omega
      have r1 := reads_string (hr.below B1) c
      obtain ⟨c2, w2, hc2, N2⟩ := conv_bytes w1 zs hz (by omega)
      rw [hzl] at hc2 N2
      have hsz : (strOfNums zs).size = n := by rw [strOfNums_size, hzl]
      generalize hy : strOfNums zs = y at *
      have sl2 := N2.sl
      have sz2 := N2.size
      have fr2 := N2.free 0 (by omega)
      have B2 := B1.trans (N2.below.mono B1.size)
      have hg0 := B1.size
      clear N2 hr
      generalize w1.heap.size = g at *
      go_upto_region 7 with fail
      clear r1 hc2 B1
      go_wp2_with fail
      (with_reducible refine (New_runs w2 (· ≠ g) 2).mono ?_)
      rintro x' w3 ⟨p, c', rfl, hp, hc, b3, B3⟩
      have hN : capOf 2 = 2 := rfl
      rw [hN] at b3
      have hP := hide (Put_runs w3 (· ≠ g) p c' 2 _ [] _ b3 (sl2.keep B3) B3.size (by show n ≤ 90000; omega) (fun b h => by have := B3.size; omega))
      have sl3 := sl2.keep B3
      have s3 := B3.size
      have fr3 : w3.frozen? ⟨g, 0, none⟩ = false := (World.frozen?_of_block (B3.block g (by omega))).trans fr2
      have B3' : Below w.heap.size w w3 := B2.trans (B3.mono (by omega))
      go_wp2_with fail
      (with_reducible refine hP.out.mono ?_)
      clear hP
      rintro x' w4 hx
      unfold PutIs at hx
      rw [if_pos (by decide)] at hx
      obtain ⟨rfl, ⟨t1, e1, o1, b4⟩, k4⟩ := hx
      have hgc : g ≠ c' := by omega
      have fr4 : w4.frozen? ⟨g, 0, none⟩ = false := (k4.frozen (by show g < _; omega) hgc).trans fr3
      have sl4 : Reads w4 w2.heap.size 1 (some ⟨g, 0, none⟩) n (u8V zs) := sl3.reads.chan b3.chan s3 k4
      obtain ⟨bb, off, ev, _, hcell⟩ := Reads.ints (zs := zs) sl4 (by omega)
      injection ev with ev
      injection ev with ev1 ev2
      subst ev1 ev2
      have c0 := hcell 0 (by omega)
      clear hcell
      generalize zs.getD 0 0 = z0 at *
      have k5 := only_cell w4 g 0 (.int .u8 (bits .xor .u8 z0 x))
      have hs4 := k4.size
      have b5 := b4.only k5 (by show ¬ p = g; omega) (fun e => hgc e.symm) (fun b _ h => h)
      have o5 : OwnS _ w3.heap.size t1 := own_only o1 k5 (fun k e => by have := own_base o1 k e; omega)
      have B5 : Below w.heap.size w _ := (below_all B3' (by omega) k4).trans (below_only (Below.refl w.heap.size w4) k5 (fun i e => by omega) (by have := B3'.size; omega))
      have i1 := (b4.each t1 (by simp)).in_
      have n1 : t1.n = n := by have := i1.len; rw [e1, hzl] at this; exact this.symm
      have wf1 := i1.wf
      rw [List.nil_append] at b5
      have hs5 := k5.size
      have hT := hide (Twice_some _ _ p c' 2 t1 [] b5 (by decide) (by omega) (fun b h => by omega))
      have ch5 := b5.chan
      clear fr2 fr3 sl2 sl3 sl4 b3 b4 k4 i1 B3' B3 k5 o1 b5 hs5
      go_wp2_with fail
      (with_reducible refine hT.out.mono ?_)
      clear hT
      generalize w4.setCell ⟨g, 0, none⟩ (.int .u8 (bits .xor .u8 z0 x)) = w5 at *
      rintro x' w6 hx
      unfold TwiceIs at hx
      rw [if_pos (show [t1].length < 2 from (by decide : 1 < 2))] at hx
      obtain ⟨rfl, ⟨t2, e2, o2, b6⟩, k6⟩ := hx
      have o6 := o5.chan ch5 k6
      have B6 := below_all B5 (by omega) k6
      have hT := hide (Take_some w6 _ p c' 2 t1 [t2] b6)
      have ch6 := b6.chan
      have lt5 : ∀ g, (slV t1).ownBlock = some g → g < w5.heap.size := own_lt o5
      clear b6 o5 ch5 B5 k6
      go_wp2_with fail
      (with_reducible refine hT.out.mono ?_)
      clear hT
      rintro x' w7 ⟨rfl, b7, k7, s1⟩
      have o7 := o6.chan ch6 k7
      have p7 := o2.chan ch6 k7
      have B7 := below_all B6 (by omega) k7
      have b7 : BoxAt w7 (fun b => w5.heap.size ≤ b) p c' 2 [t2] := ⟨b7.ptr, b7.chan, b7.le, fun t ht => by
        obtain rfl := List.mem_singleton.1 ht
        exact p7.ok (by rw [e2]; exact wf1)⟩
      have r7 := reads_string s1.in_.reads t1.c
      rw [e1, hy, n1] at r7
      have hpn := own_blk_ne o7 b7.ptr.blk (by decide)
      have hcn := own_noChan o7 b7.chan
      obtain ⟨g1, rest, eA, hg1, v1⟩ := own_cells o7 (by omega)
      have hob : (slV t1).ownBlock = some g1 := by simp [slV, eA, Value.ownBlock]
      have hpg : p ≠ g1 := fun e => hpn (by rw [e]; exact hob)
      have hcg : g1 ≠ c' := hcn g1 hob
      have hlt5 : g1 < w5.heap.size := lt5 g1 hob
      rw [e1] at v1
      obtain ⟨A1, n1', c1, zs1⟩ := t1
      simp only at eA n1 e1 e2
      subst eA n1
      clear o6 o7 p7 ch6 k7 o2 s1 B6 lt5 hob
      rename Nat => cc1
      go_wp2_with fail
      go_loopw [48] (fun s48 w8 => ∃ i : Nat, i ≤ n1' ∧ s48 = .int .i64 i ∧ Only (· = g1) w7 w8 ∧ ∃ us : List Int, us.length = n1' ∧ VBlk w8 g1 5 (u8V us ++ rest)) (fun s48 _ => n1' - (intOf s48).toNat)
      case atStart => exact ⟨0, Nat.zero_le _, rfl, Only.refl _ _, zs, hzl, v1⟩
      case round =>
        obtain ⟨i, hi, rfl, k8, us, hu, v8⟩ := hrel
        by_cases hlt : i < n1'
        · have dl : (i : Int) < (n1' : Int) := by omega
          have hiu : i < us.length := by omega
          have q1 : (u8V us ++ rest)[i]? = some (.int .u8 us[i]) := by
            rw [List.getElem?_append_left (by rw [u8V_length]; exact hiu)]
            simp [u8V, hiu]
          have q2 := v8.cellAt q1
          have q3 := v8.frozen i
          generalize us[i] = z1 at *
          have v9 := v8.set i (.int .u8 ((z1 + 1) % 256))
          have e9 : (u8V us ++ rest).set i (.int .u8 ((z1 + 1) % 256)) = u8V (us.set i ((z1 + 1) % 256)) ++ rest := by
            rw [List.set_append_left _ _ (by rw [u8V_length]; exact hiu)]
            simp [u8V, List.map_set]
          rw [e9] at v9
          have k9 := k8.trans_ (only_cell wr g1 i (.int .u8 ((z1 + 1) % 256)))
          have hV := hide v9
          have hU : Hid ((us.set i ((z1 + 1) % 256)).length = n1') := hide (by rw [List.length_set, hu])
          clear v9 e9 q1 v8 hu hiu
          go_wp2_with fail
          go_roundw
          case rel => go_light; exact ⟨i + 1, by omega, by go_num, k9, _, hU.out, hV.out⟩
          case measure => go_light; simp [intOf]; omega
        · obtain rfl : n1' = i := by omega
          have b8 := b7.only k8 hpg (fun e => hcg e.symm) (fun b _ h e => by omega)
          have B8 := below_only B7 k8 (fun i e => by omega) B7.size
          have hT := hide (Take_some _ _ p c' 2 t2 [] b8)
          have n2 : t2.n = n1' := by have := (b8.each t2 (by simp)).in_.len; rw [e2, e1, hzl] at this; exact this.symm
          have dn : ((n1' : Int) == (n1' : Int)) = true := by simp
          clear b7 k8 b8 v8
          go_wp2_with fail
          (with_reducible refine hT.out.mono ?_)
          clear hT
          rintro x' w9 ⟨rfl, _, k9, _⟩
          have B9 := below_all B8 (by omega) k9
          go_wp2_with fail
          go_ret
          exact ⟨rfl, B9⟩
end Go.Proofs.Ytejdmeheafgmbaa.boxKeeps
