/- The walk of BookSums: it returns true at all arguments and leaves what was there as it was. -/
import Derived.Test.YtlegcjniakocoaaBookS
import Derived.Test.YtlegcjniakocoaaBitsI
import Derived.Deep.CutBlock
namespace Go.Proofs.Ytlegcjniakocoaa.bookSums
open Go.RowKit

attribute [local go_sem ↓] loadRowF_fold storeRowF_fold allocRowF_fold loadRowsF_fold storeRowsF_fold allocRowsF_fold makeRowsF_fold buildInts5F_fold buildLeftsF_fold storeInts5F_fold storeLeftsF_fold
attribute [local go_sem] loadRowF_has storeRowF_has allocRowF_run loadRowsF_has storeRowsF_has allocRowsF_run makeRowsF_run buildInts5F_none buildLeftsF_none storeInts5F_has storeLeftsF_has
set_option maxRecDepth 100000 in
set_option maxHeartbeats 6400000 in
theorem walk (w : World) (A : Option Addr) (n c : Nat) (zs : List Int) (hR : RowsIn w w.heap.size A n zs) (key : Int) (_ : -9223372036854775808 ≤ key) (_ : key ≤ 9223372036854775807) :
    Calls Try.prog 5 #[.slice A n c, .int .i64 key] w fun e w' => e = .returned (.bool true) ∧ Below w.heap.size w w' := by
  obtain ⟨k, hk, hk4⟩ : ∃ k : Nat, bits .and .i64 key 3 = (k : Int) ∧ k < 4 := ⟨(key % 4).toNat, by rw [show bits .and .i64 key 3 = key % 4 from i64_and_mask key 2 (by omega)]; omega, by omega⟩
  go_enter Try.func5, Try.ntmps5
  go_wp2_with fail
  (with_reducible refine (fit5_any w).mono ?_)
  rintro e w1 ⟨rfl, hB1⟩
  by_cases g1 : 20 < n
  · have d1 : decide ((20 : Int) < (n : Int)) = true := decide_eq_true (by omega)
    go_wp2_with fail
    go_ret
    exact ⟨rfl, hB1⟩
  have d1 : decide ((20 : Int) < (n : Int)) = false := decide_eq_false (by omega)
  have hfew : Few n := by show n ≤ 1000; omega
  have hG2 : IBlk (w1.alloc (.cells (iA (zeros (n * 174))) 31)) w1.heap.size 31 (zeros (n * 174)) := IBlk.new _ _ _
  have hB2 : Below w.heap.size w (w1.alloc (.cells (iA (zeros (n * 174))) 31)) := hB1.alloc hB1.size _
  have hsg := hB1.size
  have HL := hide hR.len
  have HW := hide hR.wf
  have HUL := hide (fun (j : Nat) (hj : j ≤ n) => strU_length hR.len hj)
  have HU : Hid (∀ j, strU zs (j + 1) = strU zs j ++ sR (rowB zs j)) := hide fun _ => rfl
  go_upto_region 7 with fail
  clear hk
  generalize w1.alloc (.cells (iA (zeros (n * 174))) 31) = w2 at hG2 hB2
  generalize w1.heap.size = g at hG2 hsg
  clear hfew
  go_wp2_with fail
  clear d1
  go_loopw [24] (fun s24 wr => ∃ j : Nat, j ≤ n ∧ s24 = .int .i64 j ∧ IBlk wr g 31 (strU zs j ++ zeros ((n - j) * 174)) ∧ Below w.heap.size w wr) (fun s24 _ => n - (intOf s24).toNat)
  case atStart => exact ⟨0, by omega, rfl, hG2, hB2⟩
  case round =>
    clear hG2 hB2
    obtain ⟨j, hj, rfl, hG, hB⟩ := hrel
    by_cases hlt : j < n
    · have hRr := hR.below hB (Nat.le_refl _)
      obtain ⟨ab, off, rfl, habl, _⟩ := hR.at_ (by omega)
      obtain ⟨r0, h0⟩ := hRr.got rfl hlt
      have hrl := rowB_len HL.out hlt
      have hst := HU.out j
      have hul := HUL.out j hj
      have hsl := sR_length hrl
      have hput := sR_put hrl
      generalize rowB zs j = rr at *
      generalize strU zs j = U at *
      have HS := hide hst
      have dl : (j : Int) < (n : Int) := by omega
      have hgl := hG.lt
      have hpw := hB.size
      obtain ⟨rm, hX, hO, hB2⟩ := lay (t := 31) hB hrl hB.size
      have hG2 := hG.only hO (fun h => h)
      have hri : Is 174 rr := hrl
      clear hst hG hB hRr habl
      go_upto_region 10 with fail
      generalize hpe : wr.heap.size = p at hX hO hB2 hG2 hgl hpw
      generalize (wr.alloc (.cells (iA (zeros 174)) 31)).setCells p 0 (iV rr) = w3 at hX hO hB2 hG2
      clear rm hpe hO r0 h0
      have iz5 := is_zeros 5
      have iz140 := is_zeros 140
      have hrm1 := hX.room 29 5 (by omega)
      have hO4 := only_cells w3 p 29 (iV (zeros 5))
      have hX4 := hX.setN (o := 29) (xs := zeros 5) (by rw [zeros_length]; omega)
      have hG4 := hG2.only hO4 (by omega)
      have hB4 := below_only hB2 hO4 (fun i (e : i = p) => by omega) hB2.size
      have hrm2 := hX4.room 34 140 (by rw [put_length (by rw [zeros_length]; omega)]; omega)
      have hO5 := only_cells (w3.setCells p 29 (iV (zeros 5))) p 34 (iV (zeros 140))
      have hX5 := hX4.setN (o := 34) (xs := zeros 140) (by rw [put_length (by rw [zeros_length]; omega), zeros_length]; omega)
      rw [hput] at hX5
      have hG5 := hG4.only hO5 (by omega)
      have hB5 := below_only hB4 hO5 (fun i (e : i = p) => by omega) hB4.size
      go_upto_region 11 with fail
      generalize (w3.setCells p 29 (iV (zeros 5))).setCells p 34 (iV (zeros 140)) = w5 at hX5 hG5 hB5
      clear hX hO4 hX4 hG4 hB4 hO5 hrm1 hrm2 hG2 hB2 hput
      obtain ⟨r1, h1⟩ := hX5.whole hsl
      have hsi : Is 174 (sR rr) := hsl
      have hmul : (n - j) * 174 = 174 + (n - (j + 1)) * 174 := by rw [show n - j = (n - (j + 1)) + 1 by omega, Nat.add_mul]; omega
      rw [hmul] at hG5
      have hrm := hG5.room (j * 174) 174 (by rw [List.length_append, zeros_length, hul]; omega)
      have hO6 := only_cells w5 g (j * 174) (iV (sR rr))
      have hG6 := hG5.setN (o := j * 174) (xs := sR rr) (by rw [List.length_append, zeros_length, hul, hsl]; omega)
      rw [fill_nextN hul hsl, ← HS.out] at hG6
      have hB6 := below_only hB5 hO6 (fun i (e : i = g) => by omega) hB5.size
      go_wp2_with fail
      go_roundw
      case rel => go_light; exact ⟨j + 1, by omega, by go_num, hG6, hB6⟩
      case measure => go_light; simp [intOf]; omega
    · obtain rfl : j = n := by omega
      have dl : ¬ ((j : Int) < (j : Int)) := by omega
      have hGL : (strU zs j).length = j * 174 := HUL.out j (Nat.le_refl _)
      rw [Nat.sub_self, Nat.zero_mul, show strU zs j ++ zeros 0 = strU zs j from List.append_nil _] at hG
      have hRL := rowsIn_blk hG hGL (strU_wf HW.out j)
      have HF := filled_any (c := j) hRL (by omega)
      have hok := fillM_ok hGL (strU_wf HW.out j) (Nat.le_refl j)
      have hno := noHeir_fill HL.out HW.out (Nat.le_refl j)
      generalize fillM (strU zs j) j = ms at *
      have hml := hok.len
      have hmi : Is 870 ms := hml
      clear hRL HUL HU HL HW hR
      go_wp2_with fail
      (with_reducible refine HF.mono ?_)
      rintro e w2 ⟨rfl, hb2, hx⟩
      have hB2 := hB.trans (hx.mono hB.size)
      obtain ⟨rm, hX, hO, hB3⟩ := lay (t := 32) hB2 hml hB2.size
      have hb3 := hb2.only hO (fun h => h)
      generalize hpb : wr.heap.size + 1 = pb at hb2 hb3
      go_upto_region 14 with fail
      generalize (w2.alloc (.cells (iA (zeros 870)) 32)).setCells w2.heap.size 0 (iV ms) = w3 at hX hO hB3 hb3
      clear rm hX hO hb2 hx hB2 HF hG hB
      have HR := hide (fun (i : Nat) (hi : i < 5) {w : World} (hb : IBlk w pb 34 ms) => (rightsV_no hno hi (k : Int)) ▸ rights_any hok hb (i : Int) (k : Int))
      have HV := fun {w : World} (hb : IBlk w pb 34 ms) => value_any hok hb (k : Int)
      have hcs := cellsB_ok hok (k : Int)
      have HVV : Hid (valueV ms (k : Int) = valU (cellsB ms (k : Int)) 5) := hide rfl
      generalize cellsB ms (k : Int) = cs at *
      have HSB := hide (fun (i : Nat) (hi : i ≤ 5) => sumR_bd hcs hi)
      have HRB := hide (fun (i : Nat) (hi : i < 5) => rgtU_bd hcs hi (Nat.le_refl 5))
      have HS : Hid (∀ i, sumR cs (i + 1) = sumR cs i + rgtU cs i 5) := hide fun _ => rfl
      clear hcs hok hno hml
      go_wp2_with fail
      go_loopw [10, 43] (fun s10 s43 wr => ∃ i : Nat, i ≤ 5 ∧ s43 = .int .i64 i ∧ s10 = .int .i64 (sumR cs i) ∧ IBlk wr pb 34 ms ∧ Below w.heap.size w wr) (fun _ s43 _ => 5 - (intOf s43).toNat)
      case atStart => exact ⟨0, by omega, rfl, rfl, hb3, hB3⟩
      case round =>
        clear hb3 hB3
        obtain ⟨i, hi, rfl, rfl, hb, hB⟩ := hrel
        by_cases hlt2 : i < 5
        · have HRi := HR.out i hlt2 hb
          have hs := HS.out i
          have b1 := HSB.out i hi
          have b2 := HRB.out i hlt2
          generalize sumR cs i = s1 at *
          generalize rgtU cs i 5 = x at *
          have b3 : s1 + x ≤ 109951162777600 := by push_cast at b2; omega
          have b4 : -109951162777600 ≤ s1 + x := by push_cast at b2; omega
          have HS2 := hide hs
          clear b1 b2 hs
          go_wp2_with fail
          (with_reducible refine HRi.mono ?_)
          rintro e w4 ⟨rfl, hx⟩
          have hb4 := hb.below hx hb.lt
          have hB4 := hB.trans (hx.mono hB.size)
          go_wp2_with fail
          go_roundw
          case rel => go_light; exact ⟨i + 1, by omega, by go_num, by rw [HS2.out], hb4, hB4⟩
          case measure => go_light; simp [intOf]; omega
        · obtain rfl : i = 5 := by omega
          have HV2 := HV hb
          rw [HVV.out, ← sumR_all] at HV2
          generalize sumR cs 5 = s5 at *
          go_wp2_with fail
          (with_reducible refine HV2.mono ?_)
          rintro e w4 ⟨rfl, hx⟩
          go_wp2_with fail
          go_ret
          exact ⟨rfl, hB.trans (hx.mono hB.size)⟩
end Go.Proofs.Ytlegcjniakocoaa.bookSums
