/- The walk of BookLatest: it returns true at all arguments and leaves what was there as it was. -/
import Derived.Test.YtlegcjniakocoaaBookZ
import Derived.Test.YtlegcjniakocoaaBitsI
import Derived.Deep.CutBlock
import Derived.Carry
namespace Go.Proofs.Ytlegcjniakocoaa.bookLatest
open Go.RowKit

def vers (zs : List Int) (j : Nat) : List Int := (List.range j).map (verB zs)
theorem vers_mem {zs : List Int} {j : Nat} {v : Int} : v ∈ vers zs j ↔ ∃ i, i < j ∧ verB zs i = v := by
  unfold vers
  rw [List.mem_map]
  exact ⟨fun ⟨i, hi, e⟩ => ⟨i, by simpa using hi, e⟩, fun ⟨i, hi, e⟩ => ⟨i, by simpa using hi, e⟩⟩
theorem vers_succ (zs : List Int) (j : Nat) : vers zs (j + 1) = vers zs j ++ [verB zs j] := by
  unfold vers
  rw [List.range_succ, List.map_append]; rfl
def Apart (zs : List Int) (j : Nat) : Prop := ∀ a b, a < j → b < j → verB zs a = verB zs b → a = b
theorem apart_succ {zs : List Int} {j : Nat} (h : Apart zs j) (hn : ¬ verB zs j ∈ vers zs j) : Apart zs (j + 1) := by
  intro a b ha hb e
  by_cases ea : a = j
  · by_cases eb : b = j
    · omega
    · subst ea
      exact (hn (vers_mem.2 ⟨b, by omega, e.symm⟩)).elim
  · by_cases eb : b = j
    · subst eb
      exact (hn (vers_mem.2 ⟨a, by omega, e⟩)).elim
    · exact h a b (by omega) (by omega) e
/-- All turned places are all places. -/
theorem turn_all {n T : Nat} (hT : T < n) (j : Nat) : (∃ i, i < n ∧ (i + T) % n = j) ↔ j < n := by
  constructor
  · rintro ⟨i, _, rfl⟩
    exact Nat.mod_lt _ (by omega)
  · intro hj
    by_cases h : T ≤ j
    · exact ⟨j - T, by omega, by rw [show j - T + T = j by omega, Nat.mod_eq_of_lt hj]⟩
    · exact ⟨j + n - T, by omega, by rw [show j + n - T + T = j + n by omega, Nat.add_mod_right, Nat.mod_eq_of_lt hj]⟩

attribute [local go_sem ↓] loadRowF_fold storeRowF_fold allocRowF_fold allocBookF_fold
attribute [local go_sem] loadRowF_has storeRowF_has allocRowF_run allocBookF_run
set_option maxRecDepth 100000 in
set_option maxHeartbeats 12800000 in
theorem walk (w : World) (A : Option Addr) (n c : Nat) (zs : List Int) (hR : RowsIn w w.heap.size A n zs) (turn : Int) (_ : -9223372036854775808 ≤ turn) (_ : turn ≤ 9223372036854775807) :
    Calls Try.prog 6 #[.slice A n c, .int .i64 turn] w fun e w' => e = .returned (.bool true) ∧ Below w.heap.size w w' := by
  obtain ⟨Q, hQ, hQl⟩ : ∃ Q : Nat, bits .and .i64 turn 65535 = (Q : Int) ∧ Q < 65536 := ⟨(turn % 65536).toNat, by rw [show bits .and .i64 turn 65535 = turn % 65536 from i64_and_mask turn 16 (by omega)]; omega, by omega⟩
  have hmm := @run_makeMap Try.prog
  go_enter Try.func6, Try.ntmps6
  go_wp2_with fail
  (with_reducible refine (fit5_any w).mono ?_)
  rintro e w1 ⟨rfl, hB1⟩
  by_cases g0 : n = 0
  · have d0 : ((n : Int) == 0) = true := by simp [g0]
    go_wp2_with fail
    go_ret
    exact ⟨rfl, hB1⟩
  have d0 : ((n : Int) == 0) = false := by simp; omega
  by_cases g1 : 20 < n
  · have d1 : decide ((20 : Int) < (n : Int)) = true := decide_eq_true (by omega)
    go_wp2_with fail
    go_ret
    exact ⟨rfl, hB1⟩
  have d1 : decide ((20 : Int) < (n : Int)) = false := decide_eq_false (by omega)
  have hM2 : Seen (w1.alloc (.map #[] 0)) w1.heap.size 0 (vers zs 0) := seen_made w1
  have hs1 := hB1.size
  have hB2 : Below w.heap.size w (w1.alloc (.map #[] 0)) := hB1.alloc hs1 _
  obtain ⟨ab, off, rfl, habl, _⟩ := hR.at_ (by omega)
  have HL := hide hR.len
  have HW := hide hR.wf
  go_upto_region 6 with fail
  generalize w1.alloc (.map #[] 0) = w2 at hM2 hB2
  generalize w1.heap.size = bm at hM2 hs1
  go_wp2_with fail
  clear d0 d1
  go_loopw [26] (fun s26 wr => ∃ j : Nat, j ≤ n ∧ s26 = .int .i64 j ∧ Seen wr bm j (vers zs j) ∧ Hid (Apart zs j) ∧ Below w.heap.size w wr) (fun s26 _ => n - (intOf s26).toNat)
  case atStart => exact ⟨0, by omega, rfl, hM2, fun a b ha => by omega, hB2⟩
  case round =>
    clear hM2 hB2
    obtain ⟨j, hj, rfl, hM, HA, hB⟩ := hrel
    by_cases hlt : j < n
    · have hRr := hR.below hB (Nat.le_refl _)
      obtain ⟨r0, h0⟩ := hRr.got rfl hlt
      have hrl := rowB_len HL.out hlt
      have hvw : (Lit.int .i64 (verB zs j)).wf = true := by
        have hw : wf64 (rowB zs j) := wf64_chunk HW.out _ _
        have e : verB zs j = (rowB zs j)[0] := by simp [verB, List.getD, show 0 < (rowB zs j).length by omega]
        rw [e]
        exact hw _ (List.getElem_mem _)
      have hv : (rowB zs j).getD 0 0 = verB zs j := rfl
      have HAS := hide (fun (hn : ¬ verB zs j ∈ vers zs j) => apart_succ HA.out hn)
      have HVS := hide (vers_succ zs j)
      have dl : (j : Int) < (n : Int) := by omega
      have hml := hM.lt
      obtain ⟨rm, hX, hO, hB3⟩ := lay (t := 31) hB hrl hB.size
      have hM3 := hM.only hO
      generalize rowB zs j = rr at *
      have hri : Is 174 rr := hrl
      clear hM hB hRr
      go_upto_region 9 with fail
      generalize hpe : wr.heap.size = p at hX hO hB3 hM3 hml
      generalize (wr.alloc (.cells (iA (zeros 174)) 31)).setCells p 0 (iV rr) = w3 at hX hO hB3 hM3
      clear rm hpe hO r0 h0
      have cx : w3.cell? ⟨p, 0, none⟩ = some (.int .i64 (verB zs j)) := by rw [← hv]; exact hX.cell (by omega)
      have hlook := hM3.look hvw
      by_cases hin : verB zs j ∈ vers zs j
      · rw [decide_eq_true hin] at hlook
        generalize verB zs j = v at *
        clear hin HAS
        go_wp2_with fail
        go_ret
        exact ⟨rfl, hB3⟩
      · rw [decide_eq_false hin] at hlook
        have HA2 := hide (HAS.out hin)
        obtain ⟨w4, hst, hM4, hg4⟩ := hM3.store (by omega) hvw
        have HVS2 := HVS.out
        rw [← HVS2] at hM4
        have hB4 : Below w.heap.size w w4 := hB3.grown hg4 hB3.size (fun k hk => by injection hk with hk; omega)
        generalize verB zs j = v at *
        clear hin HAS HVS HVS2
        go_wp2_with fail
        go_roundw
        case rel => go_light; exact ⟨j + 1, by omega, by go_num, hM4, HA2, hB4⟩
        case measure => go_light; simp [intOf]; omega
    · obtain rfl : n = j := by omega
      have dl : ¬ ((n : Int) < (n : Int)) := by omega
      obtain ⟨T, hT, hTl⟩ : ∃ T : Nat, (Q : Int) % (n : Int) = (T : Int) ∧ T < n := ⟨Q % n, by push_cast; rfl, Nat.mod_lt _ (by omega)⟩
      have hT2 : (Q : Int).tmod (n : Int) = (T : Int) := by rw [Int.tmod_eq_emod_of_nonneg (by omega), hT]
      have hn0 : (n : Int) ≠ 0 := by omega
      have hn0' : ((n : Int) == 0) = false := by simpa using hn0
      have ha2 : IBlk ((wr.alloc (.cells (iA (zeros 870)) 34)).alloc (.cells (iA (zeros 870)) 34)) wr.heap.size 34 (zeros 870) := (IBlk.new _ _ _).alloc _
      have hb2 : IBlk ((wr.alloc (.cells (iA (zeros 870)) 34)).alloc (.cells (iA (zeros 870)) 34)) (wr.heap.size + 1) 34 (zeros 870) := by
        have := IBlk.new (wr.alloc (.cells (iA (zeros 870)) 34)) 34 (zeros 870)
        simpa using this
      have hsw := hB.size
      have hB2 : Below w.heap.size w ((wr.alloc (.cells (iA (zeros 870)) 34)).alloc (.cells (iA (zeros 870)) 34)) := (hB.alloc hsw _).alloc (by simp; omega) _
      go_upto_region 15 with fail
      generalize (wr.alloc (.cells (iA (zeros 870)) 34)).alloc (.cells (iA (zeros 870)) 34) = w2 at ha2 hb2 hB2
      generalize wr.heap.size = pa at ha2 hb2 hsw
      clear hM hB hT hT2 hQ
      go_wp2_with fail
      go_loopw [45] (fun s45 wr => ∃ i : Nat, i ≤ n ∧ s45 = .int .i64 i ∧ ∃ As Bs : List Int, IBlk wr pa 34 As ∧ IBlk wr (pa + 1) 34 Bs ∧ BookOk As ∧ BookOk Bs ∧ Hid (Best zs (fun k => k < i) (rowB As 2)) ∧ Hid (Best zs (fun k => ∃ a, a < i ∧ (a + T) % n = k) (rowB Bs 2)) ∧ Below w.heap.size w wr) (fun s45 _ => n - (intOf s45).toNat)
      case atStart =>
        have z2 : rowB (zeros 870) 2 = zeros 174 := rowB_zeros ⟨2, by omega⟩
        exact ⟨0, by omega, rfl, zeros 870, zeros 870, ha2, hb2, bookOk_zeros, bookOk_zeros, hide (by rw [z2]; exact (best_none zs).congr (fun i => ⟨fun h => h.elim, fun h => absurd h (Nat.not_lt_zero _)⟩)), hide (by rw [z2]; exact (best_none zs).congr (fun i => ⟨fun h => h.elim, fun ⟨a, h, _⟩ => absurd h (Nat.not_lt_zero _)⟩)), hB2⟩
      case round =>
        clear ha2 hb2 hB2
        obtain ⟨i, hi, rfl, As, Bs, ha, hb, oa, ob, BA, BB, hB⟩ := hrel
        by_cases hlt2 : i < n
        · have hRr := hR.below hB (Nat.le_refl _)
          obtain ⟨r0, h0⟩ := hRr.got rfl hlt2
          have hRl : (i + T) % n < n := Nat.mod_lt _ (by omega)
          have hri : ((i : Int) + (T : Int)) % (n : Int) = (((i + T) % n : Nat) : Int) := by push_cast; rfl
          have hri2 : ((i : Int) + (T : Int)).tmod (n : Int) = (((i + T) % n : Nat) : Int) := by rw [Int.tmod_eq_emod_of_nonneg (by omega), hri]
          have BA2 := hide ((BA.out.step HL.out hlt2 oa).congr (S' := fun k => k < i + 1) (fun k => show (k < i ∨ k = i) ↔ k < i + 1 by omega))
          have BB2 := hide ((BB.out.step HL.out hRl ob).congr (S' := fun k => ∃ a, a < i + 1 ∧ (a + T) % n = k) (fun k => ⟨fun h => by
            rcases h with ⟨a, ha, e⟩ | e
            · exact ⟨a, by omega, e⟩
            · exact ⟨i, by omega, e.symm⟩, fun ⟨a, ha, e⟩ => by
            by_cases ea : a = i
            · subst ea; exact .inr e.symm
            · exact .inl ⟨a, by omega, e⟩⟩))
          generalize (i + T) % n = R at *
          have hrl := rowB_len HL.out hlt2
          have hrw : wf64 (rowB zs i) := wf64_chunk HW.out _ _
          have hrl2 := rowB_len HL.out hRl
          have hrw2 : wf64 (rowB zs R) := wf64_chunk HW.out _ _
          have oa2 := oa.merge 2 hrl hrw
          have ob2 := ob.merge 2 hrl2 hrw2
          have MA := merge_any oa.len ha 2 hrl hrw
          have MB := fun {w : World} (hb : IBlk w (pa + 1) 34 Bs) => merge_any ob.len hb 2 hrl2 hrw2
          have dl : (i : Int) < (n : Int) := by omega
          have dlR : (R : Int) < (n : Int) := by omega
          have hiT : (i : Int) + (T : Int) ≤ 1000 := by omega
          have hiT0 : 0 ≤ (i : Int) + (T : Int) := by omega
          clear BA BB oa ob hrl hrw hrl2 hrw2 hRr
          go_wp2_with fail
          (with_reducible refine MA.mono ?_)
          rintro e w4 ⟨rfl, ha4, hO4⟩
          have hb4 := hb.only hO4 (by omega)
          have hB4 := below_only hB hO4 (fun i (e : i = pa) => by omega) hB.size
          clear ha hb hB hO4 MA r0 h0
          have hRr := hR.below hB4 (Nat.le_refl _)
          obtain ⟨r0, h0⟩ := hRr.got rfl hRl
          have MB2 := MB hb4
          go_wp2_with fail
          (with_reducible refine MB2.mono ?_)
          rintro e w5 ⟨rfl, hb5, hO5⟩
          have ha5 := ha4.only hO5 (by omega)
          have hB5 := below_only hB4 hO5 (fun i (e : i = pa + 1) => by omega) hB4.size
          clear ha4 hb4 hB4 hO5 MB MB2 r0 h0 hRr
          go_wp2_with fail
          go_roundw
          case rel => go_light; exact ⟨i + 1, by omega, by go_num, _, _, ha5, hb5, oa2, ob2, BA2, BB2, hB5⟩
          case measure => go_light; simp [intOf]; omega
        · obtain rfl : n = i := by omega
          have HBA := hide (BA.out)
          have hsame : rowB As 2 = rowB Bs 2 := BA.out.one HA.out (BB.out.congr (fun k => turn_all hTl k))
          have RA := fun {w : World} (h : IBlk w pa 34 As) => row_any oa.len h 2
          have RB := fun {w : World} (h : IBlk w (pa + 1) 34 Bs) => row_any ob.len h 2
          have eA : rowV As 2 = rowB As 2 := rfl
          have eB : rowV Bs 2 = rowB As 2 := hsame ▸ rfl
          rw [eA] at RA
          rw [eB] at RB
          have hcl := rowB_length oa.len (q := 2) (by omega)
          have hcw := oa.row_wf 2
          have hqq : ∀ w, (Op.equalIn 10000 31 (.agg (iA (rowB As 2))) (.agg (iA (rowB As 2)))).run Try.prog w = .ok true w := fun w => by
            have := Try.eqRow hcl hcl hcw hcw w
            simpa using this
          have HOLD := hide (fun (i : Nat) (hi : i < n) => BA.out.old hi)
          have HAL := hide oa.len
          generalize rowB As 2 = cur at *
          have dl : ¬ ((n : Int) < (n : Int)) := by omega
          have HAW := hide (fun (i : Nat) (hi : i < n) {w : World} (h : IBlk w pa 34 As) => merge_any oa.len h 2 (rowB_len HL.out hi) (wf64_chunk HW.out _ _))
          clear BA BB HBA hsame eA eB oa ob
          go_wp2_with fail
          (with_reducible refine (RA ha).mono ?_)
          rintro e w4 ⟨rfl, hx⟩
          have ha4 := ha.below hx ha.lt
          have hb4 := hb.below hx hb.lt
          have hB4 := hB.trans (hx.mono hB.size)
          clear ha hb hB hx
          go_wp2_with fail
          (with_reducible refine (RB hb4).mono ?_)
          rintro e w5 ⟨rfl, hx⟩
          have ha5 := ha4.below hx ha4.lt
          have hb5 := hb4.below hx hb4.lt
          have hB5 := hB4.trans (hx.mono hB4.size)
          clear ha4 hb4 hB4 hx
          go_wp2_with fail
          go_loopw [69] (fun s69 wr => ∃ i : Nat, i ≤ n ∧ s69 = .int .i64 i ∧ IBlk wr pa 34 As ∧ IBlk wr (pa + 1) 34 Bs ∧ Below w.heap.size w wr) (fun s69 _ => n - (intOf s69).toNat)
          case atStart => exact ⟨0, by omega, rfl, ha5, hb5, hB5⟩
          case round =>
            clear ha5 hb5 hB5
            obtain ⟨i, hi, rfl, ha, hb, hB⟩ := hrel
            by_cases hlt3 : i < n
            · have hRr := hR.below hB (Nat.le_refl _)
              obtain ⟨r0, h0⟩ := hRr.got rfl hlt3
              have hrl := rowB_len HL.out hlt3
              have hold := HOLD.out i hlt3
              have MA := fun {w : World} (h : IBlk w pa 34 As) => HAW.out i hlt3 h
              rw [mergeB, if_neg (by rw [hold]; decide), hold] at MA
              have dl3 : (i : Int) < (n : Int) := by omega
              have hal := ha.lt
              have hsB := hB.size
              generalize rowB zs i = rr at *
              obtain ⟨rm, hX, hO, hB2⟩ := lay (t := 31) hB hrl hB.size
              have ha2 := ha.only hO (fun h => h)
              have hb2 := hb.only hO (fun h => h)
              have hri : Is 174 rr := hrl
              clear ha hb hB hRr hold
              go_upto_region 26 with fail
              generalize hpe : wr.heap.size = p at hX hO hB2 ha2 hb2 hal hsB
              generalize (wr.alloc (.cells (iA (zeros 174)) 31)).setCells p 0 (iV rr) = w3 at hX hO hB2 ha2 hb2
              clear rm hpe hO r0 h0
              obtain ⟨r1, h1⟩ := hX.whole hrl
              go_wp2_with fail
              (with_reducible refine (MA ha2).mono ?_)
              rintro e w6 ⟨rfl, ha6, hO6⟩
              have hb6 := hb2.only hO6 (by go_light; omega)
              have hB6 := below_only hB2 hO6 (fun i (e : i = pa) => by go_light; omega) hB2.size
              go_wp2_with fail
              go_roundw
              case rel => go_light; exact ⟨i + 1, by omega, by go_num, ha6, hb6, hB6⟩
              case measure => go_light; simp [intOf]; omega
            · have hin : n = i := by omega
              have dl3 : decide ((i : Int) < (n : Int)) = false := decide_eq_false (by omega)
              go_wp2_with fail
              (with_reducible refine (RA ha).mono ?_)
              rintro e w6 ⟨rfl, hx⟩
              have hB6 := hB.trans (hx.mono hB.size)
              have hb6 := hb.below hx hb.lt
              go_wp2_with fail
              (with_reducible refine (RB hb6).mono ?_)
              rintro e w7 ⟨rfl, hx⟩
              go_wp2_with fail
              go_ret
              exact ⟨rfl, hB6.trans (hx.mono hB6.size)⟩
end Go.Proofs.Ytlegcjniakocoaa.bookLatest
