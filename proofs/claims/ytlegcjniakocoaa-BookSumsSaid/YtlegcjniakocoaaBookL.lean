/- The contracts of the law package's Filled and cell. -/
import Derived.Test.YtlegcjniakocoaaBookF
namespace Go.Proofs.Ytlegcjniakocoaa
open Go.RowKit

/-- A book behind the first so many rows, each of its place's machine. -/
def fillM (zs : List Int) : Nat → List Int
  | 0 => zeros 870
  | i + 1 => mergeB (fillM zs i) ((i % 5 : Nat) : Int) (rowB zs i)
theorem fillM_ok {zs : List Int} {n : Nat} (hl : zs.length = n * 174) (hw : wf64 zs) : ∀ {i : Nat}, i ≤ n → BookOk (fillM zs i)
  | 0, _ => bookOk_zeros
  | i + 1, h => (fillM_ok hl hw (by omega)).merge _ (rowB_len hl (by omega)) (wf64_chunk hw _ _)

/-- Two results, the second in a variable. -/
theorem results_2i {P : Program} {fn : Func} {s1 s2 : Tmp} {ty : TypeId} (h : fn.results = #[.tmp s1, .cell s2 ty]) {tmps : Array Value} {w : World} {b : Nat} {t : TypeId} {zs : List Int} (hs : tmps.getD s2 undef = .pointer (some ⟨b, 0, none⟩)) (hI : IBlk w b t zs)
    {d : TypeDesc} (hu : P.underlying ty = some d) (hd : d.isRow = true) (hi : (P.info? ty).map (·.size) = some zs.length) (v : Value) (hv : tmps.getD s1 undef = v) : (results fn tmps).run P w = .ok (.tuple #[v, .agg (iA zs)]) w := by
  have hl := run_loadVar_mid (P := P) w b 0 ty (iV zs) d (by have := hI.part 0 zs.length; rwa [List.drop_zero, List.take_of_length_le (Nat.le_refl _)] at this) hu hd (by rw [iV_length]; exact hi)
  have hs' : tmps[s2]?.getD undef = .pointer (some ⟨b, 0, none⟩) := by simpa using hs
  have hv' : tmps[s1]?.getD undef = v := by simpa using hv
  simp [results, h, hs', hv', asAddr, hl, iA]

attribute [local go_sem ↓] loadRowF_fold storeRowF_fold allocRowF_fold allocBookF_fold allocRowsF_fold loadRowsF_fold storeRowsF_fold
attribute [local go_sem] loadRowF_has storeRowF_has allocRowF_run allocBookF_run allocRowsF_run loadRowsF_has storeRowsF_has
set_option maxRecDepth 100000 in
set_option maxHeartbeats 6400000 in
theorem filled_any {w : World} {A : Option Addr} {n c : Nat} {zs : List Int} (hR : RowsIn w w.heap.size A n zs) (hn : n ≤ 1000) :
    Calls Try.prog 12 #[.slice A n c] w fun e w' => e = .returned (.tuple #[.pointer (some ⟨w.heap.size + 1, 0, none⟩), .agg (iA (fillM zs n))]) ∧ IBlk w' (w.heap.size + 1) 34 (fillM zs n) ∧ Below w.heap.size w w' := by
  have hJ : IBlk (((w.alloc (.cells (iA (zeros 870)) 32)).alloc (.cells (iA (zeros 870)) 34)).alloc (.cells (iA (zeros 870)) 32)) w.heap.size 32 (zeros 870) := ((IBlk.new _ _ _).alloc _).alloc _
  have hb : IBlk (((w.alloc (.cells (iA (zeros 870)) 32)).alloc (.cells (iA (zeros 870)) 34)).alloc (.cells (iA (zeros 870)) 32)) (w.heap.size + 1) 34 (zeros 870) := by
    have := (IBlk.new (w.alloc (.cells (iA (zeros 870)) 32)) 34 (zeros 870)).alloc (.cells (iA (zeros 870)) 32)
    simpa using this
  have hm : IBlk (((w.alloc (.cells (iA (zeros 870)) 32)).alloc (.cells (iA (zeros 870)) 34)).alloc (.cells (iA (zeros 870)) 32)) (w.heap.size + 2) 32 (zeros 870) := by
    have := IBlk.new ((w.alloc (.cells (iA (zeros 870)) 32)).alloc (.cells (iA (zeros 870)) 34)) 32 (zeros 870)
    simpa using this
  have hB : Below w.heap.size w (((w.alloc (.cells (iA (zeros 870)) 32)).alloc (.cells (iA (zeros 870)) 34)).alloc (.cells (iA (zeros 870)) 32)) := (((Below.refl _ _).alloc (Nat.le_refl _) _).alloc (by simp) _).alloc (by simp; omega) _
  have HL := hide hR.len
  have HK := hide (fun (i : Nat) (hi : i ≤ n) => fillM_ok hR.len hR.wf hi)
  have HW := hide hR.wf
  have HST : Hid (∀ i, fillM zs (i + 1) = mergeB (fillM zs i) ((i % 5 : Nat) : Int) (rowB zs i)) := hide fun _ => rfl
  have hi870 := Try.infoRows
  go_enter Try.func12, Try.ntmps12
  go_upto_region 3 with fail
  generalize ((w.alloc (.cells (iA (zeros 870)) 32)).alloc (.cells (iA (zeros 870)) 34)).alloc (.cells (iA (zeros 870)) 32) = w1 at hJ hb hm hB
  go_wp2_with fail
  go_loopw [11] (fun s11 wr => ∃ j : Nat, j ≤ n ∧ s11 = .int .i64 j ∧ IBlk wr w.heap.size 32 (zeros 870) ∧ IBlk wr (w.heap.size + 1) 34 (fillM zs j) ∧ IBlk wr (w.heap.size + 2) 32 (fillM zs j) ∧ Below w.heap.size w wr) (fun s11 _ => n - (intOf s11).toNat)
  case atStart => exact ⟨0, by omega, rfl, hJ, hb, hm, hB⟩
  case round =>
    clear hJ hb hm hB
    obtain ⟨j, hj, rfl, hJ, hb, hm, hB⟩ := hrel
    by_cases hlt : j < n
    · have hRr := hR.below hB (Nat.le_refl _)
      obtain ⟨ab, off, rfl, habl, _⟩ := hR.at_ (by omega)
      obtain ⟨r0, h0⟩ := hRr.got rfl hlt
      have hok := HK.out j hj
      have hrl := rowB_len HL.out hlt
      have hrw : wf64 (rowB zs j) := wf64_chunk HW.out _ _
      have hst := HST.out j
      have hjm : (j : Int) % 5 = ((j % 5 : Nat) : Int) := by omega
      have hm5 : j % 5 < 5 := by omega
      generalize hme : j % 5 = q at *
      generalize rowB zs j = rr at *
      generalize fillM zs j = F at *
      have HM := fun {w : World} {b : Nat} (hb : IBlk w b 34 F) => merge_any hok.len hb (q : Int) hrl hrw
      have HN : Hid (mergeB F (q : Int) rr = if newsB F (q : Int) rr = true then putB F q rr else F) := hide rfl
      have HS := hide hst
      have HFL := hide hok.len
      have hsB := hB.size
      have hml := hm.lt
      have dl : (j : Int) < (n : Int) := by omega
      have hqi : (q : Int) < 5 := by omega
      obtain ⟨rm, hX, hO, hB2⟩ := lay (t := 31) hB hrl hB.size
      have hJ2 := hJ.only hO (fun h => h)
      have hb2 := hb.only hO (fun h => h)
      have hm2 := hm.only hO (fun h => h)
      have hri : Is 174 rr := hrl
      clear hst hok hJ hb hm hB hRr hme hrw
      go_upto_region 6 with fail
      generalize hpe : wr.heap.size = p at hX hO hB2 hJ2 hb2 hm2 hsB hml
      generalize (wr.alloc (.cells (iA (zeros 174)) 31)).setCells p 0 (iV rr) = w2 at hX hO hB2 hJ2 hb2 hm2
      obtain ⟨r1, h1⟩ := hX.whole hrl
      clear rm hpe hO r0 h0
      go_wp2_with fail
      (with_reducible refine (HM hb2).mono ?_)
      rintro e w3 ⟨rfl, hb3, hO3⟩
      have hX3 := hX.only hO3 (by omega)
      have hJ3 := hJ2.only hO3 (by omega)
      have hm3 := hm2.only hO3 (by omega)
      have hB3 := below_only hB2 hO3 (fun i (e : i = w.heap.size + 1) => by omega) hB2.size
      clear hX hJ2 hb2 hm2 hB2 hO3 HM r1 h1
      cases hnw : newsB F (q : Int) rr with
      | false =>
        rw [hnw] at HN
        have HN2 := hide (HS.out.trans HN.out)
        rw [HN.out] at hb3
        go_wp2_with fail
        go_roundw
        case rel => go_light; exact ⟨j + 1, by omega, by go_num, hJ3, by rw [HN2.out]; exact hb3, by rw [HN2.out]; exact hm3, hB3⟩
        case measure => go_light; simp [intOf]; omega
      | true =>
        rw [hnw] at HN
        have HN2 := hide (HS.out.trans HN.out)
        rw [HN.out] at hb3
        obtain ⟨r1, h1⟩ := hX3.whole hrl
        have hrm := hm3.room (q * 174) 174 (by go_light; have := HFL.out; omega)
        have hO4 := only_cells w3 (w.heap.size + 2) (q * 174) (iV rr)
        have hm4 := hm3.setN (o := q * 174) (xs := rr) (by go_light; have := HFL.out; omega)
        have hJ4 := hJ3.only hO4 (by go_light; omega)
        have hb4 := hb3.only hO4 (by go_light; omega)
        have hB4 := below_only hB3 hO4 (fun i (e : i = w.heap.size + 2) => by go_light; omega) hB3.size
        go_wp2_with fail
        go_roundw
        case rel => go_light; exact ⟨j + 1, by omega, by go_num, hJ4, by rw [HN2.out]; exact hb4, by rw [HN2.out]; exact hm4, hB4⟩
        case measure => go_light; simp [intOf]; omega
    · obtain rfl : j = n := by omega
      have dl : ¬ ((j : Int) < (j : Int)) := by omega
      have hFL := (HK.out j (Nat.le_refl _)).len
      have hfi : Is 870 (fillM zs j) := hFL
      obtain ⟨r1, h1⟩ := hm.drew.whole hFL
      have hrm := hJ.drew.room 0 870 (by rw [zeros_length]; decide)
      have hO4 := only_cells wr.drew w.heap.size 0 (iV (fillM zs j))
      have hJ4 := hJ.drew.fill (ys := fillM zs j) (by rw [hFL, zeros_length])
      have hb4 := hb.drew.only hO4 (by omega)
      have hB4 := below_only hB.drew hO4 (fun i (e : i = w.heap.size) => by omega) hB.size
      generalize hfe : fillM zs j = fin at *
      have HFE := hide hfe
      clear hfe
      clear HK HST hJ hm hb hR
      go_wp2_with fail
      go_region
      all_goals
        go_wp2_with fail
        refine bodyPost_ret (results_2i rfl rfl hJ4 Try.underlying32 rfl (by rw [hFL]; exact hi870) _ rfl) rfl ⟨?_, ?_, hB4⟩
        · rw [HFE.out]; rfl
        · rw [HFE.out]; exact hb4
end Go.Proofs.Ytlegcjniakocoaa
