/- The contract of the law package's Right: it tells just what row's Right tells. -/
import Derived.Test.YtmcanjijpdgfeaaRowR
namespace Go.Proofs.Ytmcanjijpdgfeaa
open Go.RowKit

theorem Try.makeFuncL : ∀ (fn : Fn) (first cap : Array Value) (w : World), (Instr.makeFunc fn first cap).run Try.prog w = .ok (.func fn first cap) w := fun _ _ _ _ => rfl
/-- What the law's loop over Given tells. -/
def lawGo (o : Bool) (s : Int) : List Int → Bool
  | [] => o && decide (s ≤ 1099511627776)
  | g :: gs => lawGo (o && inN g) (if (o && inN g) = true then s + g else s) gs
theorem lawGo_false : ∀ (gs : List Int) (s : Int), lawGo false s gs = false
  | [], _ => rfl
  | g :: gs, s => by rw [lawGo, Bool.false_and]; exact lawGo_false gs _
theorem lawGo_over : ∀ (gs : List Int) (s : Int), 1099511627776 < s → lawGo true s gs = false
  | [], s, h => by rw [lawGo, Bool.true_and]; simp; omega
  | g :: gs, s, h => by
    rw [lawGo, Bool.true_and]
    cases hg : inN g with
    | false => exact lawGo_false gs _
    | true =>
      rw [if_pos rfl]
      exact lawGo_over gs _ (by have := (inN_true.1 hg).1; omega)
theorem lawGo_add : ∀ (gs : List Int) (s : Int), s ≤ 1099511627776 → lawGo true s gs = ((addF s gs).2 == 0)
  | [], s, h => by rw [lawGo, addF]; simp [h]
  | g :: gs, s, h => by
    rw [lawGo, Bool.true_and]
    cases hg : inN g with
    | false => rw [lawGo_false, addF_bad _ _ _ (inN_false.1 hg)]; rfl
    | true =>
      have h1 := inN_true.1 hg
      rw [if_pos rfl]
      by_cases h2 : 1099511627776 < s + g
      · rw [lawGo_over _ _ h2, addF_over _ _ _ h1.1 h1.2 h2]; rfl
      · rw [addF_step _ _ _ h1.1 h1.2 (by omega)]
        exact lawGo_add gs _ (by omega)
theorem lawGo_all (o : Bool) (gs : List Int) : lawGo o 0 gs = (o && ((addF 0 gs).2 == 0)) := by
  cases o
  · rw [lawGo_false]; rfl
  · rw [lawGo_add _ _ (by omega)]; rfl
theorem lawGo_drop (o : Bool) (s : Int) (gs : List Int) (k : Nat) (hk : k < gs.length) : lawGo o s (gs.drop k) = lawGo (o && inN (gs.getD k 0)) (if (o && inN (gs.getD k 0)) = true then s + gs.getD k 0 else s) (gs.drop (k + 1)) := by
  rw [List.drop_eq_getElem_cons hk, lawGo]; simp [List.getD, hk]

attribute [local go_sem ↓] loadInts5F_fold indexInts5F_fold
attribute [local go_sem] loadInts5F_has indexInts5F_at
set_option maxRecDepth 100000 in
set_option maxHeartbeats 3200000 in
theorem cell1_any (c : List Int) (hl : c.length = 7) (q : Nat) (o : Bool) (w : World) (hQ : Blk w q 4 #[.bool o]) :
    Calls Try.prog 11 #[.agg (iA c), .pointer (some ⟨q, 0, none⟩)] w fun e w' => e = .returned (.tuple #[]) ∧ Blk w' q 4 #[.bool (o && okC c)] ∧ Only (· = q) w w' := by
  have hqlt := hQ.lt
  have hI : IBlk (w.alloc (.cells (iA c) 24)) w.heap.size 24 c := IBlk.new _ _ _
  have hO1 : Only (· = q) w (w.alloc (.cells (iA c) 24)) := (Only.refl _ _).alloc _
  have hQ1 := hQ.alloc (.cells (iA c) 24)
  have HE : Hid ((o && okC c) = lawGo (o && inN (c.getD 0 0) && inN (c.getD 1 0)) 0 ((c.drop 2).take 5)) := hide (by
    rw [lawGo_all, okC]
    cases o <;> cases inN (c.getD 0 0) <;> cases inN (c.getD 1 0) <;> simp)
  generalize (o && okC c) = fin at HE
  have HL := hide hl
  clear hl hQ
  go_enter Try.func11, Try.ntmps11
  go_upto_region 2 with fail
  generalize w.alloc (.cells (iA c) 24) = w1 at hI hO1 hQ1
  have hqb : ¬ w.heap.size = q := by omega
  generalize w.heap.size = b at hI hqb
  have c0 : w1.cell? ⟨b, 0, none⟩ = some (.int .i64 (c.getD 0 0)) := hI.cell (by rw [HL.out]; decide)
  have c1 : w1.cell? ⟨b, 1, none⟩ = some (.int .i64 (c.getD 1 0)) := hI.cell (by rw [HL.out]; decide)
  have cq : w1.cell? ⟨q, 0, none⟩ = some (.bool o) := by rw [hQ1.cell]; rfl
  have zq := hQ1.frozen 0
  generalize c.getD 0 0 = x0 at c0 HE
  generalize c.getD 1 0 = x1 at c1 HE
  go_cut [3] (fun s3 wx => s3 = .int .i64 0 ∧ Blk wx q 4 #[.bool (o && inN x0 && inN x1)] ∧ IBlk wx b 24 c ∧ Only (· = q) w wx)
  case first =>
    have done : ∀ v : Bool, v = (o && inN x0 && inN x1) → Blk (w1.setCell ⟨q, 0, none⟩ (.bool v)) q 4 #[.bool (o && inN x0 && inN x1)] ∧ IBlk (w1.setCell ⟨q, 0, none⟩ (.bool v)) b 24 c ∧ Only (· = q) w (w1.setCell ⟨q, 0, none⟩ (.bool v)) := fun v hv => by
      subst hv
      exact ⟨hQ1.set_ 0 _, hI.only (only_cell w1 q 0 _) hqb, hO1.trans_ (only_cell w1 q 0 _)⟩
    clear hI hO1 hQ1
    cases o with
    | false =>
      go_wp2_with fail
      go_meet
      exact ⟨rfl, done false rfl⟩
    | true =>
      by_cases a0 : 0 ≤ x0
      · by_cases a1 : x0 ≤ 1099511627776
        · have e0 : inN x0 = true := inN_true.2 ⟨a0, a1⟩
          by_cases a2 : 0 ≤ x1
          · by_cases a3 : x1 ≤ 1099511627776
            · have e1 : inN x1 = true := inN_true.2 ⟨a2, a3⟩
              have D := done true (by rw [e0, e1]; rfl)
              go_wp2_with fail
              go_meet
              exact ⟨rfl, D⟩
            · have e1 : inN x1 = false := inN_false.2 (by omega)
              have D := done false (by rw [e0, e1]; rfl)
              have d3 : decide (x1 ≤ 1099511627776) = false := by simpa using a3
              go_wp2_with fail
              go_meet
              exact ⟨rfl, D⟩
          · have e1 : inN x1 = false := inN_false.2 (by omega)
            have D := done false (by rw [e0, e1]; rfl)
            have d2 : decide (0 ≤ x1) = false := by simpa using a2
            go_wp2_with fail
            go_meet
            exact ⟨rfl, D⟩
        · have e0 : inN x0 = false := inN_false.2 (by omega)
          have D := done false (by rw [e0]; rfl)
          have d1 : decide (x0 ≤ 1099511627776) = false := by simpa using a1
          go_wp2_with fail
          go_meet
          exact ⟨rfl, D⟩
      · have e0 : inN x0 = false := inN_false.2 (by omega)
        have D := done false (by rw [e0]; rfl)
        have d0 : decide (0 ≤ x0) = false := by simpa using a0
        go_wp2_with fail
        go_meet
        exact ⟨rfl, D⟩
  case rest =>
    clear hI hO1 hQ1 c0 c1 cq zq
    obtain ⟨rfl, hQ, hI, hO⟩ := hcut
    obtain ⟨r5, h5⟩ := hI.got 2 5 (by rw [HL.out]; decide)
    have hl5 : Is 5 ((c.drop 2).take 5) := by show _ = _; rw [List.length_take, List.length_drop, HL.out]; rfl
    generalize (c.drop 2).take 5 = gs at r5 hl5 HE
    have H5 := hide hl5
    go_wp2_with fail
    clear r5 h5
    go_loopw [3, 29] (fun s i wr => ∃ (k : Nat) (o' : Bool) (t : Int), k ≤ 5 ∧ i = .int .i64 k ∧ s = .int .i64 t ∧ 0 ≤ t ∧ t ≤ 1099511627776 * k ∧ Hid (fin = lawGo o' t (gs.drop k)) ∧ Blk wr q 4 #[.bool o'] ∧ Only (· = q) w wr) (fun _ i _ => 5 - (intOf i).toNat)
    case atStart => exact ⟨0, _, 0, by omega, rfl, rfl, by omega, by omega, HE, hQ, hO⟩
    case round =>
      clear hQ hO hI HE
      obtain ⟨k, o', t, hk, rfl, rfl, t0, t1, HF, hQ, hO⟩ := hrel
      have cq : wr.cell? ⟨q, 0, none⟩ = some (.bool o') := by rw [hQ.cell]; rfl
      have zq := hQ.frozen 0
      by_cases hlt : k < 5
      · have hix := indexInts5F_at (l := gs) hlt hl5
        have HG : Hid (fin = lawGo (o' && inN (gs.getD k 0)) (if (o' && inN (gs.getD k 0)) = true then t + gs.getD k 0 else t) (gs.drop (k + 1))) := hide (by rw [HF.out]; exact lawGo_drop _ _ _ _ (by have : gs.length = 5 := H5.out; omega))
        generalize gs.getD k 0 = g at hix HG
        have hS : ∀ v : Bool, Blk (wr.setCell ⟨q, 0, none⟩ (.bool v)) q 4 #[.bool v] ∧ Only (· = q) w (wr.setCell ⟨q, 0, none⟩ (.bool v)) := fun v => ⟨hQ.set_ 0 _, hO.trans_ (only_cell wr q 0 _)⟩
        clear HF hQ hO
        cases o' with
        | false =>
          go_wp2_with fail
          go_roundw
          case rel => exact ⟨k + 1, false, t, by omega, by go_num, rfl, t0, by omega, HG, (hS _).1, (hS _).2⟩
          case measure => simp [intOf]; omega
        | true =>
          by_cases a0 : 0 ≤ g
          · by_cases a1 : g ≤ 1099511627776
            · have e0 : inN g = true := inN_true.2 ⟨a0, a1⟩
              have HG2 : Hid (fin = lawGo true (t + g) (gs.drop (k + 1))) := hide (by rw [HG.out, e0]; rfl)
              have b1 : t + g ≤ 6597069766656 := by omega
              go_wp2_with fail
              go_roundw
              case rel => exact ⟨k + 1, true, t + g, by omega, by go_num, rfl, by omega, by omega, HG2, (hS _).1, (hS _).2⟩
              case measure => simp [intOf]; omega
            · have e0 : inN g = false := inN_false.2 (by omega)
              have HG2 : Hid (fin = lawGo false t (gs.drop (k + 1))) := hide (by rw [HG.out, e0]; rfl)
              have d1 : decide (g ≤ 1099511627776) = false := by simpa using a1
              go_wp2_with fail
              go_roundw
              case rel => exact ⟨k + 1, false, t, by omega, by go_num, rfl, t0, by omega, HG2, (hS _).1, (hS _).2⟩
              case measure => simp [intOf]; omega
          · have e0 : inN g = false := inN_false.2 (by omega)
            have HG2 : Hid (fin = lawGo false t (gs.drop (k + 1))) := hide (by rw [HG.out, e0]; rfl)
            have d0 : decide (0 ≤ g) = false := by simpa using a0
            go_wp2_with fail
            go_roundw
            case rel => exact ⟨k + 1, false, t, by omega, by go_num, rfl, t0, by omega, HG2, (hS _).1, (hS _).2⟩
            case measure => simp [intOf]; omega
      · obtain rfl : k = 5 := by omega
        have HG : Hid (fin = (o' && decide (t ≤ 1099511627776))) := hide (by
          rw [HF.out, List.drop_of_length_le (by have : gs.length = 5 := H5.out; omega), lawGo])
        have hS : ∀ v : Bool, Blk (wr.setCell ⟨q, 0, none⟩ (.bool v)) q 4 #[.bool v] ∧ Only (· = q) w (wr.setCell ⟨q, 0, none⟩ (.bool v)) := fun v => ⟨hQ.set_ 0 _, hO.trans_ (only_cell wr q 0 _)⟩
        clear HF hQ hO
        cases o' with
        | false =>
          go_wp2_with fail
          go_end0
          rw [HG.out]
          exact ⟨rfl, (hS _).1, (hS _).2⟩
        | true =>
          cases hd : decide (t ≤ 1099511627776) with
          | true =>
            go_wp2_with fail
            go_end0
            rw [HG.out, hd]
            exact ⟨rfl, (hS _).1, (hS _).2⟩
          | false =>
            go_wp2_with fail
            go_end0
            rw [HG.out, hd]
            exact ⟨rfl, (hS _).1, (hS _).2⟩

attribute [local go_sem ↓] loadCellsF_fold loadCellF_fold storeCellF_fold storeCellsF_fold allocCellF_fold allocCellsF_fold indexCellsF_fold indexLeftsF_fold loadLeftsF_fold buildCellsF_fold
attribute [local go_sem] loadCellsF_has loadCellF_has storeCellF_has storeCellsF_has allocCellF_run allocCellsF_run indexCellsF_at indexLeftsF_at loadLeftsF_has buildCellsF_none
set_option maxRecDepth 100000 in
set_option maxHeartbeats 6400000 in
theorem lawRight_any (zs : List Int) (hl : zs.length = 174) (hw : wf64 zs) (w : World) :
    Calls Try.prog 5 #[.agg (iA zs)] w fun e w' => e = .returned (.bool (okRow zs)) ∧ Below w.heap.size w w' := by
  have hmf := Try.makeFuncL
  have HL := hide hl
  have HW := hide hw
  have hI0 : IBlk (w.alloc (.cells (iA zs) 28)) w.heap.size 28 zs := IBlk.new _ _ _
  have hB0 : Below w.heap.size w (w.alloc (.cells (iA zs) 28)) := (Below.refl _ _).alloc (Nat.le_refl _) _
  have HR : Hid (okRow zs = (decide (0 ≤ zs.getD 0 0) && okN zs 1 4 && okH zs 5)) := hide rfl
  generalize okRow zs = ok at HR
  clear hl hw
  go_enter Try.func5, Try.ntmps5
  go_upto_region 1 with fail
  generalize w.alloc (.cells (iA zs) 28) = w1 at hI0 hB0
  have hs1 := hB0.size
  have hlt1 := hI0.lt
  generalize hbe : w.heap.size = b at hI0 hlt1
  have c0 : w1.cell? ⟨b, 0, none⟩ = some (.int .i64 (zs.getD 0 0)) := hI0.cell (by rw [HL.out]; decide)
  generalize zs.getD 0 0 = x0 at c0 HR
  have hQ1 : Blk (w1.alloc (.cells #[.bool (decide (0 ≤ x0))] 4)) w1.heap.size 4 #[.bool (decide (0 ≤ x0))] := Blk.new _ _ _
  have hI1 := hI0.alloc (.cells #[.bool (decide (0 ≤ x0))] 4)
  have hB1 := hB0.alloc hs1 (.cells #[.bool (decide (0 ≤ x0))] 4)
  go_upto_region 3 with fail
  clear c0
  generalize decide (0 ≤ x0) = d0 at hQ1 hI1 hB1 HR
  generalize w1.alloc (.cells #[.bool d0] 4) = w2 at hQ1 hI1 hB1
  generalize w1.heap.size = q at hQ1 hs1 hlt1
  clear hI0 hB0
  obtain ⟨r1, h1⟩ := hI1.got 1 28 (by rw [HL.out]; decide)
  have hc4 : ∀ k, k < 4 → ((((zs.drop 1).take 28).drop (k * 7)).take 7).length = 7 ∧ ∀ d, (d && okN zs 1 (k + 1)) = ((d && okN zs 1 k) && okC ((((zs.drop 1).take 28).drop (k * 7)).take 7)) := fun k hk => by
    refine ⟨by simp only [List.length_take, List.length_drop, HL.out]; omega, fun d => ?_⟩
    rw [okN, chunk_chunk _ _ _ _ _ (by omega), Nat.mul_comm k 7, Bool.and_assoc]
  have HC4 := hide hc4
  clear hc4
  generalize (zs.drop 1).take 28 = cs at r1 HC4
  go_wp2_with fail
  clear r1 h1
  go_loopw [17] (fun i wr => ∃ k : Nat, k ≤ 4 ∧ i = .int .i64 k ∧ Blk wr q 4 #[.bool (d0 && okN zs 1 k)] ∧ IBlk wr b 28 zs ∧ Below w.heap.size w wr) (fun i _ => 4 - (intOf i).toNat)
  case atStart => exact ⟨0, by omega, rfl, by simpa [okN] using hQ1, hI1, hB1⟩
  case round =>
    clear hQ1 hI1 hB1
    obtain ⟨k, hk, rfl, hQ, hI, hB⟩ := hrel
    have hqs := hQ.lt
    by_cases hlt : k < 4
    · obtain ⟨hch, hnx⟩ := HC4.out k hlt
      have hnx := hide (hnx d0)
      have hix := indexCellsF_at (zs := cs) hlt
      generalize (cs.drop (k * 7)).take 7 = ch at hch hnx hix
      have his : Is 7 ch := hch
      have hnew : IBlk (wr.alloc (.cells (iA (zeros 7)) 24)) wr.heap.size 24 (zeros 7) := IBlk.new _ _ _
      have hrm := hnew.room 0 7 (by decide)
      have hf := hnew.fill (ys := ch) hch
      have hO : Only (fun _ => False) wr ((wr.alloc (.cells (iA (zeros 7)) 24)).setCells wr.heap.size 0 (iV ch)) := Only.setCells _ (.inr (Nat.le_refl _)) _ _ ((Only.refl _ _).alloc _)
      have hQ2 := hQ.only hO (fun h => h)
      have hI2 := hI.only hO (fun h => h)
      have hBn := below_only hB hO (fun _ h => h.elim) hB.size
      generalize hqe : (d0 && okN zs 1 k) = v at hQ2 hnx
      go_upto_region 6 with fail
      clear hrm hnew hix hqe hO hQ hI
      generalize (wr.alloc (.cells (iA (zeros 7)) 24)).setCells wr.heap.size 0 (iV ch) = w3 at hf hBn hQ2 hI2
      obtain ⟨r1, h1⟩ := hf.whole hch
      go_wp2_with fail
      (with_reducible refine (cell1_any ch hch q v w3 hQ2).mono ?_)
      rintro e w4 ⟨rfl, hQ4, hO4⟩
      have hI4 := hI2.only hO4 (by omega)
      have hB4 := below_only hBn hO4 (fun i (e : i = q) => by omega) hBn.size
      go_wp2_with fail
      go_roundw
      case rel => exact ⟨k + 1, by omega, by go_num, by rw [hnx.out]; exact hQ4, hI4, hB4⟩
      case measure => simp [intOf]; omega
    · have hk4 : k = 4 := by omega
      rw [hk4] at hQ
      clear hk4 HC4
      generalize hDe : (d0 && okN zs 1 4) = D at hQ
      have HR2 : Hid (ok = (D && okH zs 5)) := hide (by rw [← hDe]; exact HR.out)
      clear HR hDe
      obtain ⟨r1, h1⟩ := hI.got 34 140 (by rw [HL.out]; decide)
      have hc5 : ∀ k, k < 5 → (((zs.drop 34).take 140).drop (k * 28)).take 28 = (zs.drop (34 + 28 * k)).take 28 := fun k hk => by
        rw [chunk_chunk _ _ _ _ _ (by omega), Nat.mul_comm k 28]
      have HC5 := hide hc5
      clear hc5
      generalize (zs.drop 34).take 140 = ls at r1 HC5
      go_wp2_with fail
      clear r1 h1
      go_loopw [26] (fun i wr => ∃ k : Nat, k ≤ 5 ∧ i = .int .i64 k ∧ Blk wr q 4 #[.bool (D && okH zs k)] ∧ IBlk wr b 28 zs ∧ Below w.heap.size w wr) (fun i _ => 5 - (intOf i).toNat)
      case atStart => exact ⟨0, by omega, rfl, by simpa [okH] using hQ, hI, hB⟩
      case round =>
        clear hQ hI hB hqs hk hlt
        obtain ⟨k, hk, rfl, hQ, hI, hB⟩ := hrel
        have hqs := hQ.lt
        by_cases hlt : k < 5
        · have d5 : decide ((k : Int) < 5) = true := by simp; omega
          have hch : ((zs.drop (34 + 28 * k)).take 28).length = 28 := by simp only [List.length_take, List.length_drop, HL.out]; omega
          have hix := indexLeftsF_at (zs := ls) hlt
          rw [HC5.out k hlt] at hix
          have hcw : wf64 ((zs.drop (34 + 28 * k)).take 28) := wf64_chunk HW.out _ _
          have hcc : ∀ j, j < 4 → ((((zs.drop (34 + 28 * k)).take 28).drop (j * 7)).take 7).length = 7 ∧ ∀ d, (d && okN zs (34 + 28 * k) (j + 1)) = ((d && okN zs (34 + 28 * k) j) && okC ((((zs.drop (34 + 28 * k)).take 28).drop (j * 7)).take 7)) := fun j hj => by
            refine ⟨by simp only [List.length_take, List.length_drop, HL.out]; omega, fun d => ?_⟩
            rw [okN, chunk_chunk _ _ _ _ _ (by omega), Nat.mul_comm j 7, Bool.and_assoc]
          have HCC := hide hcc
          have ch0 : wr.cell? ⟨b, 29 + k, none⟩ = some (.int .i64 (zs.getD (29 + k) 0)) := hI.cell (by rw [HL.out]; omega)
          have HS : Hid (okH zs (k + 1) = (okH zs k && (decide (0 ≤ zs.getD (29 + k) 0) && okN zs (34 + 28 * k) 4 && (decide (zs.getD (29 + k) 0 ≠ 0) || decide ((zs.drop (34 + 28 * k)).take 28 = zeros 28))))) := hide rfl
          generalize zs.getD (29 + k) 0 = h at ch0 HS
          have hqe : ∀ w, (Op.equalIn 10000 25 (.agg (iA ((zs.drop (34 + 28 * k)).take 28))) (.agg (iA (zeros 28)))).run Try.prog w = .ok (decide ((zs.drop (34 + 28 * k)).take 28 = zeros 28)) w := fun w => Try.eqCells hch (zeros_length 28) hcw (wf_zeros _) w
          clear hcc hcw
          generalize (zs.drop (34 + 28 * k)).take 28 = ch at hch hix HCC HS hqe
          generalize decide (ch = zeros 28) = ez at HS hqe
          have his : Is 28 ch := hch
          have hnew : IBlk (wr.alloc (.cells (iA (zeros 28)) 25)) wr.heap.size 25 (zeros 28) := IBlk.new _ _ _
          have hrm := hnew.room 0 28 (by decide)
          have hf := hnew.fill (ys := ch) hch
          have hO : Only (fun _ => False) wr ((wr.alloc (.cells (iA (zeros 28)) 25)).setCells wr.heap.size 0 (iV ch)) := Only.setCells _ (.inr (Nat.le_refl _)) _ _ ((Only.refl _ _).alloc _)
          have hQ2 := hQ.only hO (fun h => h)
          have hI2 := hI.only hO (fun h => h)
          have hBn := below_only hB hO (fun _ h => h.elim) hB.size
          have hcn := (hO.cell (p := ⟨b, 29 + k, none⟩) hI.lt (fun h => h)).trans ch0
          generalize hve : (D && okH zs k) = v at hQ2
          go_upto_region 11 with fail
          clear hrm hnew hix hO hQ hI ch0
          generalize hpe : wr.heap.size = p at hf hQ2 hI2 hBn hcn
          generalize (wr.alloc (.cells (iA (zeros 28)) 25)).setCells p 0 (iV ch) = w3 at hf hBn hQ2 hI2 hcn
          obtain ⟨r1, h1⟩ := hf.whole hch
          have cq : w3.cell? ⟨q, 0, none⟩ = some (.bool v) := by rw [hQ2.cell]; rfl
          have zq := hQ2.frozen 0
          go_cut [8] (fun s8 wx => s8 = .pointer (some ⟨p, 0, none⟩) ∧ Blk wx q 4 #[.bool (v && (decide (0 ≤ h) && (decide (h ≠ 0) || ez)))] ∧ IBlk wx b 28 zs ∧ IBlk wx p 25 ch ∧ Below w.heap.size w wx)
          case first =>
            have D' : ∀ x : Bool, x = (v && (decide (0 ≤ h) && (decide (h ≠ 0) || ez))) → Blk (w3.setCell ⟨q, 0, none⟩ (.bool x)) q 4 #[.bool (v && (decide (0 ≤ h) && (decide (h ≠ 0) || ez)))] ∧ IBlk (w3.setCell ⟨q, 0, none⟩ (.bool x)) b 28 zs ∧ IBlk (w3.setCell ⟨q, 0, none⟩ (.bool x)) p 25 ch ∧ Below w.heap.size w (w3.setCell ⟨q, 0, none⟩ (.bool x)) := fun x hx => by
              subst hx
              exact ⟨hQ2.set_ 0 _, hI2.only (only_cell w3 q 0 _) (by omega), hf.only (only_cell w3 q 0 _) (by omega), below_only hBn (only_cell w3 q 0 _) (fun i (e : i = q) => by omega) hBn.size⟩
            clear hQ2 hI2 hf hBn
            cases v with
            | false =>
              have D1 := D' false rfl
              go_wp2_with fail
              go_meet
              exact ⟨rfl, D1⟩
            | true =>
              by_cases hn : 0 ≤ h
              · by_cases hp : 0 < h
                · have D1 := D' true (by simp [hn]; omega)
                  go_wp2_with fail
                  go_meet
                  exact ⟨rfl, D1⟩
                · have D1 := D' ez (by simp [hn]; intro h; omega)
                  have d0 : decide (0 < h) = false := by simpa using hp
                  go_wp2_with fail
                  go_meet
                  exact ⟨rfl, D1⟩
              · have D1 := D' false (by simp [hn])
                have d0 : decide (0 ≤ h) = false := by simpa using hn
                go_wp2_with fail
                go_meet
                exact ⟨rfl, D1⟩
          case rest =>
            clear hQ2 hI2 hf hBn r1 h1 cq zq hcn
            obtain ⟨rfl, hQ2, hI2, hf, hBn⟩ := hcut
            obtain ⟨r1, h1⟩ := hf.whole hch
            have HS2 : Hid (((v && (decide (0 ≤ h) && (decide (h ≠ 0) || ez))) && okN zs (34 + 28 * k) 4) = (D && okH zs (k + 1))) := hide (by
              rw [HS.out, ← hve]
              cases D <;> cases okH zs k <;> cases decide (0 ≤ h) <;> cases decide (h ≠ 0) <;> cases ez <;> cases okN zs (34 + 28 * k) 4 <;> rfl)
            clear HS hve
            generalize (v && (decide (0 ≤ h) && (decide (h ≠ 0) || ez))) = v2 at hQ2 HS2
            go_wp2_with fail
            clear r1 h1
            go_loopw [51] (fun i wr => ∃ j : Nat, j ≤ 4 ∧ i = .int .i64 j ∧ Blk wr q 4 #[.bool (v2 && okN zs (34 + 28 * k) j)] ∧ IBlk wr b 28 zs ∧ Below w.heap.size w wr) (fun i _ => 4 - (intOf i).toNat)
            case atStart => exact ⟨0, by omega, rfl, by simpa [okN] using hQ2, hI2, hBn⟩
            case round =>
              clear hQ2 hI2 hBn hf hqs hB
              obtain ⟨j, hj, rfl, hQ, hI, hB⟩ := hrel
              have hqs := hQ.lt
              by_cases hjl : j < 4
              · obtain ⟨hcj, hnx⟩ := HCC.out j hjl
                have hnx := hide (hnx v2)
                have hix := indexCellsF_at (zs := ch) hjl
                generalize (ch.drop (j * 7)).take 7 = cj at hcj hnx hix
                have his : Is 7 cj := hcj
                have hnew : IBlk (wr.alloc (.cells (iA (zeros 7)) 24)) wr.heap.size 24 (zeros 7) := IBlk.new _ _ _
                have hrm := hnew.room 0 7 (by decide)
                have hf := hnew.fill (ys := cj) hcj
                have hO : Only (fun _ => False) wr ((wr.alloc (.cells (iA (zeros 7)) 24)).setCells wr.heap.size 0 (iV cj)) := Only.setCells _ (.inr (Nat.le_refl _)) _ _ ((Only.refl _ _).alloc _)
                have hQ2 := hQ.only hO (fun h => h)
                have hI2 := hI.only hO (fun h => h)
                have hBn := below_only hB hO (fun _ h => h.elim) hB.size
                generalize (v2 && okN zs (34 + 28 * k) j) = v3 at hQ2 hnx
                go_upto_region 15 with fail
                clear hrm hnew hix hO hQ hI
                generalize (wr.alloc (.cells (iA (zeros 7)) 24)).setCells wr.heap.size 0 (iV cj) = w3 at hf hBn hQ2 hI2
                obtain ⟨r1, h1⟩ := hf.whole hcj
                go_wp2_with fail
                (with_reducible refine (cell1_any cj hcj q v3 w3 hQ2).mono ?_)
                rintro e w4 ⟨rfl, hQ4, hO4⟩
                have hI4 := hI2.only hO4 (by omega)
                have hB4 := below_only hBn hO4 (fun i (e : i = q) => by omega) hBn.size
                go_wp2_with fail
                go_roundw
                case rel => exact ⟨j + 1, by omega, by go_num, by rw [hnx.out]; exact hQ4, hI4, hB4⟩
                case measure => simp [intOf]; omega
              · obtain rfl : j = 4 := by omega
                go_wp2_with fail
                go_roundw
                case rel => exact ⟨k + 1, by omega, by go_num, by rw [← HS2.out]; exact hQ, hI, hB⟩
                case measure => simp [intOf]; omega
        · obtain rfl : k = 5 := by omega
          have cq : wr.cell? ⟨q, 0, none⟩ = some (.bool (D && okH zs 5)) := by rw [hQ.cell]; rfl
          rw [← HR2.out] at cq
          go_wp2_with fail
          go_ret
          exact ⟨rfl, hB⟩
end Go.Proofs.Ytmcanjijpdgfeaa
