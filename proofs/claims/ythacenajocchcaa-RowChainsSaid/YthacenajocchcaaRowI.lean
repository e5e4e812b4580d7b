/- The contract of row's Inherit. -/
import Derived.Test.YthacenajocchcaaRowP
namespace Go.Proofs.Ythacenajocchcaa
open Go.RowKit

/-- Whether a machine's row is taken over with the dead one's. -/
def Tk (xs ds : List Int) (i : Nat) : Prop := 0 < ds.getD (29 + i) 0 ∧ xs.getD (29 + i) 0 = 0
instance (xs ds : List Int) (i : Nat) : Decidable (Tk xs ds i) := by unfold Tk; exact inferInstance
def mixH (xs ds : List Int) (k i : Nat) : Int := if i < k ∧ Tk xs ds i then ds.getD (29 + i) 0 else xs.getD (29 + i) 0
def mixL (xs ds : List Int) (k i : Nat) : List Int := if i < k ∧ Tk xs ds i then chunk ds (34 + i * 28) else chunk xs (34 + i * 28)
/-- What Inherit answers. -/
def InhIs (xs ds : List Int) (who : Int) (y : List Int) (er : Int) : Prop :=
  if inK who 5 = true then
    if 0 < xs.getD (29 + who.toNat) 0 then er = 8 ∧ y = zeros 174
    else er = 0 ∧ wf64 y ∧ RowIs y (xs.getD 0 0 + 1) (chunk xs 1) (fun i => if i = who.toNat then ds.getD 0 0 + 1 else mixH xs ds 5 i) (fun i => if i = who.toNat then chunk ds 1 else mixL xs ds 5 i)
  else er = 5 ∧ y = zeros 174
theorem mixH_skip {xs ds : List Int} {k : Nat} (h : ¬ Tk xs ds k) (i : Nat) : mixH xs ds k i = mixH xs ds (k + 1) i := by
  unfold mixH
  by_cases e : i = k
  · subst e; rw [if_neg (fun x => h x.2), if_neg (fun x => h x.2)]
  · by_cases hi : i < k
    · simp [hi, show i < k + 1 by omega]
    · simp [hi, show ¬ i < k + 1 by omega]
theorem mixL_skip {xs ds : List Int} {k : Nat} (h : ¬ Tk xs ds k) (i : Nat) : mixL xs ds k i = mixL xs ds (k + 1) i := by
  unfold mixL
  by_cases e : i = k
  · subst e; rw [if_neg (fun x => h x.2), if_neg (fun x => h x.2)]
  · by_cases hi : i < k
    · simp [hi, show i < k + 1 by omega]
    · simp [hi, show ¬ i < k + 1 by omega]
theorem mixH_take {xs ds : List Int} {k : Nat} (h : Tk xs ds k) (i : Nat) : (if i = k then ds.getD (29 + k) 0 else mixH xs ds k i) = mixH xs ds (k + 1) i := by
  unfold mixH
  by_cases e : i = k
  · subst e; rw [if_pos rfl, if_pos ⟨by omega, h⟩]
  · by_cases hi : i < k
    · simp [hi, show i < k + 1 by omega, e]
    · simp [hi, show ¬ i < k + 1 by omega, e]
theorem mixL_take {xs ds : List Int} {k : Nat} (h : Tk xs ds k) (i : Nat) : (if i = k then chunk ds (34 + k * 28) else mixL xs ds k i) = mixL xs ds (k + 1) i := by
  unfold mixL
  by_cases e : i = k
  · subst e; rw [if_pos rfl, if_pos ⟨by omega, h⟩]
  · by_cases hi : i < k
    · simp [hi, show i < k + 1 by omega, e]
    · simp [hi, show ¬ i < k + 1 by omega, e]

attribute [local go_sem ↓] loadRowF_fold storeRowF_fold buildRowF_fold allocRowF_fold loadInts5F_fold indexInts5F_fold loadCellsF_fold storeCellsF_fold
attribute [local go_sem] loadRowF_has storeRowF_has buildRowF_none allocRowF_run loadInts5F_has indexInts5F_at loadCellsF_has storeCellsF_has
set_option maxRecDepth 100000 in
set_option maxHeartbeats 3200000 in
theorem inherit_any (xs ds : List Int) (who : Int) (hx : xs.length = 174) (hd : ds.length = 174) (wx : wf64 xs) (wd : wf64 ds)
    (vx : 0 ≤ xs.getD 0 0 ∧ xs.getD 0 0 ≤ 2305843009213693952) (vd : 0 ≤ ds.getD 0 0 ∧ ds.getD 0 0 ≤ 2305843009213693952) (w : World) :
    Calls Try.prog 29 #[.agg (iA xs), .int .i64 who, .agg (iA ds)] w fun e w' => (∃ y er, e = .returned (.tuple #[.agg (iA y), .int .i64 er]) ∧ y.length = 174 ∧ InhIs xs ds who y er) ∧ Below w.heap.size w w' := by
  have hI : IBlk (((w.alloc (.cells (iA xs) 53)).alloc (.cells (iA ds) 53)).alloc (.cells (iA (zeros 174)) 53)) w.heap.size 53 xs := ((IBlk.new _ _ _).alloc _).alloc _
  have hD : IBlk (((w.alloc (.cells (iA xs) 53)).alloc (.cells (iA ds) 53)).alloc (.cells (iA (zeros 174)) 53)) (w.heap.size + 1) 53 ds := by
    have := (IBlk.new (w.alloc (.cells (iA xs) 53)) 53 ds).alloc (.cells (iA (zeros 174)) 53)
    simpa using this
  have hJ : IBlk (((w.alloc (.cells (iA xs) 53)).alloc (.cells (iA ds) 53)).alloc (.cells (iA (zeros 174)) 53)) (w.heap.size + 2) 53 (zeros 174) := by
    have := IBlk.new ((w.alloc (.cells (iA xs) 53)).alloc (.cells (iA ds) 53)) 53 (zeros 174)
    simpa using this
  have hB : Below w.heap.size w (((w.alloc (.cells (iA xs) 53)).alloc (.cells (iA ds) 53)).alloc (.cells (iA (zeros 174)) 53)) := (((Below.refl _ _).alloc (Nat.le_refl _) _).alloc (by simp) _).alloc (by simp; omega) _
  have iz := is_zeros 174
  have hi174 := Try.infoRow
  have HX := hide hx
  have HD := hide hd
  go_enter Try.func29, Try.ntmps29
  go_upto_region 1 with fail
  generalize ((w.alloc (.cells (iA xs) 53)).alloc (.cells (iA ds) 53)).alloc (.cells (iA (zeros 174)) 53) = w1 at hI hD hJ hB
  have hrm := hJ.room 0 174 (by rw [zeros_length]; decide)
  have hJz := hJ.fill (ys := zeros 174) rfl
  have hBz : Below w.heap.size w (w1.setCells (w.heap.size + 2) 0 (iV (zeros 174))) := below_only hB (only_cells _ _ _ _) (fun i (e : i = w.heap.size + 2) => by omega) hB.size
  by_cases hk : inK who 5 = true
  · obtain ⟨q, rfl⟩ : ∃ q : Nat, who = (q : Int) := ⟨who.toNat, by have := inK_true.1 hk; omega⟩
    have hq5 : q < 5 := by have := (inK_true.1 hk).2; omega
    have HS : ∀ y er, (if 0 < xs.getD (29 + q) 0 then er = 8 ∧ y = zeros 174 else er = 0 ∧ wf64 y ∧ RowIs y (xs.getD 0 0 + 1) (chunk xs 1) (fun i => if i = q then ds.getD 0 0 + 1 else mixH xs ds 5 i) (fun i => if i = q then chunk ds 1 else mixL xs ds 5 i)) → InhIs xs ds (q : Int) y er := fun y er h => by
      rw [InhIs, if_pos hk]; exact h
    have HS := hide HS
    have cq : w1.cell? ⟨w.heap.size, 29 + q, none⟩ = some (.int .i64 (xs.getD (29 + q) 0)) := hI.cell (by omega)
    go_wp2_with fail
    (with_reducible refine (within_any q 5 w1).mono ?_)
    rintro e w' ⟨rfl, rfl⟩
    rw [hk]
    clear hk
    by_cases hb : 0 < xs.getD (29 + q) 0
    · have HE := hide (HS.out (zeros 174) 8 (by rw [if_pos hb]; exact ⟨rfl, rfl⟩))
      generalize xs.getD (29 + q) 0 = hq at cq hb
      clear HS
      go_wp2_with fail
      exact bodyPost_ret (results_i2 rfl rfl hJz Try.underlying53 rfl hi174 _ rfl) rfl ⟨⟨_, _, rfl, zeros_length 174, HE.out⟩, hBz⟩
    · have hdb : decide (0 < xs.getD (29 + q) 0) = false := decide_eq_false hb
      have HS2 : Hid (∀ y, wf64 y → RowIs y (xs.getD 0 0 + 1) (chunk xs 1) (fun i => if i = q then ds.getD 0 0 + 1 else mixH xs ds 5 i) (fun i => if i = q then chunk ds 1 else mixL xs ds 5 i) → InhIs xs ds (q : Int) y 0) := hide fun y h1 h2 => HS.out y 0 (by rw [if_neg hb]; exact ⟨rfl, h1, h2⟩)
      clear HS hrm hJz hBz
      obtain ⟨r5, h5⟩ := hD.got 29 5 (by omega)
      have hl5 : Is 5 ((ds.drop 29).take 5) := by show _ = _; rw [List.length_take, List.length_drop, hd]; rfl
      have HG5 : Hid (∀ k, k < 5 → ((ds.drop 29).take 5).getD k 0 = ds.getD (29 + k) 0) := hide fun k hk => getD_part ds 29 5 k hk
      generalize (ds.drop 29).take 5 = hs5 at r5 hl5 HG5
      have hR0 : RowIs xs (xs.getD 0 0) (chunk xs 1) (mixH xs ds 0) (mixL xs ds 0) := (rowIs_self hx).congr (fun i _ => by simp [mixH]) (fun i _ => by simp [mixL])
      have hvv := vx
      generalize xs.getD 0 0 = v at hR0 HS2 hvv
      generalize chunk xs 1 = cs at hR0 HS2
      have HWX := hide wx
      have HWD := hide wd
      have HVD := hide vd
      clear vx vd wx wd hd
      generalize hxq : xs.getD (29 + q) 0 = xq at cq hdb
      go_wp2_with fail
      clear cq hdb r5 h5 hxq
      go_loopw [22] (fun i wr => ∃ (k : Nat) (y : List Int), k ≤ 5 ∧ i = .int .i64 k ∧ IBlk wr w.heap.size 53 y ∧ Hid (RowIs y v cs (mixH xs ds k) (mixL xs ds k)) ∧ Hid (wf64 y) ∧ IBlk wr (w.heap.size + 1) 53 ds ∧ IBlk wr (w.heap.size + 2) 53 (zeros 174) ∧ Below w.heap.size w wr) (fun i _ => 5 - (intOf i).toNat)
      case atStart => exact ⟨0, xs, by omega, rfl, hI, hR0, HWX, hD, hJ, hB⟩
      case round =>
        clear hI hR0 hD hJ hB hx hb HWX
        obtain ⟨k, y, hk, rfl, hI, HR, HW, hD, hJ, hB⟩ := hrel
        have hyl := HR.out.len
        by_cases hlt : k < 5
        · have hix := indexInts5F_at (l := hs5) hlt hl5
          rw [HG5.out k hlt] at hix
          have hyk : y.getD (29 + k) 0 = xs.getD (29 + k) 0 := by rw [HR.out.heir k hlt, mixH, if_neg (by omega)]
          have c0 : wr.cell? ⟨w.heap.size, 29 + k, none⟩ = some (.int .i64 (xs.getD (29 + k) 0)) := by rw [← hyk]; exact hI.cell (by omega)
          by_cases ht : Tk xs ds k
          · obtain ⟨t1, t2⟩ := ht
            have ht : Tk xs ds k := ⟨t1, t2⟩
            have hmH := mixH_take ht
            have hmL := mixL_take ht
            rw [t2] at c0
            have hcl : (chunk ds (34 + k * 28)).length = 28 := chunk_length (by rw [HD.out]; omega)
            have hcw : wf64 (chunk ds (34 + k * 28)) := wf64_chunk HWD.out _ _
            have hb64 := wf_bd HWD.out (29 + k) (by rw [HD.out]; omega)
            obtain ⟨rc, hc⟩ := hD.drew.got (34 + k * 28) 28 (by rw [HD.out]; omega)
            rw [show (ds.drop (34 + k * 28)).take 28 = chunk ds (34 + k * 28) from rfl] at rc
            have c0d : wr.drew.cell? ⟨w.heap.size, 29 + k, none⟩ = some (.int .i64 0) := c0
            have z0 := hI.drew.frozen (29 + k)
            have hI1 := hI.drew.set (29 + k) (ds.getD (29 + k) 0)
            have hrm : Room ((wr.setCell ⟨w.heap.size, 29 + k, none⟩ (.int .i64 (ds.getD (29 + k) 0))).drew) w.heap.size (34 + k * 28) 28 := hI1.room _ _ (by rw [List.length_set]; omega)
            have hD1 := (hD.only (only_cell wr w.heap.size (29 + k) (.int .i64 (ds.getD (29 + k) 0))) (by show ¬ w.heap.size + 1 = w.heap.size; omega)).drew
            obtain ⟨rc1, hc1⟩ := hD1.got (34 + k * 28) 28 (by rw [HD.out]; omega)
            rw [show (ds.drop (34 + k * 28)).take 28 = chunk ds (34 + k * 28) from rfl] at rc1
            clear hD1
            have hI2 := hI1.setN (o := 34 + k * 28) (xs := chunk ds (34 + k * 28)) (by rw [List.length_set]; omega)
            have hR2 := (HR.out.setH hlt (ds.getD (29 + k) 0)).putL hlt hcl
            have hR3 := hide (hR2.congr (fun i _ => hmH i) (fun i _ => hmL i))
            have hW3 := hide (wf_put (wf_set HW.out (i := 29 + k) hb64) hcw (34 + k * 28) (34 + k * 28 + (chunk ds (34 + k * 28)).length))
            have hO := (((Only.refl (· = w.heap.size) wr).drew).setCell (p := ⟨w.heap.size, 29 + k, none⟩) (.inl rfl) (.int .i64 (ds.getD (29 + k) 0))).trans_ (only_cells _ w.heap.size (34 + k * 28) (iV (chunk ds (34 + k * 28))))
            have hD2 := hD.only hO (by show ¬ w.heap.size + 1 = w.heap.size; omega)
            have hJ2 := hJ.only hO (by show ¬ w.heap.size + 2 = w.heap.size; omega)
            have hB2 := below_only hB hO (fun i (e : i = w.heap.size) => by omega) hB.size
            have hic : Is 28 (chunk ds (34 + k * 28)) := hcl
            clear hR2 hcw hb64 hmH hmL hyk HR HW ht hI1 hO hyl t2
            generalize ds.getD (29 + k) 0 = dh at *
            generalize hch : chunk ds (34 + k * 28) = ch at *
            generalize ((y.set (29 + k) dh).take (34 + k * 28) ++ ch ++ (y.set (29 + k) dh).drop (34 + k * 28 + ch.length)) = y2 at *
            clear hch
            go_wp2_with fail
            go_region
            all_goals
              go_wp2_with fail
              go_roundw
              case rel => exact ⟨k + 1, y2, by omega, by go_num, hI2, hR3, hW3, hD2, hJ2, hB2⟩
              case measure => simp [intOf]; omega
          · have hR2 := hide (HR.out.congr (fun i _ => mixH_skip ht i) (fun i _ => mixL_skip ht i))
            by_cases t1 : 0 < ds.getD (29 + k) 0
            · have t2 : ¬ xs.getD (29 + k) 0 = 0 := fun e => ht ⟨t1, e⟩
              have hq2 : (xs.getD (29 + k) 0 == 0) = false := by simpa using t2
              clear ht t2 hyk
              generalize ds.getD (29 + k) 0 = dh at *
              generalize xs.getD (29 + k) 0 = xh at *
              go_wp2_with fail
              go_roundw
              case rel => exact ⟨k + 1, y, by omega, by go_num, hI, hR2, HW, hD, hJ, hB⟩
              case measure => simp [intOf]; omega
            · have hq1 : decide (0 < ds.getD (29 + k) 0) = false := decide_eq_false t1
              clear ht t1 hyk
              generalize ds.getD (29 + k) 0 = dh at *
              generalize xs.getD (29 + k) 0 = xh at *
              go_wp2_with fail
              go_roundw
              case rel => exact ⟨k + 1, y, by omega, by go_num, hI, hR2, HW, hD, hJ, hB⟩
              case measure => simp [intOf]; omega
        · obtain rfl : k = 5 := by omega
          have hvd := HVD.out
          have hcl : (chunk ds 1).length = 28 := chunk_length (by rw [HD.out]; omega)
          have hcw : wf64 (chunk ds 1) := wf64_chunk HWD.out _ _
          obtain ⟨rc, hc⟩ := hD.drew.got 1 28 (by rw [HD.out]; omega)
          rw [show (ds.drop 1).take 28 = chunk ds 1 from rfl] at rc
          have cv : wr.drew.cell? ⟨w.heap.size + 1, 0, none⟩ = some (.int .i64 (ds.getD 0 0)) := hD.drew.cell (by rw [HD.out]; omega)
          have c0 : wr.drew.cell? ⟨w.heap.size, 29 + q, none⟩ = some (.int .i64 (y.getD (29 + q) 0)) := hI.drew.cell (by omega)
          have z0 := hI.drew.frozen (29 + q)
          have hI1 := hI.drew.set (29 + q) (ds.getD 0 0 + 1)
          have hrm : Room ((wr.setCell ⟨w.heap.size, 29 + q, none⟩ (.int .i64 (ds.getD 0 0 + 1))).drew) w.heap.size (34 + q * 28) 28 := hI1.room _ _ (by rw [List.length_set]; omega)
          have hD1 := (hD.only (only_cell wr w.heap.size (29 + q) (.int .i64 (ds.getD 0 0 + 1))) (by show ¬ w.heap.size + 1 = w.heap.size; omega)).drew
          obtain ⟨rc1, hc1⟩ := hD1.got 1 28 (by rw [HD.out]; omega)
          rw [show (ds.drop 1).take 28 = chunk ds 1 from rfl] at rc1
          have cv1 : (wr.setCell ⟨w.heap.size, 29 + q, none⟩ (.int .i64 (ds.getD 0 0 + 1))).drew.cell? ⟨w.heap.size + 1, 0, none⟩ = some (.int .i64 (ds.getD 0 0)) := hD1.cell (by rw [HD.out]; omega)
          clear hD1
          have hI2 := hI1.setN (o := 34 + q * 28) (xs := chunk ds 1) (by rw [List.length_set]; omega)
          have hR2 := ((HR.out.setH hq5 (ds.getD 0 0 + 1)).putL hq5 hcl).setV (v + 1)
          have hW2 := wf_set (wf_put (wf_set HW.out (i := 29 + q) (x := ds.getD 0 0 + 1) (by omega)) hcw (34 + q * 28) (34 + q * 28 + (chunk ds 1).length)) (i := 0) (x := v + 1) (by omega)
          have hv2 := ((HR.out.setH hq5 (ds.getD 0 0 + 1)).putL hq5 hcl).ver
          have hl2 := ((HR.out.setH hq5 (ds.getD 0 0 + 1)).putL hq5 hcl).len
          have HE := hide (HS2.out _ hW2 hR2)
          have hO := (((Only.refl (· = w.heap.size) wr).drew).setCell (p := ⟨w.heap.size, 29 + q, none⟩) (.inl rfl) (.int .i64 (ds.getD 0 0 + 1))).trans_ (only_cells _ w.heap.size (34 + q * 28) (iV (chunk ds 1)))
          have hJ2 := hJ.only hO (by show ¬ w.heap.size + 2 = w.heap.size; omega)
          have hB2 := below_only hB hO (fun i (e : i = w.heap.size) => by omega) hB.size
          have hic : Is 28 (chunk ds 1) := hcl
          clear hR2 hcw hW2 HR HW hI1 hO hyl HS2
          generalize y.getD (29 + q) 0 = yq at *
          generalize ds.getD 0 0 = dv at *
          generalize chunk ds 1 = ch at *
          generalize ((y.set (29 + q) (dv + 1)).take (34 + q * 28) ++ ch ++ (y.set (29 + q) (dv + 1)).drop (34 + q * 28 + ch.length)) = y2 at *
          go_upto_region 11 with fail
          go_cut [22] (fun s22 wx => s22 = s22 ∧ IBlk wx w.heap.size 53 y2 ∧ IBlk wx (w.heap.size + 2) 53 (zeros 174) ∧ Below w.heap.size w wx)
          case first =>
            go_region
            all_goals
              go_wp2_with fail
              go_meet
              exact ⟨trivial, hI2, hJ2, hB2⟩
          case rest =>
            clear hI2 hJ2 hB2 cv c0 z0 hrm rc hc hI hD hJ hB
            obtain ⟨_, hI, hJ, hB⟩ := hcut
            have c0 : wc.cell? ⟨w.heap.size, 0, none⟩ = some (.int .i64 v) := by rw [← hv2]; exact hI.cell (by omega)
            have z0 := hI.frozen 0
            have hI3 := hI.set 0 (v + 1)
            have hO3 := only_cell wc w.heap.size 0 (.int .i64 (v + 1))
            have hJ3 := hJ.only hO3 (by show ¬ w.heap.size + 2 = w.heap.size; omega)
            have hB3 := below_only hB hO3 (fun i (e : i = w.heap.size) => by omega) hB.size
            have hl3 : (y2.set 0 (v + 1)).length = 174 := by rw [List.length_set]; exact hl2
            go_upto_region 13 with fail
            clear c0 z0 hO3 hI hJ hB
            generalize wc.setCell ⟨w.heap.size, 0, none⟩ (.int .i64 (v + 1)) = w5 at hI3 hJ3 hB3
            generalize y2.set 0 (v + 1) = y3 at *
            have hi3 : Is 174 y3 := hl3
            obtain ⟨r1, h1'⟩ := hI3.whole hl3
            have hrm := hJ3.room 0 174 (by rw [zeros_length]; decide)
            have hJz := hJ3.fill (ys := y3) (by rw [hl3, zeros_length])
            have hBz : Below w.heap.size w (w5.setCells (w.heap.size + 2) 0 (iV y3)) := below_only hB3 (only_cells _ _ _ _) (fun i (e : i = w.heap.size + 2) => by omega) hB3.size
            go_wp2_with fail
            exact bodyPost_ret (results_i2 rfl rfl hJz Try.underlying53 rfl (by rw [hl3]; exact hi174) _ rfl) rfl ⟨⟨_, _, rfl, hl3, HE.out⟩, hBz⟩
  · have HE := hide (show InhIs xs ds who (zeros 174) 5 by rw [InhIs, if_neg hk]; exact ⟨rfl, rfl⟩)
    rw [Bool.not_eq_true] at hk
    go_wp2_with fail
    (with_reducible refine (within_any who 5 w1).mono ?_)
    rintro e w' ⟨rfl, rfl⟩
    rw [hk]
    go_wp2_with fail
    exact bodyPost_ret (results_i2 rfl rfl hJz Try.underlying53 rfl hi174 _ rfl) rfl ⟨⟨_, _, rfl, zeros_length 174, HE.out⟩, hBz⟩
/-- A row that is stored in a variable of its own. -/
theorem layRow {w : World} {B : Nat} {a : World} {g : List Int} (hB : Below B a w) (hg : g.length = 174) (h : B ≤ w.heap.size) :
    Room (w.alloc (.cells (iA (zeros 174)) 53)) w.heap.size 0 174 ∧ IBlk ((w.alloc (.cells (iA (zeros 174)) 53)).setCells w.heap.size 0 (iV g)) w.heap.size 53 g ∧
      Only (fun _ => False) w ((w.alloc (.cells (iA (zeros 174)) 53)).setCells w.heap.size 0 (iV g)) ∧ Below B a ((w.alloc (.cells (iA (zeros 174)) 53)).setCells w.heap.size 0 (iV g)) := by
  have hnew : IBlk (w.alloc (.cells (iA (zeros 174)) 53)) w.heap.size 53 (zeros 174) := IBlk.new _ _ _
  have hO : Only (fun _ => False) w ((w.alloc (.cells (iA (zeros 174)) 53)).setCells w.heap.size 0 (iV g)) := Only.setCells _ (.inr (Nat.le_refl _)) _ _ ((Only.refl _ _).alloc _)
  exact ⟨hnew.room 0 174 (by rw [zeros_length]; decide), hnew.fill (by rw [hg, zeros_length]), hO, below_only hB hO (fun _ e => e.elim) h⟩
theorem InhIs.yes {xs ds : List Int} {q : Nat} {y : List Int} {er : Int} (h : InhIs xs ds (q : Int) y er) (hq : q < 5) (hn : ¬ 0 < xs.getD (29 + q) 0) :
    er = 0 ∧ wf64 y ∧ RowIs y (xs.getD 0 0 + 1) (chunk xs 1) (fun i => if i = q then ds.getD 0 0 + 1 else mixH xs ds 5 i) (fun i => if i = q then chunk ds 1 else mixL xs ds 5 i) := by
  rw [InhIs, if_pos (inK_true.2 ⟨by omega, by omega⟩), show (q : Int).toNat = q by omega, if_neg hn] at h
  exact h
theorem InhIs.busy {xs ds : List Int} {q : Nat} {y : List Int} {er : Int} (h : InhIs xs ds (q : Int) y er) (hq : q < 5) (hn : 0 < xs.getD (29 + q) 0) : er = 8 ∧ y = zeros 174 := by
  rw [InhIs, if_pos (inK_true.2 ⟨by omega, by omega⟩), show (q : Int).toNat = q by omega, if_pos hn] at h
  exact h
theorem okRow_h {zs : List Int} (hl : zs.length = 174) (h : okRow zs = true) {k : Nat} (hk : k < 5) : 0 ≤ zs.getD (29 + k) 0 := (((rowIs_self hl).ok.1 h).2.2 k hk).1
end Go.Proofs.Ythacenajocchcaa
