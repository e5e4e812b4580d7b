/- The contracts of row's Inc and Give (for rows that may be). -/
import Derived.Test.YtmcanjijpdgfeaaRowL
namespace Go.Proofs.Ytmcanjijpdgfeaa
open Go.RowKit

/-! ### plain -/
theorem addF_bd : ∀ (gs : List Int) (s : Int), (addF s gs).2 = 0 → ∀ j, j < gs.length → 0 ≤ gs.getD j 0 ∧ gs.getD j 0 ≤ 1099511627776
  | [], _, _, j, hj => by simp at hj
  | g :: gs, s, h, j, hj => by
    by_cases hb : g < 0 ∨ 1099511627776 < g
    · rw [addF_bad _ _ _ hb] at h; simp at h
    · by_cases ho : 1099511627776 < s + g
      · rw [addF_over _ _ _ (by omega) (by omega) ho] at h; simp at h
      · rw [addF_step _ _ _ (by omega) (by omega) (by omega)] at h
        cases j with
        | zero => simp; omega
        | succ j =>
          have := addF_bd gs _ h j (by simpa using hj)
          simpa using this
theorem okC_bd {c : List Int} (hl : c.length = 7) (h : okC c = true) : ∀ j, j < 7 → 0 ≤ c.getD j 0 ∧ c.getD j 0 ≤ 1099511627776 := by
  intro j hj
  simp only [okC, Bool.and_eq_true, inN_true, beq_iff_eq] at h
  obtain ⟨⟨h1, h2⟩, h3⟩ := h
  rcases (by omega : j = 0 ∨ j = 1 ∨ 2 ≤ j) with rfl | rfl | h2j
  · exact h2
  · exact h3
  · have := addF_bd _ _ h1 (j - 2) (by rw [List.length_take, List.length_drop, hl]; omega)
    rw [getD_part _ _ _ _ (by omega), show 2 + (j - 2) = j by omega] at this
    exact this
theorem okRow_v {zs : List Int} (h : okRow zs = true) : 0 ≤ zs.getD 0 0 := by
  simp only [okRow, Bool.and_eq_true, decide_eq_true_eq] at h
  exact h.1.1
theorem okN_at {zs : List Int} {o k n : Nat} (h : okN zs o n = true) (hk : k < n) : okC ((zs.drop (o + 7 * k)).take 7) = true := by
  obtain ⟨j, rfl⟩ : ∃ j, n = (k + 1) + j := ⟨n - (k + 1), by omega⟩
  have := okN_mono h
  rw [okN, Bool.and_eq_true] at this
  exact this.2
theorem okRow_c {zs : List Int} (h : okRow zs = true) {k : Nat} (hk : k < 4) : okC ((zs.drop (1 + k * 7)).take 7) = true := by
  simp only [okRow, Bool.and_eq_true, decide_eq_true_eq] at h
  rw [Nat.mul_comm]
  exact okN_at h.1.2 hk
theorem okRow_cell {zs : List Int} (hl : zs.length = 174) (h : okRow zs = true) {k f : Nat} (hk : k < 4) (hf : f < 7) : 0 ≤ zs.getD (1 + k * 7 + f) 0 ∧ zs.getD (1 + k * 7 + f) 0 ≤ 1099511627776 := by
  have := okC_bd (by rw [List.length_take, List.length_drop, hl]; omega) (okRow_c h hk) f hf
  rwa [getD_part _ _ _ _ hf] at this
/-- A row with n more in one number of a cell. -/
def chg (zs : List Int) (k f : Nat) (n : Int) : List Int := zs.set (1 + k * 7 + f) (zs.getD (1 + k * 7 + f) 0 + n)
theorem chg_length (zs : List Int) (k f : Nat) (n : Int) : (chg zs k f n).length = zs.length := by simp [chg]
def cellOf (zs : List Int) (k : Nat) : List Int := (zs.drop (1 + k * 7)).take 7
def bump (zs : List Int) (v : Int) : List Int := zs.set 0 (v + 1)
/-- What a change of a row answers. -/
def growV (zs : List Int) (key n : Int) (f : Nat) : List Int × Int :=
  if inK key 4 = true ∧ 1 ≤ n ∧ inN n = true then
    if okC (cellOf (chg zs key.toNat f n) key.toNat) = true then (bump (chg zs key.toNat f n) (zs.getD 0 0), 0) else (zeros 174, 6)
  else (zeros 174, 5)

/-- Two results, the first in a variable. -/
theorem results_i2 {P : Program} {fn : Func} {s1 s2 : Tmp} {ty : TypeId} (h : fn.results = #[.cell s1 ty, .tmp s2]) {tmps : Array Value} {w : World} {b : Nat} {t : TypeId} {zs : List Int} (hs : tmps.getD s1 undef = .pointer (some ⟨b, 0, none⟩)) (hI : IBlk w b t zs)
    {d : TypeDesc} (hu : P.underlying ty = some d) (hd : d.isRow = true) (hi : (P.info? ty).map (·.size) = some zs.length) (v : Value) (hv : tmps.getD s2 undef = v) : (results fn tmps).run P w = .ok (.tuple #[.agg (iA zs), v]) w := by
  have hl := run_loadVar_mid (P := P) w b 0 ty (iV zs) d (by have := hI.part 0 zs.length; rwa [List.drop_zero, List.take_of_length_le (Nat.le_refl _)] at this) hu hd (by rw [iV_length]; exact hi)
  have hs' : tmps[s1]?.getD undef = .pointer (some ⟨b, 0, none⟩) := by simpa using hs
  have hv' : tmps[s2]?.getD undef = v := by simpa using hv
  simp [results, h, hs', hv', asAddr, hl, iA]

attribute [local go_sem ↓] loadRowF_fold storeRowF_fold buildRowF_fold allocRowF_fold loadCellF_fold
attribute [local go_sem] loadRowF_has storeRowF_has buildRowF_none allocRowF_run loadCellF_has
set_option maxRecDepth 100000 in
set_option maxHeartbeats 3200000 in
theorem grow_any (F : Nat) (cap : Array Value) (hF : ∀ (args : Array Value) (w : World), (callFunc F args).run Try.prog w = .ok (.enter F args) w) (f : Nat) (hf : f < 7)
    (zs : List Int) (hl : zs.length = 174) (hok : okRow zs = true) (hv : zs.getD 0 0 ≤ 1152921504606846976) (key n : Int) (w : World)
    (hcall : ∀ w1 b o, Below w.heap.size w w1 → Calls Try.prog F (#[.pointer (some ⟨b, o, none⟩)] ++ cap) w1 fun e w' => e = .returned (.pointer (some ⟨b, o + f, none⟩)) ∧ Below w1.heap.size w1 w') :
    Calls Try.prog 12 #[.agg (iA zs), .int .i64 key, .int .i64 n, .func (.func F) #[] cap] w fun e w' => e = .returned (.tuple #[.agg (iA (growV zs key n f).1), .int .i64 (growV zs key n f).2]) ∧ Below w.heap.size w w' := by
  have HL := hide hl
  have hI : IBlk ((w.alloc (.cells (iA zs) 28)).alloc (.cells (iA (zeros 174)) 28)) w.heap.size 28 zs := (IBlk.new _ _ _).alloc _
  have hJ : IBlk ((w.alloc (.cells (iA zs) 28)).alloc (.cells (iA (zeros 174)) 28)) (w.heap.size + 1) 28 (zeros 174) := by
    have := IBlk.new (w.alloc (.cells (iA zs) 28)) 28 (zeros 174)
    simpa using this
  have hB : Below w.heap.size w ((w.alloc (.cells (iA zs) 28)).alloc (.cells (iA (zeros 174)) 28)) := ((Below.refl _ _).alloc (Nat.le_refl _) _).alloc (by simp) _
  have HG : Hid (∀ r, r = growV zs key n f → r = if inK key 4 = true ∧ 1 ≤ n ∧ inN n = true then
    if okC (cellOf (chg zs key.toNat f n) key.toNat) = true then (bump (chg zs key.toNat f n) (zs.getD 0 0), 0) else (zeros 174, 6)
  else (zeros 174, 5)) := hide fun r h => h
  generalize growV zs key n f = gv at HG
  have HG2 : Hid (gv = if inK key 4 = true ∧ 1 ≤ n ∧ inN n = true then
    if okC (cellOf (chg zs key.toNat f n) key.toNat) = true then (bump (chg zs key.toNat f n) (zs.getD 0 0), 0) else (zeros 174, 6)
  else (zeros 174, 5)) := hide (HG.out _ rfl)
  clear HG
  have iz := is_zeros 174
  go_enter Try.func12, Try.ntmps12
  go_upto_region 1 with fail
  generalize (w.alloc (.cells (iA zs) 28)).alloc (.cells (iA (zeros 174)) 28) = w1 at hI hJ hB
  have hrm := hJ.room 0 174 (by rw [zeros_length]; decide)
  have hJz := hJ.fill (ys := zeros 174) rfl
  have hBz : Below w.heap.size w (w1.setCells (w.heap.size + 1) 0 (iV (zeros 174))) := below_only hB (only_cells _ _ _ _) (fun i (e : i = w.heap.size + 1) => by omega) hB.size
  have hi174 := Try.infoRow
  have bad : ∀ (tmps : Array Value), tmps.getD 8 undef = .pointer (some ⟨w.heap.size + 1, 0, none⟩) → ∀ v, tmps.getD 9 undef = v → (results Try.f12 tmps).run Try.prog (w1.setCells (w.heap.size + 1) 0 (iV (zeros 174))) = .ok (.tuple #[.agg (iA (zeros 174)), v]) (w1.setCells (w.heap.size + 1) 0 (iV (zeros 174))) := fun tmps h8 v h9 =>
    results_i2 rfl h8 hJz Try.underlying28 rfl hi174 v h9
  by_cases hk : inK key 4 = true
  · by_cases h1 : 1 ≤ n
    · by_cases hn : inN n = true
      · obtain ⟨k, rfl⟩ : ∃ k : Nat, key = (k : Int) := ⟨key.toNat, by have := inK_true.1 hk; omega⟩
        have hk4 : k < 4 := by have := (inK_true.1 hk).2; omega
        have hnb := inN_true.1 hn
        have hx := okRow_cell hl hok hk4 hf
        have hv0 := okRow_v hok
        have HG3 : Hid (gv = if okC (cellOf (chg zs k f n) k) = true then (bump (chg zs k f n) (zs.getD 0 0), 0) else (zeros 174, 6)) := hide (by
          rw [HG2.out, if_pos ⟨hk, h1, hn⟩]; rfl)
        clear HG2 hrm hJz hBz bad
        go_wp2_with fail
        (with_reducible refine (within_any k 4 w1).mono ?_)
        rintro e w' ⟨rfl, rfl⟩
        rw [hk]
        go_wp2_with fail
        (with_reducible refine (right_any n w1).mono ?_)
        rintro e w' ⟨rfl, rfl⟩
        rw [hn]
        go_upto_region 3 with fail
        have hen := hF
        have HC := hcall w1 w.heap.size (1 + k * 7) hB
        clear hk hn hcall
        go_wp2_with fail
        (with_reducible refine HC.mono ?_)
        rintro e w2 ⟨rfl, hb2⟩
        have hI2 := hI.below hb2 hI.lt
        have hJ2 := hJ.below hb2 hJ.lt
        have hB2 := hB.trans (hb2.mono hB.size)
        have c0 : w2.cell? ⟨w.heap.size, 1 + k * 7 + f, none⟩ = some (.int .i64 (zs.getD (1 + k * 7 + f) 0)) := hI2.cell (by rw [HL.out]; omega)
        have z0 := hI2.frozen (1 + k * 7 + f)
        have hI3 := hI2.set (1 + k * 7 + f) (zs.getD (1 + k * 7 + f) 0 + n)
        rw [show zs.set (1 + k * 7 + f) (zs.getD (1 + k * 7 + f) 0 + n) = chg zs k f n from rfl] at hI3
        have hO3 := only_cell w2 w.heap.size (1 + k * 7 + f) (.int .i64 (zs.getD (1 + k * 7 + f) 0 + n))
        have hJ3 := hJ2.only hO3 (by show ¬ w.heap.size + 1 = w.heap.size; omega)
        have hB3 := below_only hB2 hO3 (fun i (e : i = w.heap.size) => by omega) hB2.size
        have hlc : (chg zs k f n).length = 174 := by rw [chg_length, HL.out]
        have hvc : (chg zs k f n).getD 0 0 = zs.getD 0 0 := by rw [chg, getD_set (by rw [HL.out]; omega), if_neg (by omega)]
        clear hI hJ hB HC hb2 hI2 hJ2
        generalize zs.getD (1 + k * 7 + f) 0 = x at c0 hI3 hO3 hJ3 hB3 hx
        have hxn : x + n ≤ 9223372036854775807 := by omega
        go_upto_region 4 with fail
        clear c0 z0 hO3
        generalize w2.setCell ⟨w.heap.size, 1 + k * 7 + f, none⟩ (.int .i64 (x + n)) = w3 at hI3 hJ3 hB3
        generalize zs.getD 0 0 = v at hv hv0 hvc HG3
        generalize chg zs k f n = zc at hI3 HG3 hlc hvc
        have HZ := hide hlc
        obtain ⟨r1, h1'⟩ := hI3.got (1 + k * 7) 7 (by omega)
        have hcc : (cellOf zc k).length = 7 := by rw [cellOf, List.length_take, List.length_drop]; omega
        rw [show (zc.drop (1 + k * 7)).take 7 = cellOf zc k from rfl] at r1
        generalize cellOf zc k = ch at r1 hcc HG3
        have HC := rightCell_any ch hcc w3
        clear hcc hlc
        go_wp2_with fail
        (with_reducible refine HC.mono ?_)
        rintro e w4 ⟨rfl, hb4⟩
        have hI4 := hI3.below hb4 hI3.lt
        have hJ4 := hJ3.below hb4 hJ3.lt
        have hB4 := hB3.trans (hb4.mono hB3.size)
        clear hI3 hJ3 hB3 hb4 HC r1 h1'
        cases hoc : okC ch with
        | true =>
          have HG4 : Hid (gv = (bump zc v, 0)) := hide (by rw [HG3.out, hoc]; rfl)
          clear HG3 hoc
          have c0 : w4.cell? ⟨w.heap.size, 0, none⟩ = some (.int .i64 v) := by rw [← hvc]; exact hI4.cell (by rw [HZ.out]; decide)
          have z0 := hI4.frozen 0
          have hI5 := hI4.set 0 (v + 1)
          rw [show zc.set 0 (v + 1) = bump zc v from rfl] at hI5
          have hO5 := only_cell w4 w.heap.size 0 (.int .i64 (v + 1))
          have hJ5 := hJ4.only hO5 (by show ¬ w.heap.size + 1 = w.heap.size; omega)
          have hB5 := below_only hB4 hO5 (fun i (e : i = w.heap.size) => by omega) hB4.size
          have hlb : (bump zc v).length = 174 := by rw [bump, List.length_set, HZ.out]
          have hib : Is 174 (bump zc v) := hlb
          go_upto_region 7 with fail
          clear c0 z0 hI4 hJ4 hB4 hO5
          generalize w4.setCell ⟨w.heap.size, 0, none⟩ (.int .i64 (v + 1)) = w5 at hI5 hJ5 hB5
          generalize bump zc v = zb at hI5 hlb hib HG4
          obtain ⟨r1, h1'⟩ := hI5.whole hlb
          have hrm := hJ5.room 0 174 (by rw [zeros_length]; decide)
          have hJz := hJ5.fill (ys := zb) (by rw [hlb, zeros_length])
          have hBz : Below w.heap.size w (w5.setCells (w.heap.size + 1) 0 (iV zb)) := below_only hB5 (only_cells _ _ _ _) (fun i (e : i = w.heap.size + 1) => by omega) hB5.size
          go_wp2_with fail
          refine bodyPost_ret (results_i2 rfl rfl hJz Try.underlying28 rfl (by rw [hlb]; exact hi174) _ rfl) rfl ⟨?_, hBz⟩
          rw [HG4.out]
          rfl
        | false =>
          have HG4 : Hid (gv = (zeros 174, 6)) := hide (by rw [HG3.out, hoc]; rfl)
          clear HG3 hoc
          have hrm := hJ4.room 0 174 (by rw [zeros_length]; decide)
          have hJz := hJ4.fill (ys := zeros 174) rfl
          have hBz : Below w.heap.size w (w4.setCells (w.heap.size + 1) 0 (iV (zeros 174))) := below_only hB4 (only_cells _ _ _ _) (fun i (e : i = w.heap.size + 1) => by omega) hB4.size
          go_wp2_with fail
          refine bodyPost_ret (results_i2 rfl rfl hJz Try.underlying28 rfl hi174 _ rfl) rfl ⟨?_, hBz⟩
          rw [HG4.out]
          rfl
      · have HG3 : Hid (gv = (zeros 174, 5)) := hide (by rw [HG2.out, if_neg (fun h => hn h.2.2)])
        rw [Bool.not_eq_true] at hn
        go_wp2_with fail
        (with_reducible refine (within_any key 4 w1).mono ?_)
        rintro e w' ⟨rfl, rfl⟩
        rw [hk]
        go_wp2_with fail
        (with_reducible refine (right_any n w1).mono ?_)
        rintro e w' ⟨rfl, rfl⟩
        rw [hn]
        go_wp2_with fail
        refine bodyPost_ret (bad _ rfl _ rfl) rfl ⟨?_, hBz⟩
        rw [HG3.out]
        rfl
    · have HG3 : Hid (gv = (zeros 174, 5)) := hide (by rw [HG2.out, if_neg (fun h => h1 h.2.1)])
      go_wp2_with fail
      (with_reducible refine (within_any key 4 w1).mono ?_)
      rintro e w' ⟨rfl, rfl⟩
      rw [hk]
      go_wp2_with fail
      refine bodyPost_ret (bad _ rfl _ rfl) rfl ⟨?_, hBz⟩
      rw [HG3.out]
      rfl
  · have HG3 : Hid (gv = (zeros 174, 5)) := hide (by rw [HG2.out, if_neg (fun h => hk h.1)])
    rw [Bool.not_eq_true] at hk
    go_wp2_with fail
    (with_reducible refine (within_any key 4 w1).mono ?_)
    rintro e w' ⟨rfl, rfl⟩
    rw [hk]
    go_wp2_with fail
    refine bodyPost_ret (bad _ rfl _ rfl) rfl ⟨?_, hBz⟩
    rw [HG3.out]
    rfl

/-! ### Inc, Dec, Give -/
theorem field0_any (b o : Nat) (w : World) : Calls Try.prog 13 #[.pointer (some ⟨b, o, none⟩)] w fun e w' => e = .returned (.pointer (some ⟨b, o + 0, none⟩)) ∧ Below w.heap.size w w' := by
  go_enter Try.func13, Try.ntmps13
  go_wp2
  go_ret
  exact ⟨rfl, Below.refl _ _⟩
theorem fieldG_any (b o p t : Nat) (ht : t < 5) (w : World) (hp : w.cell? ⟨p, 0, none⟩ = some (.int .i64 (t : Int))) : Calls Try.prog 16 #[.pointer (some ⟨b, o, none⟩), .pointer (some ⟨p, 0, none⟩)] w fun e w' => e = .returned (.pointer (some ⟨b, o + (2 + t), none⟩)) ∧ Below w.heap.size w w' := by
  have hpd : w.drew.cell? ⟨p, 0, none⟩ = some (.int .i64 (t : Int)) := hp
  go_enter Try.func16, Try.ntmps16
  go_wp2_with fail
  go_region
  all_goals
    go_wp2_with fail
    go_ret
    exact ⟨by rw [Nat.add_assoc]; rfl, (Below.refl w.heap.size w).drew⟩
theorem entersF0 (args : Array Value) (w : World) : (callFunc 13 args).run Try.prog w = .ok (.enter 13 args) w := by kernel_rfl
theorem entersFG (args : Array Value) (w : World) : (callFunc 16 args).run Try.prog w = .ok (.enter 16 args) w := by kernel_rfl
theorem growV_length {zs : List Int} (hl : zs.length = 174) (key n : Int) (f : Nat) : (growV zs key n f).1.length = 174 := by
  unfold growV
  split
  · split
    · show (bump _ _).length = 174
      rw [bump, List.length_set, chg_length, hl]
    · exact zeros_length 174
  · exact zeros_length 174

set_option maxRecDepth 100000 in
set_option maxHeartbeats 1600000 in
theorem inc_any (zs : List Int) (hl : zs.length = 174) (hok : okRow zs = true) (hv : zs.getD 0 0 ≤ 1152921504606846976) (key n : Int) (w : World) :
    Calls Try.prog 6 #[.agg (iA zs), .int .i64 key, .int .i64 n] w fun e w' => e = .returned (.tuple #[.agg (iA (growV zs key n 0).1), .int .i64 (growV zs key n 0).2]) ∧ Below w.heap.size w w' := by
  have hI : IBlk ((w.alloc (.cells (iA zs) 28)).alloc (.cells (iA (zeros 174)) 28)) w.heap.size 28 zs := (IBlk.new _ _ _).alloc _
  have hJ : IBlk ((w.alloc (.cells (iA zs) 28)).alloc (.cells (iA (zeros 174)) 28)) (w.heap.size + 1) 28 (zeros 174) := by
    have := IBlk.new (w.alloc (.cells (iA zs) 28)) 28 (zeros 174)
    simpa using this
  have hB : Below w.heap.size w ((w.alloc (.cells (iA zs) 28)).alloc (.cells (iA (zeros 174)) 28)) := ((Below.refl _ _).alloc (Nat.le_refl _) _).alloc (by simp) _
  go_enter Try.func6, Try.ntmps6
  go_upto_region 1 with fail
  generalize (w.alloc (.cells (iA zs) 28)).alloc (.cells (iA (zeros 174)) 28) = w1 at hI hJ hB
  obtain ⟨r1, h1⟩ := hI.whole hl
  have HC := grow_any 13 #[] entersF0 0 (by omega) zs hl hok hv key n w1 (fun w2 b o _ => field0_any b o w2)
  have hgl := growV_length hl key n 0
  obtain ⟨g1, g2, hge⟩ : ∃ g1 g2, growV zs key n 0 = (g1, g2) := ⟨_, _, rfl⟩
  rw [hge] at HC hgl
  have HG := hide hge
  clear hge
  have hgi : Is 174 g1 := hgl
  clear hl hok hv
  go_wp2_with fail
  (with_reducible refine HC.mono ?_)
  rintro e w2 ⟨rfl, hb2⟩
  have hJ2 := hJ.below hb2 hJ.lt
  have hB2 := hB.trans (hb2.mono hB.size)
  have hrm := hJ2.room 0 174 (by rw [zeros_length]; decide)
  have hJz := hJ2.fill (ys := g1) hgl
  have hBz : Below w.heap.size w (w2.setCells (w.heap.size + 1) 0 (iV g1)) := below_only hB2 (only_cells _ _ _ _) (fun i (e : i = w.heap.size + 1) => by omega) hB2.size
  go_wp2_with fail
  have hi174 := Try.infoRow
  refine bodyPost_ret (results_i2 rfl rfl hJz Try.underlying28 rfl (by rw [show g1.length = 174 from hgl]; exact hi174) _ rfl) rfl ⟨?_, hBz⟩
  rw [HG.out]
  rfl
/-- What Give answers. -/
def giveV (zs : List Int) (key n tt : Int) : List Int × Int := if inK tt 5 = true then growV zs key n (2 + tt.toNat) else (zeros 174, 5)
theorem giveV_length {zs : List Int} (hl : zs.length = 174) (key n tt : Int) : (giveV zs key n tt).1.length = 174 := by
  unfold giveV
  split
  · exact growV_length hl _ _ _
  · exact zeros_length 174
set_option maxRecDepth 100000 in
set_option maxHeartbeats 1600000 in
theorem give_any (zs : List Int) (hl : zs.length = 174) (hok : okRow zs = true) (hv : zs.getD 0 0 ≤ 1152921504606846976) (key n tt : Int) (w : World) :
    Calls Try.prog 8 #[.agg (iA zs), .int .i64 key, .int .i64 n, .int .i64 tt] w fun e w' => e = .returned (.tuple #[.agg (iA (giveV zs key n tt).1), .int .i64 (giveV zs key n tt).2]) ∧ Below w.heap.size w w' := by
  have hmf := Try.makeFuncL
  have hI : IBlk (((w.alloc (.cells (iA zs) 28)).alloc (.cells #[.int .i64 tt] 3)).alloc (.cells (iA (zeros 174)) 28)) w.heap.size 28 zs := ((IBlk.new _ _ _).alloc _).alloc _
  have hP : Blk (((w.alloc (.cells (iA zs) 28)).alloc (.cells #[.int .i64 tt] 3)).alloc (.cells (iA (zeros 174)) 28)) (w.heap.size + 1) 3 #[.int .i64 tt] := by
    have := (Blk.new (w.alloc (.cells (iA zs) 28)) 3 #[.int .i64 tt]).alloc (.cells (iA (zeros 174)) 28)
    simpa using this
  have hJ : IBlk (((w.alloc (.cells (iA zs) 28)).alloc (.cells #[.int .i64 tt] 3)).alloc (.cells (iA (zeros 174)) 28)) (w.heap.size + 2) 28 (zeros 174) := by
    have := IBlk.new ((w.alloc (.cells (iA zs) 28)).alloc (.cells #[.int .i64 tt] 3)) 28 (zeros 174)
    simpa using this
  have hB : Below w.heap.size w (((w.alloc (.cells (iA zs) 28)).alloc (.cells #[.int .i64 tt] 3)).alloc (.cells (iA (zeros 174)) 28)) := (((Below.refl _ _).alloc (Nat.le_refl _) _).alloc (by simp) _).alloc (by simp; omega) _
  have iz := is_zeros 174
  have hi174 := Try.infoRow
  go_enter Try.func8, Try.ntmps8
  go_upto_region 1 with fail
  generalize ((w.alloc (.cells (iA zs) 28)).alloc (.cells #[.int .i64 tt] 3)).alloc (.cells (iA (zeros 174)) 28) = w1 at hI hJ hB hP
  have cp : w1.cell? ⟨w.heap.size + 1, 0, none⟩ = some (.int .i64 tt) := by rw [hP.cell]; rfl
  obtain ⟨r1, h1⟩ := hI.whole hl
  have HG : Hid (giveV zs key n tt = if inK tt 5 = true then growV zs key n (2 + tt.toNat) else (zeros 174, 5)) := hide rfl
  by_cases hk : inK tt 5 = true
  · obtain ⟨t, rfl⟩ : ∃ t : Nat, tt = (t : Int) := ⟨tt.toNat, by have := inK_true.1 hk; omega⟩
    have ht5 : t < 5 := by have := (inK_true.1 hk).2; omega
    have HG2 : Hid (giveV zs key n (t : Int) = growV zs key n (2 + t)) := hide (by rw [HG.out, if_pos hk]; rfl)
    have HC := grow_any 16 #[.pointer (some ⟨w.heap.size + 1, 0, none⟩)] entersFG (2 + t) (by omega) zs hl hok hv key n w1 (fun w2 b o hb => fieldG_any b o (w.heap.size + 1) t ht5 w2 (by rw [hb.cell hP.lt]; exact cp))
    have hgl := growV_length hl key n (2 + t)
    generalize growV zs key n (2 + t) = gw at HC hgl HG2
    obtain ⟨g1, g2⟩ := gw
    have hgi : Is 174 g1 := hgl
    clear hl hok hv HG
    go_wp2_with fail
    (with_reducible refine (within_any t 5 w1).mono ?_)
    rintro e w' ⟨rfl, rfl⟩
    rw [hk]
    clear hk ht5
    go_wp2_with fail
    (with_reducible refine HC.mono ?_)
    rintro e w2 ⟨rfl, hb2⟩
    have hJ2 := hJ.below hb2 hJ.lt
    have hB2 := hB.trans (hb2.mono hB.size)
    have hrm := hJ2.room 0 174 (by rw [zeros_length]; decide)
    have hJz := hJ2.fill (ys := g1) hgl
    have hBz : Below w.heap.size w (w2.setCells (w.heap.size + 2) 0 (iV g1)) := below_only hB2 (only_cells _ _ _ _) (fun i (e : i = w.heap.size + 2) => by omega) hB2.size
    go_wp2_with fail
    refine bodyPost_ret (results_i2 rfl rfl hJz Try.underlying28 rfl (by rw [show g1.length = 174 from hgl]; exact hi174) _ rfl) rfl ⟨?_, hBz⟩
    rw [HG2.out]
    rfl
  · have HG2 : Hid (giveV zs key n tt = (zeros 174, 5)) := hide (by rw [HG.out, if_neg hk])
    rw [Bool.not_eq_true] at hk
    have hrm := hJ.room 0 174 (by rw [zeros_length]; decide)
    have hJz := hJ.fill (ys := zeros 174) rfl
    have hBz : Below w.heap.size w (w1.setCells (w.heap.size + 2) 0 (iV (zeros 174))) := below_only hB (only_cells _ _ _ _) (fun i (e : i = w.heap.size + 2) => by omega) hB.size
    go_wp2_with fail
    (with_reducible refine (within_any tt 5 w1).mono ?_)
    rintro e w' ⟨rfl, rfl⟩
    rw [hk]
    go_wp2_with fail
    refine bodyPost_ret (results_i2 rfl rfl hJz Try.underlying28 rfl hi174 _ rfl) rfl ⟨?_, hBz⟩
    rw [HG2.out]
    rfl

/-! ### fit -/
theorem ok_zeros : okRow (zeros 174) = true := by decide +kernel
end Go.Proofs.Ytmcanjijpdgfeaa
