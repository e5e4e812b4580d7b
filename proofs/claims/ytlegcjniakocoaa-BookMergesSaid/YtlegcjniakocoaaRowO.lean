/- The contracts of row's Own and Cell. -/
import Derived.Test.YtlegcjniakocoaaSortS
import Derived.OwnWalk
namespace Go.Proofs.Ytlegcjniakocoaa
open Go.RowKit

/-! ### plain -/
def heirB (xs : List Int) (i : Nat) : Bool := decide (0 < xs.getD (29 + i) 0)
def ownL (b : Nat → Bool) (q : Nat) : Nat → List Int
  | 0 => [(q : Int)]
  | k + 1 => ownL b q k ++ (if (b k && !(k == q)) = true then [(k : Int)] else [])
def sortedL (b : Nat → Bool) (q : Nat) : List Int := ((List.range 5).filter fun i => i == q || b i).map fun i : Nat => (i : Int)
def bs5 (b0 b1 b2 b3 b4 : Bool) : Nat → Bool
  | 0 => b0 | 1 => b1 | 2 => b2 | 3 => b3 | 4 => b4 | _ => false
theorem own_key : ∀ (q : Fin 5) (b0 b1 b2 b3 b4 : Bool), isortTo (ownL (bs5 b0 b1 b2 b3 b4) q.val 5) (ownL (bs5 b0 b1 b2 b3 b4) q.val 5).length = sortedL (bs5 b0 b1 b2 b3 b4) q.val ∧ 1 ≤ (ownL (bs5 b0 b1 b2 b3 b4) q.val 5).length ∧ (ownL (bs5 b0 b1 b2 b3 b4) q.val 5).length ≤ 5 ∧ (sortedL (bs5 b0 b1 b2 b3 b4) q.val).length = (ownL (bs5 b0 b1 b2 b3 b4) q.val 5).length := by decide +kernel
theorem ownL_congr {b b' : Nat → Bool} {q : Nat} : ∀ {k : Nat}, (∀ i, i < k → b i = b' i) → ownL b q k = ownL b' q k
  | 0, _ => rfl
  | k + 1, h => by rw [ownL, ownL, ownL_congr (k := k) (fun i hi => h i (by omega)), h k (by omega)]
theorem bs5_eq (b : Nat → Bool) {i : Nat} (hi : i < 5) : bs5 (b 0) (b 1) (b 2) (b 3) (b 4) i = b i := by
  rcases (by omega : i = 0 ∨ i = 1 ∨ i = 2 ∨ i = 3 ∨ i = 4) with rfl | rfl | rfl | rfl | rfl <;> rfl
theorem sortedL_congr {b b' : Nat → Bool} {q : Nat} (h : ∀ i, i < 5 → b i = b' i) : sortedL b q = sortedL b' q := by
  unfold sortedL
  congr 1
  apply List.filter_congr
  intro i hi
  rw [h i (by simpa using hi)]
theorem own_sorted (b : Nat → Bool) {q : Nat} (hq : q < 5) : isortTo (ownL b q 5) (ownL b q 5).length = sortedL b q ∧ 1 ≤ (ownL b q 5).length ∧ (ownL b q 5).length ≤ 5 ∧ (sortedL b q).length = (ownL b q 5).length := by
  have := own_key ⟨q, hq⟩ (b 0) (b 1) (b 2) (b 3) (b 4)
  rw [show ownL b q 5 = ownL (bs5 (b 0) (b 1) (b 2) (b 3) (b 4)) q 5 from ownL_congr fun i hi => (bs5_eq b hi).symm, show sortedL b q = sortedL (bs5 (b 0) (b 1) (b 2) (b 3) (b 4)) q from sortedL_congr fun i hi => (bs5_eq b hi).symm]
  exact this
theorem ownL_le (b : Nat → Bool) (q : Nat) : ∀ k, 1 ≤ (ownL b q k).length ∧ (ownL b q k).length ≤ k + 1
  | 0 => by simp [ownL]
  | k + 1 => by
    have := ownL_le b q k
    rw [ownL, List.length_append]
    split <;> simp <;> omega
/-- How many of the first i are one's own. -/
def cntL (b : Nat → Bool) (q i : Nat) : Nat := ((List.range i).filter fun i => i == q || b i).length
theorem cnt_key : ∀ (q i : Fin 5) (b0 b1 b2 b3 b4 : Bool), ((i.val == q.val || bs5 b0 b1 b2 b3 b4 i.val) = true → cntL (bs5 b0 b1 b2 b3 b4) q.val i.val < (sortedL (bs5 b0 b1 b2 b3 b4) q.val).length ∧ (sortedL (bs5 b0 b1 b2 b3 b4) q.val).getD (cntL (bs5 b0 b1 b2 b3 b4) q.val i.val) 0 = i.val) := by decide +kernel
theorem cntL_congr {b b' : Nat → Bool} {q i : Nat} (hi5 : i ≤ 5) (h : ∀ i, i < 5 → b i = b' i) : cntL b q i = cntL b' q i := by
  unfold cntL
  congr 1
  apply List.filter_congr
  intro j hj
  rw [h j (by have : j < i := by simpa using hj
              omega)]
theorem cnt_at (b : Nat → Bool) {q i : Nat} (hq : q < 5) (hi : i < 5) (h : (i == q || b i) = true) : cntL b q i < (sortedL b q).length ∧ (sortedL b q).getD (cntL b q i) 0 = i := by
  have := cnt_key ⟨q, hq⟩ ⟨i, hi⟩ (b 0) (b 1) (b 2) (b 3) (b 4)
  simp only [bs5_eq b hi] at this
  rw [cntL_congr (by omega) (fun i hi => (bs5_eq b hi).symm), sortedL_congr fun i hi => (bs5_eq b hi).symm]
  exact this h
theorem cnt_step (b : Nat → Bool) (q i : Nat) : cntL b q (i + 1) = cntL b q i + (if (i == q || b i) = true then 1 else 0) := by
  unfold cntL
  rw [List.range_succ, List.filter_append, List.length_append]
  congr 1
  by_cases h : (i == q || b i) = true
  · rw [if_pos h]; simp [h]
  · rw [if_neg h]; simp [h]
theorem cnt_all (b : Nat → Bool) (q : Nat) : cntL b q 5 = (sortedL b q).length := by
  unfold cntL sortedL; simp
theorem Try.infoInt1 : (Try.prog.info? 3).map (fun i => (i.zero, i.size, i.bytes)) = some (some (.int .i64 0), 1, 8) := by kernel_rfl

/-! ### Own -/
attribute [local go_sem ↓] loadInts5F_fold indexInts5F_fold
attribute [local go_sem] loadInts5F_has indexInts5F_at
set_option maxRecDepth 100000 in
set_option maxHeartbeats 1600000 in
theorem own_any (xs : List Int) (hl : xs.length = 174) (q : Nat) (hq : q < 5) (w : World) :
    Calls Try.prog 23 #[.agg (iA xs), .int .i64 q] w fun e w' => (∃ g c, e = .returned (.slice (some ⟨g, 0, none⟩) (sortedL (heirB xs) q).length c) ∧ IOwn w' w.heap.size g (sortedL (heirB xs) q).length c (sortedL (heirB xs) q)) ∧ Below w.heap.size w w' := by
  obtain ⟨i0, hi, hz0, hz1, hz2⟩ := info_parts Try.infoInt1
  obtain ⟨hS, hS1, hS5, hSL⟩ := own_sorted (heirB xs) hq
  have HS := hide (And.intro hS hSL)
  have hI0 : IBlk (w.alloc (.cells (iA xs) 31)) w.heap.size 31 xs := IBlk.new _ _ _
  have hB0 : Below w.heap.size w (w.alloc (.cells (iA xs) 31)) := (Below.refl _ _).alloc (Nat.le_refl _) _
  have hH : ∀ k, k < 5 → ((xs.drop 29).take 5).getD k 0 = xs.getD (29 + k) 0 := fun k hk => getD_part xs 29 5 k hk
  have hl5 : Is 5 ((xs.drop 29).take 5) := by show _ = _; rw [List.length_take, List.length_drop, hl]; rfl
  have HH : Hid (∀ k, k < 5 → heirB xs k = decide (0 < ((xs.drop 29).take 5).getD k 0)) := hide fun k hk => by rw [heirB, hH k hk]
  clear hS hSL
  go_enter Try.func23, Try.ntmps23
  go_upto_region 1 with fail
  generalize w.alloc (.cells (iA xs) 31) = w1 at hI0 hB0
  have hs1 := hB0.size
  generalize hbe : w.heap.size = b at hI0
  have hI1 := hI0.alloc (.cells #[.int .i64 q] 3)
  have hB1 := hB0.alloc hs1 (.cells #[.int .i64 q] 3)
  have hown1 : (w1.alloc (.cells #[.int .i64 q] 3)).ownsRow w.heap.size 3 1 (.slice (some ⟨w1.heap.size, 0, none⟩) 1 1) 1 ((ownL (heirB xs) q 0).map (Value.int .i64)) := ⟨rfl, .inr ⟨w1.heap.size, 1, #[.int .i64 q], rfl, hs1, Blk.new _ _ _, Nat.le_refl _, by decide, rfl, rfl⟩⟩
  obtain ⟨r5, h5⟩ := hI1.got 29 5 (by omega)
  generalize (xs.drop 29).take 5 = hs at r5 hl5 HH
  clear hl hH hI0
  go_wp2_with fail
  clear r5 h5 hI1
  go_loopw [5, 12] (fun s i wr => ∃ k : Nat, k ≤ 5 ∧ i = .int .i64 k ∧ wr.ownsRow w.heap.size 3 1 s (ownL (heirB xs) q k).length ((ownL (heirB xs) q k).map (Value.int .i64)) ∧ Below w.heap.size w wr) (fun _ i _ => 5 - (intOf i).toNat)
  case atStart => exact ⟨0, by omega, rfl, hown1, hB1⟩
  case round =>
    clear hown1 hB1 hB0
    obtain ⟨k, hk, rfl, hown, hB⟩ := hrel
    have hsz := hB.size
    have hle := ownL_le (heirB xs) q k
    by_cases hlt : k < 5
    · have hix := indexInts5F_at (l := hs) hlt hl5
      have HB := hide (HH.out k hlt)
      have HST : Hid (ownL (heirB xs) q (k + 1) = ownL (heirB xs) q k ++ (if (heirB xs k && !(k == q)) = true then [(k : Int)] else [])) := hide rfl
      generalize hs.getD k 0 = h at hix HB
      by_cases hp : 0 < h
      · have dp := decide_eq_true hp
        by_cases hkq : k = q
        · have HST2 : Hid (ownL (heirB xs) q (k + 1) = ownL (heirB xs) q k) := hide (by rw [HST.out]; simp [hkq])
          clear HST HB
          subst hkq
          go_wp2_with fail
          go_roundw
          case rel => go_light; exact ⟨k + 1, by omega, by go_num, by rw [HST2.out]; exact hown, hB⟩
          case measure => go_light; simp [intOf]; omega
        · have dkq : ((k : Int) == (q : Int)) = false := by simp; omega
          have HST2 : Hid (ownL (heirB xs) q (k + 1) = ownL (heirB xs) q k ++ [(k : Int)]) := hide (by rw [HST.out, HB.out, dp]; simp [hkq])
          clear HST HB
          generalize ownL (heirB xs) q k = ol at hown HST2 hle
          go_wp2_with (at_builtin; refine wpList_append_any _ rfl (.tmp 23) (.tmp 25) 23 rfl w.heap.size 3 i0 (.int .i64 0) 1 8 Try.underlying23 hi hz0 hz1 hz2 rfl (by decide) _ _ _ rfl (hown.alloc _) (wr.heap.size + 1) (some ⟨wr.heap.size, 0, none⟩) 1 1 [.int .i64 (k : Int)] rfl (reads_one _ _ _) (by intro u hu; simp at hu; subst hu; rfl) (by unfold maxLen; omega) (by omega) (by simp; omega) ?_; intro v' w4 hown' hgrow _)
          have hb1 : Below w.heap.size w w4 := (hB.alloc hsz _).grown hgrow (by simp; omega) (own_base hown)
          go_roundw
          case rel => go_light; exact ⟨k + 1, by omega, by go_num, by rw [HST2.out]; simpa using hown', hb1⟩
          case measure => go_light; simp [intOf]; omega
      · have dp := decide_eq_false hp
        have HST2 : Hid (ownL (heirB xs) q (k + 1) = ownL (heirB xs) q k) := hide (by rw [HST.out, HB.out, dp]; simp)
        clear HST HB
        go_wp2_with fail
        go_roundw
        case rel => go_light; exact ⟨k + 1, by omega, by go_num, by rw [HST2.out]; exact hown, hB⟩
        case measure => go_light; simp [intOf]; omega
    · obtain rfl : k = 5 := by omega
      have hf := hown.form (by omega)
      obtain ⟨g, cap, hv, _, _⟩ := hf
      subst hv
      have HSO := sort_any w.heap.size g _ cap _ wr hown hS1 (by omega)
      rw [HS.out.1] at HSO
      have hgb := own_base hown g rfl
      have HE := hide HS.out.2
      clear HS hown HH hle
      generalize (ownL (heirB xs) q 5).length = n at *
      go_wp2_with fail
      (with_reducible refine HSO.mono ?_)
      rintro e w4 ⟨rfl, hI4, hO4⟩
      go_wp2_with fail
      go_ret
      rw [HE.out]
      exact ⟨⟨g, cap, rfl, hI4⟩, below_only hB hO4 (fun i (e : i = g) => by omega) hB.size⟩

/-! ### Cell -/
theorem Try.eqCellT {xs : List Int} (hx : xs.length = 7) (wx : wf64 xs) (w : World) : (Op.equalIn 10000 27 (.agg (iA xs)) (.agg (iA xs))).run Try.prog w = .ok true w := by
  have := Try.eqCell hx hx wx wx w
  simpa using this
/-- What Cell answers, of machines and a key. -/
def cellV (xs : List Int) (q o k : Nat) : List Int × Int :=
  if o = q then ((xs.drop (1 + k * 7)).take 7, xs.getD 0 0)
  else if 0 < xs.getD (29 + o) 0 then ((xs.drop (34 + o * 28 + k * 7)).take 7, xs.getD (29 + o) 0 - 1)
  else (zeros 7, -1)
theorem cellV_length {xs : List Int} (hl : xs.length = 174) {q o k : Nat} (ho : o < 5) (hk : k < 4) : (cellV xs q o k).1.length = 7 := by
  unfold cellV
  split
  · show ((xs.drop (1 + k * 7)).take 7).length = 7
    rw [List.length_take, List.length_drop]; omega
  · split
    · show ((xs.drop (34 + o * 28 + k * 7)).take 7).length = 7
      rw [List.length_take, List.length_drop]; omega
    · exact zeros_length 7
attribute [local go_sem ↓] loadCellF_fold storeCellF_fold buildCellF_fold allocCellF_fold
attribute [local go_sem] loadCellF_has storeCellF_has buildCellF_none allocCellF_run
set_option maxRecDepth 100000 in
set_option maxHeartbeats 3200000 in
theorem cellRow_any (xs : List Int) (hl : xs.length = 174) (hw64 : ∀ i, i < 5 → xs.getD (29 + i) 0 ≤ 9223372036854775807) (q o k : Nat) (hq : q < 5) (ho : o < 5) (hk : k < 4) (w : World) :
    Calls Try.prog 25 #[.agg (iA xs), .int .i64 q, .int .i64 o, .int .i64 k] w fun e w' => e = .returned (.tuple #[.agg (iA (cellV xs q o k).1), .int .i64 (cellV xs q o k).2]) ∧ Below w.heap.size w w' := by
  have hI : IBlk ((w.alloc (.cells (iA xs) 31)).alloc (.cells (iA (zeros 7)) 27)) w.heap.size 31 xs := (IBlk.new _ _ _).alloc _
  have hJ : IBlk ((w.alloc (.cells (iA xs) 31)).alloc (.cells (iA (zeros 7)) 27)) (w.heap.size + 1) 27 (zeros 7) := by
    have := IBlk.new (w.alloc (.cells (iA xs) 31)) 27 (zeros 7)
    simpa using this
  have hB : Below w.heap.size w ((w.alloc (.cells (iA xs) 31)).alloc (.cells (iA (zeros 7)) 27)) := ((Below.refl _ _).alloc (Nat.le_refl _) _).alloc (by simp) _
  have iz := is_zeros 7
  have hi7 := Try.infoCell
  have HV : Hid (cellV xs q o k = if o = q then ((xs.drop (1 + k * 7)).take 7, xs.getD 0 0) else if 0 < xs.getD (29 + o) 0 then ((xs.drop (34 + o * 28 + k * 7)).take 7, xs.getD (29 + o) 0 - 1) else (zeros 7, -1)) := hide rfl
  go_enter Try.func25, Try.ntmps25
  go_upto_region 1 with fail
  generalize (w.alloc (.cells (iA xs) 31)).alloc (.cells (iA (zeros 7)) 27) = w1 at hI hJ hB
  go_wp2_with fail
  (with_reducible refine (within_any q 5 w1).mono ?_)
  rintro e w' ⟨rfl, rfl⟩
  rw [inK_true.2 ⟨by go_light; omega, by go_light; omega⟩]
  go_wp2_with fail
  (with_reducible refine (within_any o 5 w1).mono ?_)
  rintro e w' ⟨rfl, rfl⟩
  rw [inK_true.2 ⟨by go_light; omega, by go_light; omega⟩]
  go_wp2_with fail
  (with_reducible refine (within_any k 4 w1).mono ?_)
  rintro e w' ⟨rfl, rfl⟩
  rw [inK_true.2 ⟨by go_light; omega, by go_light; omega⟩]
  have fin : ∀ (w9 : World) (c : List Int), Only (fun _ => False) w1 w9 → c.length = 7 → IBlk (w9.setCells (w.heap.size + 1) 0 (iV c)) (w.heap.size + 1) 27 c ∧ Below w.heap.size w (w9.setCells (w.heap.size + 1) 0 (iV c)) := fun w9 c hO hc => by
    have h9 := hJ.only hO (fun h => h)
    have hB9 := below_only hB hO (fun _ h => h.elim) hB.size
    exact ⟨h9.fill (by rw [hc, zeros_length]), below_only hB9 (only_cells _ _ _ _) (fun i (e : i = w.heap.size + 1) => by go_light; omega) hB9.size⟩
  have hrm := hJ.room 0 7 (by rw [zeros_length]; decide)
  have hrmd := hJ.drew.room 0 7 (by rw [zeros_length]; decide)
  by_cases e : o = q
  · have HV2 := hide (HV.out.trans (if_pos e))
    subst e
    obtain ⟨r1, h1⟩ := hI.drew.got (1 + k * 7) 7 (by go_light; omega)
    have c0 : w1.drew.cell? ⟨w.heap.size, 0, none⟩ = some (.int .i64 (xs.getD 0 0)) := hI.drew.cell (by go_light; omega)
    have hcl : ((xs.drop (1 + k * 7)).take 7).length = 7 := by rw [List.length_take, List.length_drop]; go_light; omega
    have hic : Is 7 ((xs.drop (1 + k * 7)).take 7) := hcl
    obtain ⟨f1, f2⟩ := fin w1.drew _ (Only.refl _ _).drew hcl
    have hIs := hI.drew.only (only_cells w1.drew (w.heap.size + 1) 0 (iV ((xs.drop (1 + k * 7)).take 7))) (by go_light; show ¬ w.heap.size = w.heap.size + 1; omega)
    have c0s : (w1.drew.setCells (w.heap.size + 1) 0 (iV ((xs.drop (1 + k * 7)).take 7))).cell? ⟨w.heap.size, 0, none⟩ = some (.int .i64 (xs.getD 0 0)) := hIs.cell (by go_light; omega)
    clear fin HV hIs
    generalize xs.getD 0 0 = v at c0 c0s HV2
    generalize (xs.drop (1 + k * 7)).take 7 = ch at r1 hcl hic f1 f2 HV2 c0s
    go_wp2_with fail
    go_region
    all_goals
      go_wp2_with fail
      refine bodyPost_ret (results_i2 rfl rfl f1 Try.underlying27 rfl (by rw [hcl]; exact hi7) _ rfl) rfl ⟨?_, f2⟩
      rw [HV2.out]
      rfl
  · have e' : ((o : Int) == (q : Int)) = false := by simp; go_light; omega
    have HV1 := hide (HV.out.trans (if_neg e))
    clear HV
    have ch : w1.cell? ⟨w.heap.size, 29 + o, none⟩ = some (.int .i64 (xs.getD (29 + o) 0)) := hI.cell (by go_light; omega)
    have chd : w1.drew.cell? ⟨w.heap.size, 29 + o, none⟩ = some (.int .i64 (xs.getD (29 + o) 0)) := ch
    have h64 := hw64 o ho
    by_cases hp : 0 < xs.getD (29 + o) 0
    · have dp := decide_eq_true hp
      have HV2 := hide (HV1.out.trans (if_pos hp))
      clear HV1
      obtain ⟨r1, h1⟩ := hI.drew.got (34 + o * 28 + k * 7) 7 (by go_light; omega)
      have hcl : ((xs.drop (34 + o * 28 + k * 7)).take 7).length = 7 := by rw [List.length_take, List.length_drop]; go_light; omega
      have hic : Is 7 ((xs.drop (34 + o * 28 + k * 7)).take 7) := hcl
      obtain ⟨f1, f2⟩ := fin w1.drew _ (Only.refl _ _).drew hcl
      have hIs := hI.drew.only (only_cells w1.drew (w.heap.size + 1) 0 (iV ((xs.drop (34 + o * 28 + k * 7)).take 7))) (by go_light; show ¬ w.heap.size = w.heap.size + 1; omega)
      have chs : (w1.drew.setCells (w.heap.size + 1) 0 (iV ((xs.drop (34 + o * 28 + k * 7)).take 7))).cell? ⟨w.heap.size, 29 + o, none⟩ = some (.int .i64 (xs.getD (29 + o) 0)) := hIs.cell (by go_light; omega)
      have hbd := h64
      clear fin hIs h64
      generalize xs.getD (29 + o) 0 = v at ch chd chs HV2 hp dp hbd
      generalize (xs.drop (34 + o * 28 + k * 7)).take 7 = cc at r1 hcl hic f1 f2 HV2 chs
      go_wp2_with fail
      go_region
      all_goals
        go_wp2_with fail
        refine bodyPost_ret (results_i2 rfl rfl f1 Try.underlying27 rfl (by rw [hcl]; exact hi7) _ rfl) rfl ⟨?_, f2⟩
        rw [HV2.out]
        rfl
    · have dp := decide_eq_false hp
      have HV2 := hide (HV1.out.trans (if_neg hp))
      clear HV1
      obtain ⟨f1, f2⟩ := fin w1 (zeros 7) (Only.refl _ _) (zeros_length 7)
      clear fin
      generalize xs.getD (29 + o) 0 = v at ch chd dp
      go_wp2_with fail
      refine bodyPost_ret (results_i2 rfl rfl f1 Try.underlying27 rfl hi7 _ rfl) rfl ⟨?_, f2⟩
      rw [HV2.out]
      rfl
end Go.Proofs.Ytlegcjniakocoaa
