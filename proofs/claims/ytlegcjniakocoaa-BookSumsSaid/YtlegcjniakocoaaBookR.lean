/- The contracts of book's Value, rights, Rights. -/
import Derived.Test.YtlegcjniakocoaaBookV
import Derived.StillTailTactics
import Derived.IntWalk
namespace Go.Proofs.Ytlegcjniakocoaa
open Go.RowKit

/-! ### plain -/
def valU (cs : List Int) : Nat → Int
  | 0 => 0
  | j + 1 => valU cs j + (cs.getD (j * 7) 0 - cs.getD (j * 7 + 1) 0)
def valueV (bs : List Int) (k : Int) : Int := valU (cellsB bs k) 5
theorem valU_bd {cs : List Int} (h : Cells5 cs) : ∀ {j : Nat}, j ≤ 5 → -(1099511627776 * j) ≤ valU cs j ∧ valU cs j ≤ 1099511627776 * j
  | 0, _ => by simp [valU]
  | j + 1, hj => by
    have h1 := h.num j 0 (by omega) (by omega)
    have h2 := h.num j 1 (by omega) (by omega)
    have h3 := valU_bd h (j := j) (by omega)
    unfold Num at h1 h2
    rw [Nat.add_zero] at h1
    rw [valU]
    push_cast
    omega
def rgtU (cs : List Int) (i : Nat) : Nat → Int
  | 0 => cs.getD (i * 7) 0 - cs.getD (i * 7 + 1) 0
  | j + 1 => rgtU cs i j + (cs.getD (j * 7 + (2 + i)) 0 - cs.getD (i * 7 + (2 + j)) 0)
theorem rgtU_bd {cs : List Int} (h : Cells5 cs) {i : Nat} (hi : i < 5) : ∀ {j : Nat}, j ≤ 5 → -(1099511627776 * (j + 1)) ≤ rgtU cs i j ∧ rgtU cs i j ≤ 1099511627776 * (j + 1)
  | 0, _ => by
    have h1 := h.num i 0 hi (by omega)
    have h2 := h.num i 1 hi (by omega)
    unfold Num at h1 h2
    rw [Nat.add_zero] at h1
    simp only [rgtU]
    omega
  | j + 1, hj => by
    have h1 := h.num j (2 + i) (by omega) (by omega)
    have h2 := h.num i (2 + j) (by omega) (by omega)
    have h3 := rgtU_bd h hi (j := j) (by omega)
    unfold Num at h1 h2
    rw [rgtU]
    push_cast
    omega
def rgtsL (cs : List Int) (l : List Int) : Int := (l.map fun z => rgtU cs z.toNat 5).sum
def rightsV (bs : List Int) (who k : Int) : Int := if inK who 5 = true then rgtsL (cellsB bs k) (sortedL (heirB (rowB bs who.toNat)) who.toNat) else 0
theorem rgtsL_take (cs : List Int) {l : List Int} {j : Nat} (hj : j < l.length) : rgtsL cs (l.take (j + 1)) = rgtsL cs (l.take j) + rgtU cs (l.getD j 0).toNat 5 := by
  rw [rgtsL, List.take_succ_eq_append_getElem hj, List.map_append, List.sum_append]
  simp [rgtsL, List.getD, hj]
theorem sortedL_mem {b : Nat → Bool} {q : Nat} {z : Int} (h : z ∈ sortedL b q) : ∃ i : Nat, i < 5 ∧ z = (i : Int) := by
  unfold sortedL at h
  obtain ⟨i, hi, rfl⟩ := List.mem_map.1 h
  exact ⟨i, by have := (List.mem_filter.1 hi).1; simpa using this, rfl⟩
theorem sortedL_at {b : Nat → Bool} {q j : Nat} (hj : j < (sortedL b q).length) : ∃ i : Nat, i < 5 ∧ (sortedL b q).getD j 0 = (i : Int) := by
  refine sortedL_mem (b := b) (q := q) ?_
  rw [show (sortedL b q).getD j 0 = (sortedL b q)[j] by simp [List.getD, hj]]
  exact List.getElem_mem _
theorem rgtsL_bd {cs : List Int} (h : Cells5 cs) : ∀ {l : List Int}, (∀ z ∈ l, ∃ i : Nat, i < 5 ∧ z = (i : Int)) → -(6597069766656 * l.length) ≤ rgtsL cs l ∧ rgtsL cs l ≤ 6597069766656 * l.length
  | [], _ => by simp [rgtsL]
  | z :: l, hz => by
    obtain ⟨i, hi, rfl⟩ := hz z (by simp)
    have h1 := rgtU_bd h hi (Nat.le_refl 5)
    have h2 := rgtsL_bd h (l := l) (fun z h => hz z (by simp [h]))
    have e : rgtsL cs ((i : Int) :: l) = rgtU cs i 5 + rgtsL cs l := by simp [rgtsL]
    rw [e, List.length_cons]
    push_cast at h1 ⊢
    omega

/-! ### Value -/
attribute [local go_sem ↓] storeCellF_fold allocCellF_fold indexC5F_fold loadC5F_fold storeC5F_fold allocC5F_fold loadRowF_fold
attribute [local go_sem] storeCellF_has allocCellF_run indexC5F_at loadC5F_has storeC5F_has allocC5F_run loadRowF_has
set_option maxRecDepth 100000 in
set_option maxHeartbeats 3200000 in
theorem value_any {w : World} {b : Nat} {t : TypeId} {bs : List Int} (h : BookOk bs) (hb : IBlk w b t bs) (k : Int) :
    Calls Try.prog 15 #[.pointer (some ⟨b, 0, none⟩), .int .i64 k] w fun e w' => e = .returned (.int .i64 (valueV bs k)) ∧ Below w.heap.size w w' := by
  have HC := cells_any h.len h.wf hb k
  have h5 := cellsB_ok h k
  have HV : Hid (valueV bs k = valU (cellsB bs k) 5) := hide rfl
  generalize cellsB bs k = cs at HC h5 HV
  have HB := hide (fun (j : Nat) (hj : j ≤ 5) => valU_bd h5 hj)
  have HN := hide h5
  have hcl := h5.len
  clear h h5
  go_enter Try.func15, Try.ntmps15
  go_wp2_with fail
  (with_reducible refine HC.mono ?_)
  rintro e w1 ⟨rfl, hB1⟩
  clear HC hb
  go_wp2_with fail
  go_loopw [5, 11] (fun s5 s11 wr => ∃ j : Nat, j ≤ 5 ∧ s11 = .int .i64 j ∧ s5 = .int .i64 (valU cs j) ∧ Below w.heap.size w wr) (fun _ s11 _ => 5 - (intOf s11).toNat)
  case atStart => exact ⟨0, by omega, rfl, rfl, hB1⟩
  case round =>
    clear hB1
    obtain ⟨j, hj, rfl, rfl, hB⟩ := hrel
    by_cases hlt : j < 5
    · have hix := indexC5F_at (zs := cs) hlt
      have hc : ((cs.drop (j * 7)).take 7).length = 7 := by rw [List.length_take, List.length_drop]; omega
      have g0 : ((cs.drop (j * 7)).take 7).getD 0 0 = cs.getD (j * 7) 0 := getD_part cs (j * 7) 7 0 (by omega)
      have g1 : ((cs.drop (j * 7)).take 7).getD 1 0 = cs.getD (j * 7 + 1) 0 := getD_part cs (j * 7) 7 1 (by omega)
      have n0 := HN.out.num j 0 hlt (by omega)
      have n1 := HN.out.num j 1 hlt (by omega)
      have hbd := HB.out j hj
      have HS : Hid (valU cs (j + 1) = valU cs j + (cs.getD (j * 7) 0 - cs.getD (j * 7 + 1) 0)) := hide rfl
      rw [Nat.add_zero] at n0
      generalize cs.getD (j * 7) 0 = x0 at g0 n0 HS
      generalize cs.getD (j * 7 + 1) 0 = x1 at g1 n1 HS
      generalize (cs.drop (j * 7)).take 7 = c at hix hc g0 g1
      generalize valU cs j = v at hbd HS
      unfold Num at n0 n1
      obtain ⟨rm, hX, hO, hB2⟩ := lay (t := 27) hB hc hB.size
      have hci : Is 7 c := hc
      have hj5 : 1099511627776 * (j : Int) ≤ 5497558138880 := by omega
      go_upto_region 5 with fail
      generalize hpe : wr.heap.size = p at hX hO hB2
      generalize (wr.alloc (.cells (iA (zeros 7)) 27)).setCells p 0 (iV c) = w2 at hX hO hB2
      have c0 : w2.cell? ⟨p, 0, none⟩ = some (.int .i64 x0) := by rw [← g0]; exact hX.cell (by omega)
      have c1 : w2.cell? ⟨p, 1, none⟩ = some (.int .i64 x1) := by rw [← g1]; exact hX.cell (by omega)
      have b1 : x0 - x1 ≤ 1099511627776 := by omega
      have b2 : -1099511627776 ≤ x0 - x1 := by omega
      have b3 : v + (x0 - x1) ≤ 109951162777600 := by omega
      have b4 : -109951162777600 ≤ v + (x0 - x1) := by omega
      clear rm hpe hO hX g0 g1 hix hbd n0 n1 hj5
      go_wp2_with fail
      go_roundw
      case rel => go_light; exact ⟨j + 1, by omega, by go_num, by rw [HS.out], hB2⟩
      case measure => go_light; simp [intOf]; omega
    · obtain rfl : j = 5 := by omega
      rw [← HV.out]
      go_wp2_with fail
      go_ret
      exact ⟨rfl, hB⟩

/-! ### rights -/
set_option maxRecDepth 100000 in
set_option maxHeartbeats 3200000 in
theorem rights1_any (cs : List Int) (h5 : Cells5 cs) (i : Nat) (hi : i < 5) (w : World) :
    Calls Try.prog 24 #[.agg (iA cs), .int .i64 i] w fun e w' => e = .returned (.int .i64 (rgtU cs i 5)) ∧ Below w.heap.size w w' := by
  have hI : IBlk (w.alloc (.cells (iA cs) 58)) w.heap.size 58 cs := IBlk.new _ _ _
  have hB : Below w.heap.size w (w.alloc (.cells (iA cs) 58)) := (Below.refl _ _).alloc (Nat.le_refl _) _
  have HB := hide (fun (j : Nat) (hj : j ≤ 5) => rgtU_bd h5 hi hj)
  have HN := hide h5
  have hcl := h5.len
  have hi5 : (i : Int) < 5 := by omega
  have hi0 : (0 : Int) ≤ i := by omega
  clear h5
  go_enter Try.func24, Try.ntmps24
  go_upto_region 1 with fail
  generalize w.alloc (.cells (iA cs) 58) = w1 at hI hB
  have c0 : w1.drew.cell? ⟨w.heap.size, i * 7, none⟩ = some (.int .i64 (cs.getD (i * 7) 0)) := hI.drew.cell (by omega)
  have c1 : w1.drew.cell? ⟨w.heap.size, i * 7 + 1, none⟩ = some (.int .i64 (cs.getD (i * 7 + 1) 0)) := hI.drew.cell (by omega)
  have n0 := HN.out.num i 0 hi (by omega)
  have n1 := HN.out.num i 1 hi (by omega)
  rw [Nat.add_zero] at n0
  have HS : Hid (rgtU cs i 0 = cs.getD (i * 7) 0 - cs.getD (i * 7 + 1) 0) := hide rfl
  generalize cs.getD (i * 7) 0 = x0 at c0 n0 HS
  generalize cs.getD (i * 7 + 1) 0 = x1 at c1 n1 HS
  unfold Num at n0 n1
  have b1 : x0 - x1 ≤ 1099511627776 := by omega
  have b2 : -1099511627776 ≤ x0 - x1 := by omega
  have hId := hI.drew
  have hBd := hB.drew
  have q1 : IntKind.i64.wrap (x0 - x1) = x0 - x1 := IntWalk.i64_in _ (by omega)
  go_cut [5] (fun s5 wx => s5 = .int .i64 (rgtU cs i 0) ∧ IBlk wx w.heap.size 58 cs ∧ Below w.heap.size w wx)
  case first =>
    refine wp_region_still_lit (by kernel_rfl) (by kernel_rfl) ?_
    change wpStill _ _ w1.drew _ _ _
    repeat still_step
    refine wpStill_nil ?_
    change Exit.then _ _ _ _ w1.drew
    generalize w1.drew = w9 at hId hBd
    clear c0 c1 hI hB
    go_wp2_with fail
    go_meet
    exact ⟨by rw [HS.out], hId, hBd⟩
  case rest =>
    clear hI hB hId hBd c0 c1 n0 n1 HS b1 b2
    obtain ⟨rfl, hI, hB⟩ := hcut
    obtain ⟨r1, h1⟩ := hI.whole hcl
    go_wp2_with fail
    clear r1 h1
    go_loopw [5, 18] (fun s5 s18 wr => ∃ j : Nat, j ≤ 5 ∧ s18 = .int .i64 j ∧ s5 = .int .i64 (rgtU cs i j) ∧ IBlk wr w.heap.size 58 cs ∧ Below w.heap.size w wr) (fun _ s18 _ => 5 - (intOf s18).toNat)
    case atStart => exact ⟨0, by omega, rfl, rfl, hI, hB⟩
    case round =>
      clear hI hB
      obtain ⟨j, hj, rfl, rfl, hI, hB⟩ := hrel
      by_cases hlt : j < 5
      · have hix := indexC5F_at (zs := cs) hlt
        have hc : ((cs.drop (j * 7)).take 7).length = 7 := by rw [List.length_take, List.length_drop]; omega
        have g0 : ((cs.drop (j * 7)).take 7).getD (2 + i) 0 = cs.getD (j * 7 + (2 + i)) 0 := getD_part cs (j * 7) 7 (2 + i) (by omega)
        have n0 := HN.out.num j (2 + i) hlt (by omega)
        have n1 := HN.out.num i (2 + j) hi (by omega)
        have hbd := HB.out j hj
        have HS : Hid (rgtU cs i (j + 1) = rgtU cs i j + (cs.getD (j * 7 + (2 + i)) 0 - cs.getD (i * 7 + (2 + j)) 0)) := hide rfl
        generalize cs.getD (j * 7 + (2 + i)) 0 = x0 at g0 n0 HS
        generalize (cs.drop (j * 7)).take 7 = c at hix hc g0
        generalize rgtU cs i j = v at hbd HS
        obtain ⟨rm, hX, hO, hB2⟩ := lay (t := 27) hB hc hB.size
        have hI2 := hI.only hO (fun h => h)
        have hci : Is 7 c := hc
        have hj5 : (j : Int) < 5 := by omega
        go_upto_region 5 with fail
        generalize hpe : wr.heap.size = p at hX hO hB2 hI2
        generalize (wr.alloc (.cells (iA (zeros 7)) 27)).setCells p 0 (iV c) = w2 at hX hO hB2 hI2
        have c0 : w2.drew.cell? ⟨p, 2 + i, none⟩ = some (.int .i64 x0) := by rw [← g0]; exact hX.drew.cell (by omega)
        have c1 : w2.drew.cell? ⟨w.heap.size, i * 7 + 2 + j, none⟩ = some (.int .i64 (cs.getD (i * 7 + (2 + j)) 0)) := by rw [Nat.add_assoc]; exact hI2.drew.cell (by omega)
        generalize cs.getD (i * 7 + (2 + j)) 0 = x1 at c1 n1 HS
        unfold Num at n0 n1
        have b1 : x0 - x1 ≤ 1099511627776 := by omega
        have b2 : -1099511627776 ≤ x0 - x1 := by omega
        have b3 : v + (x0 - x1) ≤ 109951162777600 := by omega
        have b4 : -109951162777600 ≤ v + (x0 - x1) := by omega
        have hId := hI2.drew
        have hBd := hB2.drew
        have q1 : IntKind.i64.wrap (x0 - x1) = x0 - x1 := IntWalk.i64_in _ (by go_light; omega)
        have q2 : IntKind.i64.wrap (v + (x0 - x1)) = v + (x0 - x1) := IntWalk.i64_in _ (by go_light; omega)
        clear rm hpe hO hX g0 hix hbd n0 n1
        refine wp_region_still_lit (by kernel_rfl) (by kernel_rfl) ?_
        change wpStill _ _ w2.drew _ _ _
        repeat still_step
        refine wpStill_nil ?_
        change Exit.inBlock _ _ _ _ w2.drew
        generalize w2.drew = w9 at hId hBd
        clear c0 c1 hI hB hI2 hB2
        go_wp2_with fail
        go_roundw
        case rel => go_light; exact ⟨j + 1, by omega, by go_num, by rw [HS.out], hId, hBd⟩
        case measure => go_light; simp [intOf]; omega
      · obtain rfl : j = 5 := by omega
        go_wp2_with fail
        go_ret
        exact ⟨rfl, hB⟩

/-! ### Rights -/
theorem IOwn.below {w w' : World} {base g n c : Nat} {zs : List Int} (h : IOwn w base g n c zs) {B : Nat} (hx : Below B w w') (hg : g < B) : IOwn w' base g n c zs :=
  own_only h ⟨hx.os, hx.tape, hx.output, hx.size, fun k _ hn => hx.block k (Nat.lt_of_not_le hn)⟩ (S := fun k => B ≤ k) (fun k hk => by
    have : k = g := by simpa [Value.ownBlock, eq_comm] using hk
    omega)
set_option maxRecDepth 100000 in
set_option maxHeartbeats 3200000 in
theorem rights_any {w : World} {b : Nat} {t : TypeId} {bs : List Int} (h : BookOk bs) (hb : IBlk w b t bs) (who k : Int) :
    Calls Try.prog 13 #[.pointer (some ⟨b, 0, none⟩), .int .i64 who, .int .i64 k] w fun e w' => e = .returned (.int .i64 (rightsV bs who k)) ∧ Below w.heap.size w w' := by
  by_cases hk : inK who 5 = true
  · obtain ⟨q, rfl⟩ : ∃ q : Nat, who = (q : Int) := ⟨who.toNat, by have := inK_true.1 hk; omega⟩
    have hq : q < 5 := by have := (inK_true.1 hk).2; omega
    have HC := cells_any h.len h.wf hb k
    have h5 := cellsB_ok h k
    have HV : Hid (rightsV bs (q : Int) k = rgtsL (cellsB bs k) (sortedL (heirB (rowB bs q)) q)) := hide (by rw [rightsV, if_pos hk]; rfl)
    have HOW := fun w => own_any (rowB bs q) (rowB_length h.len hq) q hq w
    have HSM := hide (fun (j : Nat) (hj : j < (sortedL (heirB (rowB bs q)) q).length) => sortedL_at hj)
    have HSA := hide (fun (z : Int) (hz : z ∈ sortedL (heirB (rowB bs q)) q) => sortedL_mem hz)
    have HSL := hide (own_sorted (heirB (rowB bs q)) hq).2
    have HBL := hide h.len
    have hqi : (q : Int) < 5 := by omega
    generalize cellsB bs k = cs at HC h5 HV
    have HN := hide h5
    have hcl := h5.len
    have hci : Is 35 cs := hcl
    have hblt := hb.lt
    clear h h5
    go_enter Try.func13, Try.ntmps13
    go_wp2_with fail
    (with_reducible refine (machine_any q w).mono ?_)
    rintro e w' ⟨rfl, rfl⟩
    rw [hk]
    clear hk
    go_wp2_with fail
    (with_reducible refine HC.mono ?_)
    rintro e w1 ⟨rfl, hB1⟩
    have hb1 := hb.below hB1 hblt
    clear HC hb
    obtain ⟨rm, hX, hO, hB2⟩ := lay (t := 58) hB1 hcl hB1.size
    have hb2 := hb1.only hO (fun h => h)
    go_upto_region 4 with fail
    generalize hpe : w1.heap.size = p at hX hO hB2 hb2
    generalize (w1.alloc (.cells (iA (zeros 35)) 58)).setCells p 0 (iV cs) = w2 at hX hO hB2 hb2
    clear rm hpe hO hb1 hB1 hci
    obtain ⟨r1, h1⟩ := hb2.got (q * 174) 174 (by have := HBL.out; omega)
    change rowAt w2 b (q * 174) 174 = iA (rowB bs q) at r1
    go_wp2_with fail
    (with_reducible refine (HOW w2).mono ?_)
    rintro e w3 ⟨⟨g, c, rfl, hO3⟩, hb3⟩
    have hX3 := hX.below hb3 hX.lt
    have hB3 := hB2.trans (hb3.mono hB2.size)
    clear r1 h1 HOW hX hb2
    generalize sortedL (heirB (rowB bs q)) q = sl at *
    generalize hn : sl.length = n at *
    have HNN : Hid (1 ≤ n ∧ n ≤ 5) := hide (by have := HSL.out; omega)
    have HT := hide (fun (j : Nat) (hj : j < n) => rgtsL_take cs (l := sl) (j := j) (by omega))
    have HTB := hide (fun (j : Nat) => rgtsL_bd HN.out (l := sl.take j) (fun z hz => HSA.out z (List.mem_of_mem_take hz)))
    have HTL : Hid (∀ j, j ≤ n → (sl.take j).length = j) := hide fun j hj => by rw [List.length_take]; omega
    have HTA : Hid (rgtsL cs sl = rgtsL cs (sl.take n)) := hide (by rw [List.take_of_length_le (Nat.le_of_eq hn)])
    have HR := hide (fun (i : Nat) (hi : i < 5) w => rights1_any cs HN.out i hi w)
    have HRB := hide (fun (i : Nat) (hi : i < 5) => rgtU_bd HN.out hi (Nat.le_refl 5))
    clear hn HSL HSA HBL
    go_wp2_with fail
    go_loopw [8, 26] (fun s8 s26 wr => ∃ j : Nat, j ≤ n ∧ s26 = .int .i64 j ∧ s8 = .int .i64 (rgtsL cs (sl.take j)) ∧ IBlk wr p 58 cs ∧ IOwn wr w2.heap.size g n c sl ∧ Below w.heap.size w wr) (fun _ s26 _ => 5 - (intOf s26).toNat)
    case atStart => exact ⟨0, by omega, rfl, rfl, hX3, hO3, hB3⟩
    case round =>
      clear hX3 hO3 hB3
      obtain ⟨j, hj, rfl, rfl, hX, hO, hB⟩ := hrel
      have hn5 := HNN.out
      by_cases hlt : j < n
      · obtain ⟨i, hi, he⟩ := HSM.out j hlt
        obtain ⟨co, _⟩ := hO.cell hlt
        rw [he] at co
        have HT2 := HT.out j hlt
        rw [he] at HT2
        rw [show ((i : Int)).toNat = i from rfl] at HT2
        have HS := hide HT2
        have hbd := HTB.out j
        rw [HTL.out j hj] at hbd
        have hbd2 := HRB.out i hi
        have HRi := HR.out i hi wr
        obtain ⟨r1, h1⟩ := hX.whole hcl
        clear HT2 he
        generalize rgtsL cs (sl.take j) = v at hbd HS
        generalize rgtU cs i 5 = x at hbd2 HRi HS
        have dl : (j : Int) < (n : Int) := by omega
        have b3 : v + x ≤ 109951162777600 := by push_cast at hbd2; omega
        have b4 : -109951162777600 ≤ v + x := by push_cast at hbd2; omega
        have hgl : g < wr.heap.size := by
          obtain ⟨g', cap, hv, _, hlt'⟩ := (show wr.ownsRow w2.heap.size 3 1 (.slice (some ⟨g, 0, none⟩) n c) n (sl.map (Value.int .i64)) from hO).form (by omega)
          injection hv with hv1
          injection hv1 with hv2
          injection hv2 with hv3
          omega
        clear hbd hbd2
        go_wp2_with fail
        (with_reducible refine HRi.mono ?_)
        rintro e w5 ⟨rfl, hx⟩
        have hX5 := hX.below hx hX.lt
        have hO5 := hO.below hx hgl
        have hB5 := hB.trans (hx.mono hB.size)
        go_wp2_with fail
        go_roundw
        case rel => go_light; exact ⟨j + 1, by omega, by go_num, by rw [HS.out], hX5, hO5, hB5⟩
        case measure => go_light; simp [intOf]; omega
      · obtain rfl : j = n := by omega
        have HE := hide (HV.out.trans HTA.out)
        have dl : ¬ ((j : Int) < (j : Int)) := by omega
        go_wp2_with fail
        go_ret
        exact ⟨by rw [HE.out]; rfl, hB⟩
  · have HV : Hid (rightsV bs who k = 0) := hide (by rw [rightsV, if_neg hk])
    rw [Bool.not_eq_true] at hk
    go_enter Try.func13, Try.ntmps13
    go_wp2_with fail
    (with_reducible refine (machine_any who w).mono ?_)
    rintro e w' ⟨rfl, rfl⟩
    rw [hk]
    go_wp2_with fail
    go_ret
    exact ⟨by rw [HV.out]; rfl, Below.refl _ _⟩
end Go.Proofs.Ytlegcjniakocoaa
