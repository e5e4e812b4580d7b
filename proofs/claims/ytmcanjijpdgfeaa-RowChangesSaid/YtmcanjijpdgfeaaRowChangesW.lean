/- The walk of RowChanges: it returns true at all arguments and leaves what was there as it was. -/
import Derived.Test.YtmcanjijpdgfeaaRowG
import Derived.Test.YtmcanjijpdgfeaaRowC
import Derived.Test.YtmcanjijpdgfeaaBitsI
import Derived.Test.YtmcanjijpdgfeaaOpenA
import Derived.Deep.CutBlock
import Derived.Deep.Light
namespace Go.Proofs.Ytmcanjijpdgfeaa.rowChanges
open Go.RowKit

theorem layRow {w : World} {B : Nat} {a : World} {g : List Int} (hB : Below B a w) (hg : g.length = 174) (h : B ≤ w.heap.size) :
    Room (w.alloc (.cells (iA (zeros 174)) 28)) w.heap.size 0 174 ∧ IBlk ((w.alloc (.cells (iA (zeros 174)) 28)).setCells w.heap.size 0 (iV g)) w.heap.size 28 g ∧
      Only (fun _ => False) w ((w.alloc (.cells (iA (zeros 174)) 28)).setCells w.heap.size 0 (iV g)) ∧ Below B a ((w.alloc (.cells (iA (zeros 174)) 28)).setCells w.heap.size 0 (iV g)) := by
  have hnew : IBlk (w.alloc (.cells (iA (zeros 174)) 28)) w.heap.size 28 (zeros 174) := IBlk.new _ _ _
  have hO : Only (fun _ => False) w ((w.alloc (.cells (iA (zeros 174)) 28)).setCells w.heap.size 0 (iV g)) := Only.setCells _ (.inr (Nat.le_refl _)) _ _ ((Only.refl _ _).alloc _)
  exact ⟨hnew.room 0 174 (by rw [zeros_length]; decide), hnew.fill (by rw [hg, zeros_length]), hO, below_only hB hO (fun _ e => e.elim) h⟩
def kindBad (kz T : Int) : Bool := (kz == 2) && (decide (T < 0) || decide (5 ≤ T))
def fits (m : Int) : Bool := decide (1 ≤ m) && decide (m ≤ 1099511627776)
/-- What the law's own switch leaves: an error, or the changed row and its total. -/
def Sw (xs wz : List Int) (k : Nat) (K m T er tot : Int) : Prop :=
  (er = 5 ∧ tot = 0 ∧ wz = xs ∧ resV xs k K m T = (zeros 174, 5)) ∨
  (er = 0 ∧ ∃ kk f : Nat, kk < 4 ∧ f < 7 ∧ wz = chg xs kk f m ∧ 0 ≤ tot ∧ resV xs k K m T = if tot ≤ 1099511627776 then (bump wz (xs.getD 0 0), 0) else (zeros 174, 6))

theorem resV_bad {xs : List Int} {k : Nat} {K m T : Int} (h : inK K 4 = false ∨ fits m = false ∨ (k = 2 ∧ inK T 5 = false)) (hk : k < 3) : resV xs k K m T = (zeros 174, 5) := by
  have G : ∀ f, (inK K 4 = false ∨ fits m = false) → growV xs K m f = (zeros 174, 5) := fun f h => by
    rw [growV, if_neg]
    rintro ⟨h1, h2, h3⟩
    rcases h with h | h
    · rw [h] at h1; cases h1
    · have := inN_true.1 h3
      rw [fits, decide_eq_true h2, decide_eq_true this.2] at h; cases h
  unfold resV giveV
  rcases (by omega : k = 0 ∨ k = 1 ∨ k = 2) with rfl | rfl | rfl
  · rw [if_pos rfl]; exact G 0 (h.elim .inl fun h => h.elim .inr fun h => by omega)
  · rw [if_neg (by omega), if_pos rfl]; exact G 1 (h.elim .inl fun h => h.elim .inr fun h => by omega)
  · rw [if_neg (by omega), if_neg (by omega)]
    split
    · rename_i h5
      exact G _ (h.elim .inl fun h => h.elim .inr fun h => by rw [h.2] at h5; cases h5)
    · rfl
theorem sw_bad {xs : List Int} {k : Nat} {K m T : Int} (h : inK K 4 = false ∨ fits m = false ∨ (k = 2 ∧ inK T 5 = false)) (hk : k < 3) : Sw xs xs k K m T 5 0 := .inl ⟨rfl, rfl, rfl, resV_bad h hk⟩
theorem sw_in {xs : List Int} (hl : xs.length = 174) (ok : okRow xs = true) {kk f : Nat} (hk : kk < 4) (hf : f < 2) {m : Int} (h1 : 1 ≤ m) (h2 : m ≤ 1099511627776) (T : Int) : Sw xs (chg xs kk f m) f (kk : Int) m T 0 (xs.getD (1 + kk * 7 + f) 0 + m) := by
  have h0 := okRow_cell hl ok hk (f := f) (by omega)
  refine .inr ⟨rfl, kk, f, hk, by omega, rfl, by omega, ?_⟩
  have e : resV xs f (kk : Int) m T = growV xs (kk : Int) m f := by
    unfold resV
    rcases (by omega : f = 0 ∨ f = 1) with rfl | rfl <;> rfl
  rw [e, growV_in f hk h1 h2, chg_in hl ok hk hf h1]
  simp only [decide_eq_true_eq]
theorem sw_given {xs : List Int} (hl : xs.length = 174) (ok : okRow xs = true) {kk t : Nat} (hk : kk < 4) (ht : t < 5) {m : Int} (h1 : 1 ≤ m) (h2 : m ≤ 1099511627776) {tot : Int} (h0 : 0 ≤ tot) (hs : tot = (((chg xs kk (2 + t) m).drop (1 + kk * 7 + 2)).take 5).sum) : Sw xs (chg xs kk (2 + t) m) 2 (kk : Int) m (t : Int) 0 tot := by
  refine .inr ⟨rfl, kk, 2 + t, hk, by omega, rfl, h0, ?_⟩
  have e : resV xs 2 (kk : Int) m (t : Int) = growV xs (kk : Int) m (2 + t) := by
    unfold resV giveV
    rw [if_neg (by omega), if_neg (by omega), if_pos (inK_true.2 ⟨by omega, by omega⟩)]
    rfl
  rw [e, growV_in _ hk h1 h2, (chg_given hl ok hk ht h1).1, hs]
  simp only [decide_eq_true_eq]
theorem sw_res {xs wz : List Int} {k : Nat} {K m T er tot : Int} (hl : xs.length = 174) (h : Sw xs wz k K m T er tot) :
    wz.length = 174 ∧ wz.getD 0 0 = xs.getD 0 0 ∧ (er = 0 ∨ er = 5) ∧ ∃ zr e2, resV xs k K m T = (zr, e2) ∧ (if (er == 0 && decide (1099511627776 < tot)) = true then 6 else er) = e2 ∧ (e2 = 0 → zr = bump wz (xs.getD 0 0)) ∧ (e2 ≠ 0 → zr = zeros 174) := by
  rcases h with ⟨rfl, rfl, rfl, h⟩ | ⟨rfl, kk, f, hk, hf, rfl, h0, h⟩
  · exact ⟨hl, rfl, .inr rfl, _, _, h, rfl, fun e => by omega, fun _ => rfl⟩
  · have h1 : (chg xs kk f m).length = 174 := by rw [chg_length, hl]
    have h2 : (chg xs kk f m).getD 0 0 = xs.getD 0 0 := by rw [chg, getD_set (by omega), if_neg (by omega)]
    by_cases ht : tot ≤ 1099511627776
    · rw [if_pos ht] at h
      have d : decide (1099511627776 < tot) = false := decide_eq_false (by omega)
      exact ⟨h1, h2, .inl rfl, _, _, h, by rw [d]; rfl, fun _ => rfl, fun e => absurd rfl e⟩
    · rw [if_neg ht] at h
      have d : decide (1099511627776 < tot) = true := decide_eq_true (by omega)
      exact ⟨h1, h2, .inl rfl, _, _, h, by rw [d]; rfl, fun e => by simp at e, fun _ => rfl⟩
theorem sum_take {gs : List Int} {j : Nat} (hj : j < gs.length) : (gs.take (j + 1)).sum = (gs.take j).sum + gs.getD j 0 := by
  rw [List.take_succ_eq_append_getElem hj, List.sum_append]
  simp [List.getD, hj]

attribute [local go_sem ↓] loadRowF_fold storeRowF_fold buildRowF_fold allocRowF_fold loadInts5F_fold indexInts5F_fold
attribute [local go_sem] loadRowF_has storeRowF_has buildRowF_none allocRowF_run loadInts5F_has indexInts5F_at
set_option maxRecDepth 100000 in
set_option maxHeartbeats 60000000 in
theorem walk (w : World) (xs : List Int) (hl : xs.length = 174) (hw : wf64 xs) (hp : List Int) (hpl : hp.length = 2) (_ : wf64 hp) (n : Int) (_ : -9223372036854775808 ≤ n) (_ : n ≤ 9223372036854775807) :
    Calls Try.prog 3 #[.agg (iA xs), .agg (iA hp), .int .i64 n] w fun e w' => e = .returned (.bool true) ∧ Below w.heap.size w w' := by
  obtain ⟨K, T, rfl⟩ : ∃ K T, hp = [K, T] := by
    match hp, hpl with
    | [K, T], _ => exact ⟨_, _, rfl⟩
  obtain ⟨q4, hq4, hq4l⟩ : ∃ q : Nat, bits .and .i64 n 3 = (q : Int) ∧ q < 4 := ⟨(n % 4).toNat, by rw [show bits .and .i64 n 3 = n % 4 from i64_and_mask n 2 (by omega)]; omega, by omega⟩
  obtain ⟨k, hk, hk3⟩ : ∃ k : Nat, (q4 : Int) % 3 = (k : Int) ∧ k < 3 := ⟨q4 % 3, by omega, by omega⟩
  have hI0 : IBlk ((w.alloc (.cells (iA xs) 28)).alloc (.cells (iA [K, T]) 29)) w.heap.size 28 xs := (IBlk.new _ _ _).alloc _
  have hH0 : IBlk ((w.alloc (.cells (iA xs) 28)).alloc (.cells (iA [K, T]) 29)) (w.heap.size + 1) 29 [K, T] := by
    have := IBlk.new (w.alloc (.cells (iA xs) 28)) 29 [K, T]
    simpa using this
  have hB0 : Below w.heap.size w ((w.alloc (.cells (iA xs) 28)).alloc (.cells (iA [K, T]) 29)) := ((Below.refl _ _).alloc (Nat.le_refl _) _).alloc (by simp) _
  have HX := hide hl
  have HW := hide hw
  have RX := lawRight_any xs hl hw
  clear hl hw
  go_enter Try.func3, Try.ntmps3
  go_wp2_with fail
  generalize (w.alloc (.cells (iA xs) 28)).alloc (.cells (iA [K, T]) 29) = w0 at hI0 hH0 hB0
  (with_reducible refine (fit4_any w0).mono ?_)
  rintro e w1 ⟨rfl, hx⟩
  have hI1 := hI0.below hx hI0.lt
  have hH1 := hH0.below hx hH0.lt
  have hB1 := hB0.trans (hx.mono hB0.size)
  clear hI0 hH0 hB0 hx
  obtain ⟨r1, h1⟩ := hI1.whole HX.out
  go_wp2_with fail
  (with_reducible refine (RX w1).mono ?_)
  rintro e w2 ⟨rfl, hx⟩
  have hI2 := hI1.below hx hI1.lt
  have hH2 := hH1.below hx hH1.lt
  have hB2 := hB1.trans (hx.mono hB1.size)
  clear hI1 hH1 hB1 hx r1 h1 RX
  cases okx : okRow xs with
  | false =>
    go_wp2_with fail
    go_ret
    exact ⟨rfl, hB2⟩
  | true =>
  have HO := hide okx
  have v0 := okRow_v okx
  have c0 : w2.cell? ⟨w.heap.size, 0, none⟩ = some (.int .i64 (xs.getD 0 0)) := hI2.cell (by rw [HX.out]; go_light; omega)
  clear okx
  by_cases q1 : 1152921504606846976 < xs.getD 0 0
  · have d := decide_eq_true q1
    generalize xs.getD 0 0 = xv at *
    go_wp2_with fail
    go_ret
    exact ⟨rfl, hB2⟩
  have HV := hide (show 0 ≤ xs.getD 0 0 ∧ xs.getD 0 0 ≤ 1152921504606846976 from ⟨v0, by go_light; omega⟩)
  have d1 := decide_eq_false q1
  clear q1 v0
  generalize hxv : xs.getD 0 0 = xv at c0 d1
  clear hxv
  have cK : w2.drew.cell? ⟨w.heap.size + 1, 0, none⟩ = some (.int .i64 K) := hH2.drew.cellAt 0 K rfl
  have cT : w2.drew.cell? ⟨w.heap.size + 1, 1, none⟩ = some (.int .i64 T) := hH2.drew.cellAt 1 T rfl
  have hI2d := hI2.drew
  have hB2d := hB2.drew
  go_upto_region 5 with fail
  go_cut [7, 8] (fun s7 s8 wx => s7 = .int .i64 K ∧ s8 = .int .i64 T ∧ IBlk wx w.heap.size 28 xs ∧ Below w.heap.size w wx)
  case first =>
    as_aux_lemma =>
      go_region
      all_goals
        go_wp2_with fail
        go_meet
        exact ⟨rfl, rfl, hI2d, hB2d⟩
  case rest =>
    clear c0 d1 cK cT hI2 hH2 hB2 hI2d hB2d
    obtain ⟨rfl, rfl, hI, hB⟩ := hcut
    obtain ⟨r1, h1⟩ := hI.whole HX.out
    have hix : Is 174 xs := HX.out
    obtain ⟨rm, hP, hO, hBp⟩ := layRow (g := xs) hB HX.out hB.size
    have hIp := hI.only hO (fun h => h)
    have hpl := hI.lt
    have hsB := hB.size
    go_upto_region 7 with fail
    generalize hpe : wc.heap.size = p at hP hO hIp hBp hpl hsB
    generalize (wc.alloc (.cells (iA (zeros 174)) 28)).setCells p 0 (iV xs) = w3 at hP hO hIp hBp
    clear hpe rm hI hB r1 h1 hO
    go_upto_region 10 with fail
    generalize n / 4 = m
    rw [hk]
    clear hq4 hk
    go_cut [12] (fun s12 wx => s12 = .bool (inK K 4) ∧ wx = w3)
    case first =>
      as_aux_lemma =>
        by_cases h0 : 0 ≤ K
        · have d0 : decide (0 ≤ K) = true := decide_eq_true h0
          cases d1 : decide (K < 4) <;>
          · go_wp2_with fail
            go_meet
            exact ⟨by rw [inK, d0, d1]; rfl, rfl⟩
        · have d0 : decide (0 ≤ K) = false := decide_eq_false h0
          go_wp2_with fail
          go_meet
          exact ⟨by rw [inK, d0]; rfl, rfl⟩
    case rest =>
      obtain ⟨rfl, hcw⟩ := hcut
      have hcw := hcw.symm
      subst hcw
      go_upto_region 11 with fail
      go_cut [13] (fun s13 wx => s13 = .bool (fits m) ∧ wx = w3)
      case first =>
        as_aux_lemma =>
          by_cases h0 : 1 ≤ m
          · have d0 : decide (1 ≤ m) = true := decide_eq_true h0
            cases d1 : decide (m ≤ 1099511627776) <;>
            · go_wp2_with fail
              go_meet
              exact ⟨by rw [fits, d0, d1]; rfl, rfl⟩
          · have d0 : decide (1 ≤ m) = false := decide_eq_false h0
            go_wp2_with fail
            go_meet
            exact ⟨by rw [fits, d0]; rfl, rfl⟩
      case rest =>
        obtain ⟨rfl, hcw⟩ := hcut
        have hcw := hcw.symm
        subst hcw
        generalize hin : inK K 4 = kI
        generalize hfi : fits m = kF
        generalize hkz : (k : Int) = kz
        go_upto_block 0 with fail
        go_cut [10, 14] (fun s10 s14 wx => ∃ (er tot : Int) (wz : List Int), s10 = .int .i64 er ∧ s14 = .int .i64 tot ∧ IBlk wx w.heap.size 28 xs ∧ IBlk wx p 28 wz ∧ Below w.heap.size w wx ∧ Hid (Sw xs wz k K m T er tot))
        case first =>
          as_aux_lemma =>
            go_upto_region 19 with fail
            go_cut [76] (fun s76 wx => s76 = .bool (kindBad kz T) ∧ wx = w3)
            case first =>
              as_aux_lemma =>
                by_cases e : kz = 2
                · subst e
                  by_cases t0 : T < 0
                  · have d := decide_eq_true t0
                    go_wp2_with fail
                    go_meet
                    exact ⟨by rw [kindBad, d]; rfl, rfl⟩
                  · have d := decide_eq_false t0
                    cases d' : decide (5 ≤ T) <;>
                    · go_wp2_with fail
                      go_meet
                      exact ⟨by rw [kindBad, d, d']; rfl, rfl⟩
                · have e' : (kz == 2) = false := by simpa using e
                  go_wp2_with fail
                  go_meet
                  exact ⟨by rw [kindBad, e']; rfl, rfl⟩
            case rest =>
            obtain ⟨rfl, hcw⟩ := hcut
            have hcw := hcw.symm
            subst hcw
            generalize hkb : kindBad kz T = b19
            go_upto_if 76 with fail
            go_cut [76] (fun s76 wx => s76 = .bool (b19 || (!kI || !kF)) ∧ wx = w3)
            case first =>
              as_aux_lemma =>
                cases b19
                · cases kI
                  · go_wp2_with fail
                    go_meet
                    exact ⟨rfl, rfl⟩
                  · cases kF <;>
                    · go_wp2_with fail
                      go_meet
                      exact ⟨rfl, rfl⟩
                · go_wp2_with fail
                  go_meet
                  exact ⟨rfl, rfl⟩
            case rest =>
            obtain ⟨rfl, hcw⟩ := hcut
            have hcw := hcw.symm
            subst hcw
            cases hbb : (b19 || (!kI || !kF)) with
            | true =>
              have B : ∃ (er tot : Int) (wz : List Int), Value.int .i64 5 = .int .i64 er ∧ Value.int .i64 0 = .int .i64 tot ∧ IBlk w3 w.heap.size 28 xs ∧ IBlk w3 p 28 wz ∧ Below w.heap.size w w3 ∧ Hid (Sw xs wz k K m T er tot) :=
                ⟨5, 0, xs, rfl, rfl, hIp, hP, hBp, sw_bad (by
                  rw [hin, hfi]
                  cases kI
                  · exact .inl rfl
                  · cases kF
                    · exact .inr (.inl rfl)
                    · have hb19 : b19 = true := by simpa using hbb
                      rw [hb19, kindBad] at hkb
                      simp only [Bool.and_eq_true, Bool.or_eq_true, beq_iff_eq, decide_eq_true_eq] at hkb
                      exact .inr (.inr ⟨by go_light; omega, by rw [← Bool.not_eq_true, inK_true]; go_light; omega⟩)) hk3⟩
              clear hkb hin hfi
              go_wp2_with fail
              go_meet
              exact B
            | false =>
              obtain ⟨rfl, rfl, rfl⟩ : b19 = false ∧ kI = true ∧ kF = true := by
                cases b19 <;> cases kI <;> cases kF <;> simp at hbb ⊢
              clear hbb
              have hT : kz = 2 → 0 ≤ T ∧ T < 5 := fun e => by
                rw [kindBad, e] at hkb
                simp at hkb
                go_light; omega
              clear hkb
              obtain ⟨kk, rfl⟩ : ∃ kk : Nat, K = (kk : Int) := ⟨K.toNat, by have := inK_true.1 hin; go_light; omega⟩
              have hk4 : kk < 4 := by have := (inK_true.1 hin).2; go_light; omega
              have hm1 : 1 ≤ m ∧ m ≤ 1099511627776 := by simpa [fits] using hfi
              rcases (by go_light; omega : k = 0 ∨ k = 1 ∨ k = 2) with rfl | rfl | rfl
              · as_aux_lemma =>
                  obtain rfl : kz = 0 := by go_light; omega
                  have hx := okRow_cell HX.out HO.out hk4 (f := 0) (by go_light; omega)
                  have SW := hide (sw_in HX.out HO.out hk4 (f := 0) (by go_light; omega) hm1.1 hm1.2 T)
                  rw [Nat.add_zero] at hx SW
                  have cx : w3.cell? ⟨p, 1 + kk * 7, none⟩ = some (.int .i64 (xs.getD (1 + kk * 7) 0)) := hP.cell (by rw [HX.out]; go_light; omega)
                  have zx := hP.frozen (1 + kk * 7)
                  have hP2 := hP.set (1 + kk * 7) (xs.getD (1 + kk * 7) 0 + m)
                  rw [show xs.set (1 + kk * 7) (xs.getD (1 + kk * 7) 0 + m) = chg xs kk 0 m from rfl] at hP2
                  have oP := only_cell w3 p (1 + kk * 7) (.int .i64 (xs.getD (1 + kk * 7) 0 + m))
                  have hI2 := hIp.only oP (by go_light; omega)
                  have hB2 := below_only hBp oP (fun i (e : i = p) => by go_light; omega) hBp.size
                  have cx2 : (w3.setCell ⟨p, 1 + kk * 7, none⟩ (.int .i64 (xs.getD (1 + kk * 7) 0 + m))).cell? ⟨p, 1 + kk * 7, none⟩ = some (.int .i64 (xs.getD (1 + kk * 7) 0 + m)) := by
                    rw [hP2.cell (by rw [chg_length, HX.out]; go_light; omega), chg, getD_set (by rw [HX.out]; go_light; omega), if_pos (Nat.add_zero _)]; rfl
                  clear oP hP hIp hBp
                  generalize xs.getD (1 + kk * 7) 0 = x at hx SW cx hP2 hI2 hB2 cx2
                  have b1 : x + m ≤ 2199023255552 := by go_light; omega
                  have b0 : 0 ≤ x + m := by go_light; omega
                  go_upto_region 25 with fail
                  generalize w3.setCell ⟨p, 1 + kk * 7, none⟩ (.int .i64 (x + m)) = w4 at hP2 hI2 hB2 cx2
                  go_wp2_with fail
                  go_meet
                  exact ⟨0, x + m, _, rfl, rfl, hI2, hP2, hB2, SW⟩
              · as_aux_lemma =>
                  obtain rfl : kz = 1 := by go_light; omega
                  have hx := okRow_cell HX.out HO.out hk4 (f := 1) (by go_light; omega)
                  have SW := hide (sw_in HX.out HO.out hk4 (f := 1) (by go_light; omega) hm1.1 hm1.2 T)
                  have cx : w3.cell? ⟨p, 1 + kk * 7 + 1, none⟩ = some (.int .i64 (xs.getD (1 + kk * 7 + 1) 0)) := hP.cell (by rw [HX.out]; go_light; omega)
                  have zx := hP.frozen (1 + kk * 7 + 1)
                  have hP2 := hP.set (1 + kk * 7 + 1) (xs.getD (1 + kk * 7 + 1) 0 + m)
                  rw [show xs.set (1 + kk * 7 + 1) (xs.getD (1 + kk * 7 + 1) 0 + m) = chg xs kk 1 m from rfl] at hP2
                  have oP := only_cell w3 p (1 + kk * 7 + 1) (.int .i64 (xs.getD (1 + kk * 7 + 1) 0 + m))
                  have hI2 := hIp.only oP (by go_light; omega)
                  have hB2 := below_only hBp oP (fun i (e : i = p) => by go_light; omega) hBp.size
                  have cx2 : (w3.setCell ⟨p, 1 + kk * 7 + 1, none⟩ (.int .i64 (xs.getD (1 + kk * 7 + 1) 0 + m))).cell? ⟨p, 1 + kk * 7 + 1, none⟩ = some (.int .i64 (xs.getD (1 + kk * 7 + 1) 0 + m)) := by
                    rw [hP2.cell (by rw [chg_length, HX.out]; go_light; omega), chg, getD_set (by rw [HX.out]; go_light; omega), if_pos rfl]
                  clear oP hP hIp hBp
                  generalize xs.getD (1 + kk * 7 + 1) 0 = x at hx SW cx hP2 hI2 hB2 cx2
                  have b1 : x + m ≤ 2199023255552 := by go_light; omega
                  have b0 : 0 ≤ x + m := by go_light; omega
                  go_upto_region 28 with fail
                  generalize w3.setCell ⟨p, 1 + kk * 7 + 1, none⟩ (.int .i64 (x + m)) = w4 at hP2 hI2 hB2 cx2
                  go_wp2_with fail
                  go_meet
                  exact ⟨0, x + m, _, rfl, rfl, hI2, hP2, hB2, SW⟩
              · as_aux_lemma =>
                  obtain rfl : kz = 2 := by go_light; omega
                  obtain ⟨t, rfl⟩ : ∃ t : Nat, T = (t : Int) := ⟨T.toNat, by have := hT rfl; go_light; omega⟩
                  have ht5 : t < 5 := by have := hT rfl; go_light; omega
                  have hx := okRow_cell HX.out HO.out hk4 (f := 2 + t) (by go_light; omega)
                  have e2 : 1 + kk * 7 + (2 + t) = 1 + kk * 7 + 2 + t := by go_light; omega
                  have SWG : Hid (∀ tot : Int, 0 ≤ tot → tot = (((chg xs kk (2 + t) m).drop (1 + kk * 7 + 2)).take 5).sum → Sw xs (chg xs kk (2 + t) m) 2 (kk : Int) m (t : Int) 0 tot) := hide fun tot h0 h1 => sw_given HX.out HO.out hk4 ht5 hm1.1 hm1.2 h0 h1
                  have GB := hide (chg_given HX.out HO.out hk4 ht5 hm1.1).2
                  have chl : (chg xs kk (2 + t) m).length = 174 := by rw [chg_length, HX.out]
                  rw [e2] at hx
                  have cx : w3.drew.cell? ⟨p, 1 + kk * 7 + 2 + t, none⟩ = some (.int .i64 (xs.getD (1 + kk * 7 + 2 + t) 0)) := hP.drew.cell (by rw [HX.out]; go_light; omega)
                  have zx := hP.drew.frozen (1 + kk * 7 + 2 + t)
                  have hP2 := hP.drew.set (1 + kk * 7 + 2 + t) (xs.getD (1 + kk * 7 + 2 + t) 0 + m)
                  rw [show xs.set (1 + kk * 7 + 2 + t) (xs.getD (1 + kk * 7 + 2 + t) 0 + m) = chg xs kk (2 + t) m by rw [chg, e2]] at hP2
                  have oP := ((Only.refl (· = p) w3).drew).setCell (p := ⟨p, 1 + kk * 7 + 2 + t, none⟩) (.inl rfl) (.int .i64 (xs.getD (1 + kk * 7 + 2 + t) 0 + m))
                  have hI2 := hIp.only oP (by go_light; omega)
                  have hB2 := below_only hBp oP (fun i (e : i = p) => by go_light; omega) hBp.size
                  clear oP e2
                  generalize xs.getD (1 + kk * 7 + 2 + t) 0 = x at hx cx hP2 hI2 hB2
                  generalize chg xs kk (2 + t) m = cz at SWG GB chl hP2
                  have b1 : x + m ≤ 2199023255552 := by go_light; omega
                  have b0 : 0 ≤ x + m := by go_light; omega
                  go_upto_region 13 with fail
                  go_cut [16] (fun s16 wx => s16 = s16 ∧ IBlk wx w.heap.size 28 xs ∧ IBlk wx p 28 cz ∧ Below w.heap.size w wx)
                  case first =>
                    as_aux_lemma =>
                      clear SWG GB hP hIp hBp
                      go_region
                      all_goals
                        go_wp2_with fail
                        go_meet
                        exact ⟨trivial, hI2, hP2, hB2⟩
                  case rest =>
                    clear hI2 hP2 hB2 cx zx hP hIp hBp
                    obtain ⟨_, hI2, hP2, hB2⟩ := hcut
                    obtain ⟨r5, h5⟩ := hP2.got (1 + kk * 7 + 2) 5 (by go_light; omega)
                    have hl5 : Is 5 ((cz.drop (1 + kk * 7 + 2)).take 5) := by show _ = _; rw [List.length_take, List.length_drop, chl]; go_light; omega
                    generalize (cz.drop (1 + kk * 7 + 2)).take 5 = gs at r5 hl5 SWG GB
                    have H5 := hide hl5
                    go_wp2_with fail
                    clear r5 h5
                    go_loopw [14, 69] (fun s i wr => ∃ (j : Nat) (tot : Int), j ≤ 5 ∧ i = .int .i64 j ∧ s = .int .i64 tot ∧ 0 ≤ tot ∧ tot ≤ 2199023255552 * j ∧ Hid (tot = (gs.take j).sum) ∧ IBlk wr w.heap.size 28 xs ∧ IBlk wr p 28 cz ∧ Below w.heap.size w wr) (fun _ i _ => 5 - (intOf i).toNat)
                    case atStart => exact ⟨0, 0, by go_light; omega, rfl, rfl, by go_light; omega, by go_light; omega, rfl, hI2, hP2, hB2⟩
                    case round =>
                      clear hI2 hP2 hB2
                      obtain ⟨j, tot, hj, rfl, rfl, a0, a1, HT, hI2, hP2, hB2⟩ := hrel
                      by_cases hlt : j < 5
                      · have hix := indexInts5F_at (l := gs) hlt hl5
                        have hg5 : gs.length = 5 := H5.out
                        have hg : 0 ≤ gs.getD j 0 ∧ gs.getD j 0 ≤ 2199023255552 := by
                          have hjl : j < gs.length := by go_light; omega
                          have := GB.out gs[j] (List.getElem_mem _)
                          rw [show gs.getD j 0 = gs[j] by simp [List.getD, hjl]]
                          go_light; omega
                        have HT2 := hide (show tot + gs.getD j 0 = (gs.take (j + 1)).sum by rw [sum_take (by go_light; omega), HT.out])
                        clear hg5
                        generalize gs.getD j 0 = g at hix hg HT2
                        have b2 : tot + g ≤ 21990232555520 := by go_light; omega
                        go_wp2_with fail
                        go_roundw
                        case rel => go_light; exact ⟨j + 1, tot + g, by go_light; omega, by go_num, rfl, by go_light; omega, by go_light; omega, HT2, hI2, hP2, hB2⟩
                        case measure => go_light; simp [intOf]; omega
                      · obtain rfl : j = 5 := by go_light; omega
                        have SW := hide (SWG.out tot a0 (by rw [HT.out, List.take_of_length_le (Nat.le_of_eq H5.out)]))
                        go_wp2_with fail
                        go_meet
                        exact ⟨0, tot, _, rfl, rfl, hI2, hP2, hB2, SW⟩
        case rest =>
          clear hP hIp hBp
          obtain ⟨er, tot, wz, rfl, rfl, hI, hP, hB, HS⟩ := hcut
          obtain ⟨hwl, hwv, hE, zr, e2, hres, he2, hz0, hz1⟩ := sw_res HX.out HS.out
          have HR := hide hres
          obtain ⟨hzl, hzw, hzo⟩ := resV_facts HX.out HW.out HO.out HV.out.2 k K m T hres
          have HZ := hide (And.intro hzl (And.intro hzw hzo))
          have HZ0 := hide hz0
          have HZ1 := hide hz1
          have HE2 := hide he2
          have HWV := hide hwv
          clear hres hzl hzw hzo hz0 hz1 he2 hwv HS
          go_upto_region 29 with fail
          go_cut [132] (fun s132 wx => s132 = .bool (er == 0 && decide (1099511627776 < tot)) ∧ IBlk wx w.heap.size 28 xs ∧ IBlk wx p 28 wz ∧ Below w.heap.size w wx)
          case first =>
            as_aux_lemma =>
              rcases hE with rfl | rfl
              · cases d : decide (1099511627776 < tot) <;>
                · go_wp2_with fail
                  go_meet
                  exact ⟨by rw [d]; rfl, hI, hP, hB⟩
              · go_wp2_with fail
                go_meet
                exact ⟨rfl, hI, hP, hB⟩
          case rest =>
          clear hI hP hB
          obtain ⟨rfl, hI, hP, hB⟩ := hcut
          generalize hbb : (er == 0 && decide (1099511627776 < tot)) = bb
          have HBB := hide hbb
          clear hbb
          go_upto_if 132 with fail
          go_cut [10] (fun s10 wx => s10 = .int .i64 (if bb = true then 6 else er) ∧ IBlk wx w.heap.size 28 xs ∧ IBlk wx p 28 wz ∧ Below w.heap.size w wx)
          case first =>
            as_aux_lemma =>
              cases bb <;>
              · go_wp2_with fail
                go_meet
                exact ⟨rfl, hI, hP, hB⟩
          case rest =>
          clear hI hP hB
          obtain ⟨rfl, hI, hP, hB⟩ := hcut
          rw [show (if bb = true then 6 else er) = e2 by rw [← HBB.out]; exact HE2.out]
          have hv := HV.out
          have cv : wc.cell? ⟨p, 0, none⟩ = some (.int .i64 (xs.getD 0 0)) := by rw [← HWV.out]; exact hP.cell (by go_light; omega)
          have zv := hP.frozen 0
          have hP2 := hP.set 0 (xs.getD 0 0 + 1)
          rw [show wz.set 0 (xs.getD 0 0 + 1) = bump wz (xs.getD 0 0) from rfl] at hP2
          have oP := only_cell wc p 0 (.int .i64 (xs.getD 0 0 + 1))
          have hI2 := hI.only oP (by go_light; omega)
          have hB2 := below_only hB oP (fun i (e : i = p) => by go_light; omega) hB.size
          have hbl : (bump wz (xs.getD 0 0)).length = 174 := by rw [bump, List.length_set, hwl]
          clear oP hI hP hB hwl
          generalize bump wz (xs.getD 0 0) = zb at hP2 HZ0 hbl
          generalize xs.getD 0 0 = v at cv hP2 hI2 hB2 hv
          go_upto_region 32 with fail
          generalize wc.setCell ⟨p, 0, none⟩ (.int .i64 (v + 1)) = w5 at hP2 hI2 hB2
          clear cv zv hv
          go_upto_if 138 with fail
          go_cut [10] (fun s10 wx => s10 = .int .i64 e2 ∧ IBlk wx w.heap.size 28 xs ∧ IBlk wx p 28 zr ∧ Below w.heap.size w wx)
          case first =>
            as_aux_lemma =>
              by_cases e : e2 = 0
              · have hz := HZ0.out e
                subst hz
                subst e
                go_wp2_with fail
                go_meet
                exact ⟨rfl, hI2, hP2, hB2⟩
              · have hz := HZ1.out e
                have HZZ := hide hz
                have e' : (e2 == 0) = false := by simpa using e
                have e1 : (e2 != 0) = true := by simpa using e
                clear hz e
                have iz := is_zeros 174
                have hrm := hP2.room 0 174 (by go_light; omega)
                have hPz := hP2.fill (ys := zeros 174) (by rw [hbl, zeros_length])
                have oz := only_cells w5 p 0 (iV (zeros 174))
                have hI3 := hI2.only oz (by go_light; omega)
                have hB3 := below_only hB2 oz (fun i (e : i = p) => by go_light; omega) hB2.size
                have HP := hide (And.intro hPz (And.intro hI3 hB3))
                clear hPz oz hI3 hB3 hI2 hB2 hbl
                go_wp2_with fail
                go_meet
                exact ⟨rfl, HP.out.2.1, by rw [HZZ.out]; exact HP.out.1, HP.out.2.2⟩
          case rest =>
          clear hI2 hP2 hB2 hbl HZ0 HZ1 HE2 HBB
          obtain ⟨rfl, hI, hP, hB⟩ := hcut
          have hIl := hI.lt
          have hPl := hP.lt
          have hBs := hB.size
          have hG1 : IBlk (wc.alloc (.cells (iA (zeros 174)) 28)) wc.heap.size 28 (zeros 174) := IBlk.new _ _ _
          have hI1 := hI.alloc (.cells (iA (zeros 174)) 28)
          have hP1 := hP.alloc (.cells (iA (zeros 174)) 28)
          have hB1 := hB.alloc hBs (.cells (iA (zeros 174)) 28)
          go_upto_block 3 with fail
          generalize hge : wc.heap.size = g at hG1 hIl hPl hBs
          generalize wc.alloc (.cells (iA (zeros 174)) 28) = w6 at hG1 hI1 hP1 hB1
          clear hI hP hB hge
          have hzi : Is 174 zr := HZ.out.1
          go_cut [18] (fun s18 wx => s18 = .int .i64 e2 ∧ IBlk wx g 28 zr ∧ IBlk wx p 28 zr ∧ Below w.heap.size w wx)
          case first =>
            as_aux_lemma =>
              obtain ⟨r1, h1⟩ := hI1.whole HX.out
              have after : ∀ w7, Below w6.heap.size w6 w7 → Room w7 g 0 174 ∧ IBlk (w7.setCells g 0 (iV zr)) g 28 zr ∧ IBlk (w7.setCells g 0 (iV zr)) p 28 zr ∧ Below w.heap.size w (w7.setCells g 0 (iV zr)) := fun w7 hx => by
                have hG7 := hG1.below hx hG1.lt
                have hP7 := hP1.below hx hP1.lt
                have hB7 := hB1.trans (hx.mono hB1.size)
                exact ⟨hG7.room 0 174 (by rw [zeros_length]; decide), hG7.fill (by rw [HZ.out.1, zeros_length]), hP7.only (only_cells w7 g 0 (iV zr)) (by go_light; omega), below_only hB7 (only_cells w7 g 0 (iV zr)) (fun i (e : i = g) => by go_light; omega) hB7.size⟩
              rcases (by go_light; omega : k = 0 ∨ k = 1 ∨ k = 2) with rfl | rfl | rfl
              · as_aux_lemma =>
                  obtain rfl : kz = 0 := by go_light; omega
                  have HC := inc_any xs HX.out HO.out HV.out.2 K m w6
                  rw [show growV xs K m 0 = (zr, e2) from HR.out] at HC
                  go_wp2_with fail
                  (with_reducible refine HC.mono ?_)
                  rintro e w7 ⟨rfl, hx⟩
                  obtain ⟨hrm, a1, a2, a3⟩ := after w7 hx
                  go_wp2_with fail
                  go_meet
                  exact ⟨rfl, a1, a2, a3⟩
              · as_aux_lemma =>
                  obtain rfl : kz = 1 := by go_light; omega
                  have HC := dec_any xs HX.out HO.out HV.out.2 K m w6
                  rw [show growV xs K m 1 = (zr, e2) from HR.out] at HC
                  go_wp2_with fail
                  (with_reducible refine HC.mono ?_)
                  rintro e w7 ⟨rfl, hx⟩
                  obtain ⟨hrm, a1, a2, a3⟩ := after w7 hx
                  go_wp2_with fail
                  go_meet
                  exact ⟨rfl, a1, a2, a3⟩
              · as_aux_lemma =>
                  obtain rfl : kz = 2 := by go_light; omega
                  have HC := give_any xs HX.out HO.out HV.out.2 K m T w6
                  rw [show giveV xs K m T = (zr, e2) from HR.out] at HC
                  go_wp2_with fail
                  (with_reducible refine HC.mono ?_)
                  rintro e w7 ⟨rfl, hx⟩
                  obtain ⟨hrm, a1, a2, a3⟩ := after w7 hx
                  go_wp2_with fail
                  go_meet
                  exact ⟨rfl, a1, a2, a3⟩
          case rest =>
          clear hG1 hI1 hP1 hB1 HR
          obtain ⟨rfl, hG, hP, hB⟩ := hcut
          obtain ⟨hzl, hzw, hzo⟩ := HZ.out
          obtain ⟨rg, hg⟩ := hG.whole hzl
          obtain ⟨rp, hp'⟩ := hP.whole hzl
          have hq : ∀ w, (Op.equalIn 10000 28 (.agg (iA zr)) (.agg (iA zr))).run Try.prog w = .ok true w := fun w => by
            have := Try.eqRow hzl hzl hzw hzw w
            simpa using this
          by_cases e : e2 = 0
          · have RR := rowRight_any zr hzl hzw wc
            rw [hzo e] at RR
            subst e
            clear hzo hG hP HZ
            go_wp2_with fail
            (with_reducible refine RR.mono ?_)
            rintro e w9 ⟨rfl, hx⟩
            go_wp2_with fail
            go_ret
            exact ⟨rfl, hB.trans (hx.mono hB.size)⟩
          · have e' : (e2 == 0) = false := by simpa using e
            have e1 : (e2 != 0) = true := by simpa using e
            clear hzo hG hP HZ
            go_wp2_with fail
            go_ret
            exact ⟨rfl, hB⟩
end Go.Proofs.Ytmcanjijpdgfeaa.rowChanges
