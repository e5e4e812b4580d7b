/- One more record is put. -/
import Derived.Test.YtccdifplpbnclaaDoorWalO
namespace Go.Proofs.YtccdifplpbnclaaDoor
open Go.RowKit Go.Maps

attribute [local go_sem ↓] loadS_fold storeS_fold allocS_fold sliceS_fold
attribute [local go_sem] loadS_has storeS_has allocS_run sliceS_all

/-- How many writes are left behind so many. -/
def lfJ (ar : Bool) (lf : Int) (j : Nat) : Int := if ar = true then lf - j else lf
theorem padB_sec {s : List Int} (h : s.length = 64) : padB s = s := by unfold padB; rw [h]; simp
theorem wrt_ok {f : Sects} {ws : List (Int × List Int)} {ar : Bool} {lf x : Int} {j : Nat} {s : List Int} (h0 : 0 ≤ x) (h1 : x < 2048) (hs : s.length = 64) (ha : ar = true → (j : Int) < lf) :
    wrtS x s ⟨f, ws, ar, lfJ ar lf j, false⟩ = (0, ⟨f, ws ++ [(x, s)], ar, lfJ ar lf (j + 1), false⟩) := by
  unfold wrtS
  rw [if_neg (by rw [hs]; omega), padB_sec hs]
  unfold takS lfJ
  cases ar with
  | false => simp
  | true =>
    have := ha rfl
    have hne : ¬ (lf - (j : Int) = 0) := by omega
    simp [hne]
    omega
theorem wrt_down {f : Sects} {ws : List (Int × List Int)} {lf x : Int} {j : Nat} {s : List Int} (h0 : 0 ≤ x) (h1 : x < 2048) (hs : s.length = 64) (ha : lf = j) :
    wrtS x s ⟨f, ws, true, lfJ true lf j, false⟩ = (4, ⟨f, ws, true, 0, true⟩) := by
  unfold wrtS
  rw [if_neg (by rw [hs]; omega)]
  subst ha
  simp [takS, lfJ]
def PutPost (w : World) (B : Nat → Prop) (d N l k e : Nat) (f : Sects) (ar : Bool) (lf : Int) (zs : List Int) (x : Ending) (w' : World) : Prop :=
  ∃ B', (∀ b, B' b → B b ∨ w.heap.size ≤ b) ∧ Only (fun i => B i ∨ i = l) w w' ∧
    ((x = .returned (.int .i64 2) ∧ 3000 < zs.length ∧ DiskAt w' B' d N ⟨f, [], ar, lf, false⟩ ∧ LogIs w' l d k e) ∨
     (x = .returned (.int .i64 3) ∧ zs.length ≤ 3000 ∧ 2048 < e + pcs zs.length ∧ DiskAt w' B' d N ⟨f, [], ar, lf, false⟩ ∧ LogIs w' l d k e) ∨
     (x = .returned (.int .i64 4) ∧ zs.length ≤ 3000 ∧ e + pcs zs.length ≤ 2048 ∧ ar = true ∧ lf < pcs zs.length ∧ DiskAt w' B' d (N + pcs zs.length) ⟨f, putWs (k + 1) e zs lf.toNat, true, 0, true⟩ ∧ LogIs w' l d k e) ∨
     (x = .returned (.int .i64 0) ∧ zs.length ≤ 3000 ∧ e + pcs zs.length ≤ 2048 ∧ (ar = true → (pcs zs.length : Int) ≤ lf) ∧ DiskAt w' B' d (N + pcs zs.length) ⟨syncF f (putWs (k + 1) e zs (pcs zs.length)), [], ar, lfJ ar lf (pcs zs.length), false⟩ ∧ LogIs w' l d (k + 1) (e + pcs zs.length)))
set_option maxRecDepth 100000 in
set_option maxHeartbeats 8000000 in
theorem Put_runs (w : World) (B : Nat → Prop) (d N l k e n c : Nat) (f : Sects) (ar : Bool) (lf : Int) (A : Option Addr) (zs : List Int) (h : DiskAt w B d N ⟨f, [], ar, lf, false⟩) (hN : N + 64 < 50000) (hL : LogIs w l d k e) (hnl : ¬ B l) (hT : Laid w)
    (hR : Reads w w.heap.size 1 A n (u8V zs)) (hnc : n ≤ c) (hcm : c ≤ maxLen) (hz : bytes8 zs) (hk : k ≤ 10000) (he : e ≤ 2048) :
    Calls Tryd.prog 14 #[.pointer (some ⟨l, 0, none⟩), .slice A n c] w (PutPost w B d N l k e f ar lf zs) := by
  obtain rfl : n = zs.length := by have := hR.1; rw [u8V_length] at this; omega
  have hcm2 : c ≤ 9223372036854775807 := hcm
  have hlt := h.lt
  have hll := VBlk.lt hL
  go_enter Tryd.func14, Tryd.ntmps14
  by_cases g1 : 3000 < zs.length
  · have d1 : (3000 : Int) < (zs.length : Int) := by omega
    go_wp2_with fail
    go_ret
    exact ⟨B, fun _ h => .inl h, Only.refl _ _, .inl ⟨rfl, g1, h, hL⟩⟩
  · have d1 : ¬ (3000 : Int) < (zs.length : Int) := by omega
    have hp58 := pcs_le (show zs.length ≤ 3000 by omega)
    have hp0 := pcs_pos zs.length
    by_cases g2 : 2048 < e + pcs zs.length
    · have d2 : ((2048 - e : Nat) : Int) < (pcs zs.length : Int) := by omega
      go_wp2_with fail
      (with_reducible refine (Pieces_runs w zs.length (by omega)).mono ?_)
      rintro x w1 ⟨rfl, rfl⟩
      go_wp2_with fail
      (with_reducible refine (Room_runs w l d k e hL he).mono ?_)
      rintro x w1 ⟨rfl, rfl⟩
      go_wp2_with fail
      go_ret
      exact ⟨B, fun _ h => .inl h, Only.refl _ _, .inr (.inl ⟨rfl, by omega, g2, h, hL⟩)⟩
    · have d2 : ¬ ((2048 - e : Nat) : Int) < (pcs zs.length : Int) := by omega
      have c1 := VBlk.cellAt hL (i := 1) rfl
      have hsr := sectors_runs w (k + 1) zs.length c A zs hT hR (by omega) hnc hcm hz (by omega)
      rw [show ((k + 1 : Nat) : Int) = (k : Int) + 1 from rfl] at hsr
      go_wp2_with fail
      (with_reducible refine (Pieces_runs w zs.length (by omega)).mono ?_)
      rintro x w1 ⟨rfl, rfl⟩
      go_wp2_with fail
      (with_reducible refine (Room_runs w l d k e hL he).mono ?_)
      rintro x w1 ⟨rfl, rfl⟩
      go_wp2_with fail
      (with_reducible refine hsr.mono ?_)
      rintro x w5 ⟨g, rfl, hg, hS, hB5⟩
      have D5 := h.below hB5
      have L5 : LogIs w5 l d k e := VBlk.below hL hB5 hll
      have hs5 := hB5.size
      have hgl : g < w5.heap.size := VBlk.lt hS
      have HS := secsL_sects (k + 1) hz
      have HL : (secsL (k + 1) zs).length = pcs zs.length := secsL_len _ _
      have HP : ∀ j (hj : j < (secsL (k + 1) zs).length), putWs (k + 1) e zs (j + 1) = putWs (k + 1) e zs j ++ [((e : Int) + (j : Int), (secsL (k + 1) zs)[j])] := fun j hj => by rw [putWs_succ, secsL_at]; rfl
      clear hsr c1
      generalize hp : pcs zs.length = p at *
      go_wp2_with fail
      go_loopw [5, 6, 7, 28] (fun _ _ _ s28 wr => ∃ (j : Nat) (Bj : Nat → Prop), j ≤ p ∧ s28 = .int .i64 j ∧ (ar = true → (j : Int) ≤ lf) ∧ DiskAt wr Bj d (N + j) ⟨f, putWs (k + 1) e zs j, ar, lfJ ar lf j, false⟩ ∧ Moved B Bj w5 wr) (fun _ _ _ s28 _ => p - (intOf s28).toNat)
      case atStart =>
        have e0 : lfJ ar lf 0 = lf := by unfold lfJ; split <;> simp
        exact ⟨0, B, Nat.zero_le _, rfl, fun _ => h.left0, by rw [e0]; exact D5, Moved.refl _ _⟩
      case round =>
        obtain ⟨j, Bj, hj, rfl, hlf, hD, hM⟩ := hrel
        have hL : LogIs wr l d k e := VBlk.only L5 hM.2 hnl
        have hSr : SBlk wr g (secsL (k + 1) zs) := VBlk.only hS hM.2 (fun e => by have := hlt g e; omega)
        have hwr := hM.2.size
        by_cases hjp : j < p
        · have dl : (j : Int) < (p : Int) := by omega
          have hjL : j < (secsL (k + 1) zs).length := by omega
          obtain ⟨rr, hh⟩ := hSr.at_ HS hjL
          have hse : Sect (secsL (k + 1) zs)[j] := HS _ (List.getElem_mem _)
          have hpw := HP j hjL
          generalize (secsL (k + 1) zs)[j] = s at *
          have hi : Is 64 (u8V s) := ⟨hse.vlen, u8V_one _⟩
          obtain ⟨r6, _, hs6, hB6⟩ := new_fill (n0 := wr.heap.size) (w0 := wr) (w := wr) hse (Below.refl _ _) (Nat.le_refl _)
          have D6 := hD.below hB6
          have L6 : LogIs _ l d k e := VBlk.below hL hB6 (by omega)
          have M6 : Moved Bj Bj wr _ := Moved.of_below hB6
          have hg6 : ¬ Bj wr.heap.size := fun e => by have := hD.lt _ e; omega
          go_upto_region 8 with fail
          clear rr hh r6 hSr
          generalize (wr.alloc (.cells (u8V zs64).toArray 61)).setCells wr.heap.size 0 (u8V s) = w7 at *
          generalize wr.heap.size = g6 at *
          have k0 := (VBlk.drew L6).cellAt (i := 0) rfl
          have k2 := (VBlk.drew L6).cellAt (i := 2) rfl
          have hg7 := hs6.lt
          have hRd : Reads w7.drew w7.drew.heap.size 1 (some ⟨g6, 0, none⟩) 64 (u8V s) := by
            have := hs6.drew.reads (n := 64) (B := w7.drew.heap.size) (by rw [hse.vlen]; exact Nat.le_refl _) hg7
            rwa [List.take_of_length_le (by rw [hse.vlen]; exact Nat.le_refl _)] at this
          have hw7 : IntKind.i64.wrap ((e : Int) + (j : Int)) = (e : Int) + (j : Int) := IntWalk.i64_in _ (by omega)
          have hWr := Write_runs w7.drew Bj d (N + j) _ ((e : Int) + (j : Int)) (some ⟨g6, 0, none⟩) 64 64 w7.drew.heap.size s D6.drew (by omega) (by omega) (by omega) hRd (Nat.le_refl _) (fun _ ad ha _ => by injection ha with ha; subst ha; exact hg6) (by decide) hse.2
          by_cases ha : ar = true ∧ lf = j
          · obtain ⟨rfl, ha⟩ := ha
            rw [wrt_down (by omega) (by omega) hse.1 ha] at hWr
            clear D6 L6 hs6 hRd hD hL
            go_region_with (go_at_call 20; refine hWr.mono ?_; rintro x w8 ⟨rfl, B8, D8, M8⟩)
            all_goals
              go_wp2_with fail
              go_ret
              have MM := (hM.trans ⟨M6.1, M6.2.drew⟩).trans M8
              have L8 : LogIs w8 l d k e := VBlk.only L5 MM.2 hnl
              have ej : lf.toNat = j := by go_light; omega
              unfold PutPost
              rw [hp, ej]
              exact ⟨B8, fun b hb => (MM.1 b hb).elim .inl (fun e => .inr (Nat.le_trans hs5 e)), (only_of_below hB5 _).trans_ (MM.2.mono fun i _ h => .inl h), .inr (.inr (.inl ⟨rfl, by go_light; omega, by go_light; omega, rfl, by go_light; omega, D8.more (by go_light; omega), L8⟩))⟩
          · have ha' : ar = true → (j : Int) < lf := fun e => by have := hlf e; have : lf ≠ j := fun e' => ha ⟨e, e'⟩; omega
            rw [wrt_ok (by omega) (by omega) hse.1 ha'] at hWr
            clear D6 L6 hs6 hRd hD hL
            go_region_with (go_at_call 20; refine hWr.mono ?_; rintro x w8 ⟨rfl, B8, D8, M8⟩)
            all_goals
              go_wp2_with fail
              go_roundw
              case rel =>
                go_light
                exact ⟨j + 1, B8, by omega, by go_num, fun e => by have := ha' e; omega, by rw [hpw]; exact D8, (hM.trans ⟨M6.1, M6.2.drew⟩).trans M8⟩
              case measure => go_light; simp [intOf]; omega
        · obtain rfl : j = p := by omega
          have c0 := VBlk.cellAt hL (i := 0) rfl
          have hSy := Sync_runs wr Bj d _ _ hD (by omega)
          have es : synS ⟨f, putWs (k + 1) e zs j, ar, lfJ ar lf j, false⟩ = (0, ⟨syncF f (putWs (k + 1) e zs j), [], ar, lfJ ar lf j, false⟩) := by simp [synS]
          rw [es] at hSy
          go_wp2_with fail
          (with_reducible refine hSy.mono ?_)
          rintro x w1 ⟨rfl, D1, O1⟩
          have hnj : ¬ Bj l := fun e => (hM.1 l e).elim hnl (fun e => by omega)
          have L1 : LogIs w1 l d k e := VBlk.only hL O1 hnj
          have MM := hM.trans ⟨fun _ h => .inl h, O1⟩
          go_wp2_with fail
          (with_reducible refine (grow_runs w1 l d k e zs.length L1 (by omega) (by omega) (by omega)).mono ?_)
          rintro x w2 ⟨⟨vx, rfl⟩, L2, O2⟩
          rw [hp] at L2
          have D2 := D1.only O2 (fun b hb (e : b = l) => hnj (e ▸ hb))
          go_wp2_with fail
          go_ret
          unfold PutPost
          rw [hp]
          exact ⟨Bj, fun b hb => (MM.1 b hb).elim .inl (fun e => .inr (Nat.le_trans hs5 e)), ((only_of_below hB5 _).trans_ (MM.2.mono fun i _ h => .inl h)).trans_ (O2.mono fun i _ h => .inr h), .inr (.inr (.inr ⟨rfl, by omega, by omega, hlf, D2, L2⟩))⟩
end Go.Proofs.YtccdifplpbnclaaDoor
