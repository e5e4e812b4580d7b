/- A disk's Sync and Crash. -/
import Derived.Test.YtccdifplpbnclaaDoorDskW
namespace Go.Proofs.YtccdifplpbnclaaDoor
open Go.RowKit Go.Maps

attribute [local go_sem ↓] loadS_fold storeS_fold allocS_fold loadW_fold storeW_fold allocW_fold buildW_fold boxW_fold lookS_fold putS_fold sliceS_fold copyS_fold
attribute [local go_sem] loadS_has storeS_has allocS_run loadW_has storeW_has allocW_run buildW_run boxW_run lookS_has putS_has sliceS_all sliceS_k copyS_k

theorem wsV_cons (p : Int × List Int) (ws : List (Int × List Int)) : wsV (p :: ws) = wrV p.1 p.2 ++ wsV ws := rfl
theorem wsV_len {ws : List (Int × List Int)} (h : Wrs ws) : (wsV ws).length = ws.length * 65 := by
  induction ws with
  | nil => rfl
  | cons p ws ih =>
    rw [wsV_cons, List.length_append, (h p (by simp)).2.wlen, ih (fun q hq => h q (by simp [hq])), List.length_cons, Nat.succ_mul]
    omega
theorem wsV_part {ws : List (Int × List Int)} (h : Wrs ws) : ∀ j (hj : j < ws.length), ((wsV ws).drop (j * 65)).take 65 = wrV ws[j].1 ws[j].2 := by
  induction ws with
  | nil => intro j hj; simp at hj
  | cons p ws ih =>
    intro j hj
    have hp := (h p (by simp)).2.wlen p.1
    cases j with
    | zero =>
      rw [Nat.zero_mul, List.drop_zero, wsV_cons, List.take_append_of_le_length (by omega), List.take_of_length_le (by omega)]
      rfl
    | succ j =>
      rw [wsV_cons, Nat.succ_mul, Nat.add_comm, ← List.drop_drop, List.drop_left' hp]
      exact ih (fun q hq => h q (by simp [hq])) j (by simpa using hj)
/-- One of the writes that wait, as the walk wants it. -/
theorem own_at {w : World} {A : Option Addr} {base c t n : Nat} {ws : List (Int × List Int)} (h : w.ownsRow base t 65 (.slice A n c) n (wsV ws)) (hn : ws.length = n) (hw : Wrs ws) :
    ∀ j (hj : j < ws.length), ∃ g, A = some ⟨g, 0, none⟩ ∧ rowAt w g (j * 65) 65 = (wrV ws[j].1 ws[j].2).toArray ∧ HasRow w g (j * 65) 65 := by
  subst hn
  intro j hj
  rcases h.2 with ⟨_, h0⟩ | ⟨g, cap, cur, e, _, hh, hnc, _, hcs, ht⟩
  · omega
  · injection e with e
    subst e
    have hb : VBlk w g t cur.toList := by unfold VBlk; rw [Array.toArray_toList]; exact hh
    have hle : j * 65 + 65 ≤ cap * 65 := by have := Nat.mul_le_mul_right 65 (show j + 1 ≤ cap by omega); omega
    obtain ⟨r1, r2⟩ := hb.got (j * 65) 65 (by rw [Array.length_toList, hcs]; exact hle)
    refine ⟨g, rfl, ?_, r2⟩
    rw [r1]
    congr 1
    have hlt : j * 65 + 65 ≤ ws.length * 65 := by have := Nat.mul_le_mul_right 65 (show j + 1 ≤ ws.length by omega); omega
    rw [← wsV_part hw j hj, ← ht, List.drop_take, List.take_take, Nat.min_eq_left (by omega)]

/-- What is sure behind a sync. -/
def updF (f : Int → List Int) (x : Int) (bs : List Int) : Int → List Int := fun y => if y = x then bs else f y
def syncF (f : Int → List Int) (ws : List (Int × List Int)) : Int → List Int := ws.foldl (fun f p => updF f p.1 p.2) f
theorem updF_sect {f : Int → List Int} {x : Int} {bs : List Int} (h : ∀ y, Sect (f y)) (hb : Sect bs) : ∀ y, Sect (updF f x bs y) := by
  intro y
  unfold updF
  split
  · exact hb
  · exact h y
theorem syncF_sect {ws : List (Int × List Int)} (hw : Wrs ws) : ∀ {f : Int → List Int}, (∀ y, Sect (f y)) → ∀ y, Sect (syncF f ws y) := by
  induction ws with
  | nil => intro f h; exact h
  | cons p ws ih => intro f h; exact ih (fun q hq => hw q (by simp [hq])) (updF_sect h (hw p (by simp)).2)
theorem syncF_step (f : Int → List Int) (ws : List (Int × List Int)) (j : Nat) (hj : j < ws.length) : syncF f (ws.take (j + 1)) = updF (syncF f (ws.take j)) ws[j].1 ws[j].2 := by
  unfold syncF
  rw [List.take_succ_eq_append_getElem hj, List.foldl_append]; rfl
theorem settle_all (w : World) (d m n : Nat) (f : Int → List Int) (x : Int) (bs : List Int) (r : List Value) (hb : VBlk w d 54 (.map (some m) :: r)) (hM : MapIs w m n f) (hn : n < 100000) (hs : Sect bs) (hf : Sect (f x)) (hx : Key x) :
    Calls Tryd.prog 27 #[.pointer (some ⟨d, 0, none⟩), .agg (wrV x bs).toArray, .int .i64 64] w fun e w' => (∃ v, e = .returned v) ∧ MapIs w' m (n + 1) (updF f x bs) ∧ Only (· = m) w w' := by
  refine (settle_runs w d m n 64 f x bs r (Nat.le_refl _) hb hM hn hs hf hx).mono ?_
  rintro e w' ⟨h1, h2, h3⟩
  rw [mixB_all hs hf] at h2
  exact ⟨h1, h2, h3⟩
def synS (S : DS) : Int × DS := if S.down = true then (4, S) else (0, { S with f := syncF S.f S.ws, ws := [] })
/-- The waits are gone. -/
theorem DiskAt.emptied {w w' : World} {B : Nat → Prop} {d N m n : Nat} {S : DS} {vs : List Value} (h : DiskAt w B d N S) (h1 : VBlk w' d 54 vs) {f : Int → List Int} (h2 : MapIs w' m n f) (hB : B m) (hn : n ≤ N) (hf : ∀ y, Sect (f y)) (hs : w.heap.size ≤ w'.heap.size) {a b : Bool}
    (hv : vs = [.map (some m), .slice none 0 0, .bool a, .int .i64 S.left, .bool b]) : DiskAt w' B d N { f := f, ws := [], armed := a, left := S.left, down := b } :=
  ⟨⟨m, n, _, hv ▸ h1, h2, World.ownsRow_nil _ _ _ _, hB, fun g hg => by simp [Value.ownBlock] at hg, by simpa using hn⟩, h.own, fun b hb => by have := h.lt b hb; omega, fun p hp => absurd hp (by simp), hf, h.left0, h.left1⟩
set_option maxRecDepth 100000 in
set_option maxHeartbeats 8000000 in
theorem Sync_runs (w : World) (B : Nat → Prop) (d N : Nat) (S : DS) (h : DiskAt w B d N S) (hN : N < 50000) :
    Calls Tryd.prog 21 #[.pointer (some ⟨d, 0, none⟩)] w fun e w' => e = .returned (.int .i64 (synS S).1) ∧ DiskAt w' B d N (synS S).2 ∧ Only B w w' := by
  obtain ⟨m, k, v, h1, h2, h3, h4, h5, h6⟩ := h.is_
  obtain ⟨A, c, rfl⟩ := own_slice h3
  have c1 := h1.cellAt (i := 1) rfl
  have c4 := h1.cellAt (i := 4) rfl
  cases hd : S.down with
  | true =>
    have e : synS S = (4, S) := by unfold synS; rw [if_pos hd]
    rw [e]
    rw [hd] at c4
    go_enter Tryd.func21, Tryd.ntmps21
    go_wp2_with fail
    go_ret
    exact ⟨rfl, h, Only.refl _ _⟩
  | false =>
    have e : synS S = (0, { S with f := syncF S.f S.ws, ws := [] }) := by unfold synS; rw [if_neg (by rw [hd]; decide)]
    rw [e]
    rw [hd] at c4
    have hdl := h.dlt
    have hw := h.wrs
    have hsf := h.sure
    have hmd := map_ne h2 h1
    have hod := own_blk_ne h3 h1 (by decide)
    have hom := map_own_ne h2 h3
    generalize hn : S.ws.length = n at *
    go_enter Tryd.func21, Tryd.ntmps21
    go_wp2_with fail
    clear c1 c4
    go_loopw [14] (fun s14 wr => ∃ j : Nat, j ≤ n ∧ s14 = .int .i64 j ∧ MapIs wr m (k + j) (syncF S.f (S.ws.take j)) ∧ Only (· = m) w wr) (fun s14 _ => n - (intOf s14).toNat)
    case atStart => exact ⟨0, by omega, rfl, h2, Only.refl _ _⟩
    case round =>
      obtain ⟨j, hj, rfl, hM, hO⟩ := hrel
      have i1 := h1.only hO hmd.symm
      have i3 := own_only h3 hO (fun g hg (e : g = m) => hom (by rw [hg]; exact congrArg some e))
      have hs0 := hO.size
      by_cases hlt : j < n
      · obtain ⟨g, rfl, rr, hh⟩ := own_at i3 hn hw j (by omega)
        have hst := syncF_step S.f S.ws j (by omega)
        have hkx := hw S.ws[j] (List.getElem_mem _)
        have hfx := syncF_sect (ws := S.ws.take j) (fun q hq => hw q (List.mem_of_mem_take hq)) hsf
        generalize syncF S.f (S.ws.take j) = fj at *
        generalize S.ws[j].1 = x at *
        generalize S.ws[j].2 = bs at *
        have dl : (j : Int) < (n : Int) := by omega
        have hlb := hkx.2.wlen x
        have ha := VBlk.new wr 63 (wrV 0 zs64)
        have hrm := ha.room 0 65 (by rw [wrV_length]; decide)
        have hi65 : Is 65 (wrV x bs) := ⟨hlb, wrV_one _ _⟩
        have hf := ha.fill (us := wrV x bs) (by rw [hlb, wrV_length]; rfl)
        have hB0 : Below wr.heap.size wr (wr.alloc (.cells (wrV 0 zs64).toArray 63)) := (Below.refl _ _).alloc (Nat.le_refl _) _
        have hBf : Below wr.heap.size wr ((wr.alloc (.cells (wrV 0 zs64).toArray 63)).setCells wr.heap.size 0 (wrV x bs)) := below_only hB0 (only_cells _ _ _ _) (fun i (e : i = wr.heap.size) => by omega) hB0.size
        go_upto_region 6 with fail
        clear hrm ha hB0 rr hh i3
        generalize hp : wr.heap.size = p at *
        generalize (wr.alloc (.cells (wrV 0 zs64).toArray 63)).setCells p 0 (wrV x bs) = w2 at *
        obtain ⟨rr, hh⟩ := hf.whole hlb
        have hMl := hM.lt
        have hM2 : MapIs w2 m (k + j) fj := hM.only (only_of_below (hp ▸ hBf) (fun _ => False)) (fun e => e)
        have i2 : VBlk w2 d 54 _ := i1.below hBf (by have := h.dlt; omega)
        go_wp2_with fail
        (with_reducible refine (settle_all w2 d m (k + j) fj x bs _ i2 hM2 (by omega) hkx.2 (hfx x) hkx.1).mono ?_)
        rintro e w3 ⟨⟨v, rfl⟩, hM3, hO3⟩
        have hM4 : MapIs w3 m (k + (j + 1)) (updF fj x bs) := hM3
        rw [← hst] at hM4
        have hO4 : Only (· = m) w w3 := (hO.below (hp ▸ hBf)).trans_ hO3
        clear hM3 hO3 hM2 i2 rr hh hf hBf hi65 hM i1 hO
        go_wp2_with fail
        go_roundw
        case rel => go_light; exact ⟨j + 1, by omega, by go_num, hM4, hO4⟩
        case measure => go_light; simp [intOf]; omega
      · obtain rfl : n = j := by omega
        have dl : ¬ ((n : Int) < (n : Int)) := by omega
        have c1 := i1.cellAt (i := 1) rfl
        have z1 := i1.frozen 1
        have e0 : S.ws.take n = S.ws := List.take_of_length_le (by omega)
        rw [e0] at hM
        have o1 := only_cell wr d 1 (.slice none 0 0)
        have j1 := i1.set 1 (.slice none 0 0)
        have hMl := hM.lt
        have j2 := hM.only o1 hmd
        have hO5 : Only B w (wr.setCell ⟨d, 1, none⟩ (.slice none 0 0)) := (hO.mono (S' := B) fun i _ (e : i = m) => by rw [e]; exact h4).setCell (p := ⟨d, 1, none⟩) (.inl h.own) _
        have K := h.emptied (w' := wr.setCell ⟨d, 1, none⟩ (.slice none 0 0)) j1 j2 h4 (by omega) (syncF_sect hw hsf) hO5.size rfl
        go_wp2_with fail
        go_ret
        rw [hd] at K
        exact ⟨rfl, K, hO5⟩

/-! ### a crash -/
def cutN (cut : Int) : Nat := (min (max cut 0) 64).toNat
def bitOn (mask : Int) (i : Nat) : Bool := bits .and .i64 (mask / 2 ^ (i % 32)) 1 == 1
/-- One of the writes that wait, at a crash. -/
def crashStep (mask torn : Int) (q : Nat) (i : Nat) (p : Int × List Int) (f : Int → List Int) : Int → List Int :=
  if (i : Int) = torn then updF f p.1 (mixB q p.2 (f p.1)) else if bitOn mask i = true then updF f p.1 p.2 else f
def crashF (mask torn : Int) (q : Nat) (ws : List (Int × List Int)) (f : Int → List Int) : Nat → Int → List Int
  | 0 => f
  | j + 1 => crashStep mask torn q j (ws.getD j (0, [])) (crashF mask torn q ws f j)
/-- What a crash leaves. -/
def craS (mask torn cut : Int) (S : DS) : DS := { f := crashF mask torn (cutN cut) S.ws S.f S.ws.length, ws := [], armed := false, left := S.left, down := false }
theorem cutN_le (cut : Int) : cutN cut ≤ 64 := by unfold cutN; omega
theorem cutN_w (cut : Int) : (if 64 < (if cut < 0 then 0 else cut) then 64 else if cut < 0 then 0 else cut) = ((cutN cut : Nat) : Int) := by
  unfold cutN
  split <;> split <;> omega
set_option maxRecDepth 100000 in
set_option maxHeartbeats 8000000 in
theorem Crash_runs (w : World) (B : Nat → Prop) (d N : Nat) (S : DS) (mask torn cut : Int) (h : DiskAt w B d N S) (hN : N < 50000) (_ : -9223372036854775808 ≤ mask) (_ : mask ≤ 9223372036854775807) (_ : -9223372036854775808 ≤ torn) (_ : torn ≤ 9223372036854775807) (_ : -9223372036854775808 ≤ cut) (_ : cut ≤ 9223372036854775807) :
    Calls Tryd.prog 15 #[.pointer (some ⟨d, 0, none⟩), .int .i64 mask, .int .i64 torn, .int .i64 cut] w fun e w' => (∃ v, e = .returned v) ∧ DiskAt w' B d N (craS mask torn cut S) ∧ Only B w w' := by
  obtain ⟨m, k, v, h1, h2, h3, h4, h5, h6⟩ := h.is_
  obtain ⟨A, c, rfl⟩ := own_slice h3
  have c1 := h1.cellAt (i := 1) rfl
  unfold craS
  have hdl := h.dlt
  have hw := h.wrs
  have hsf := h.sure
  have hmd := map_ne h2 h1
  have hod := own_blk_ne h3 h1 (by decide)
  have hom := map_own_ne h2 h3
  have hq := cutN_w cut
  have hq64 := cutN_le cut
  generalize cutN cut = q at *
  generalize hn : S.ws.length = n at *
  go_enter Tryd.func15, Tryd.ntmps15
  go_upto_region 1 with fail
  clear hq
  generalize (if cut < 0 then 0 else cut) = cut0
  go_wp2_with fail
  clear c1
  go_loopw [18] (fun s18 wr => ∃ j : Nat, j ≤ n ∧ s18 = .int .i64 j ∧ MapIs wr m (k + j) (crashF mask torn q S.ws S.f j) ∧ (∀ y, Sect (crashF mask torn q S.ws S.f j y)) ∧ Only (· = m) w wr) (fun s18 _ => n - (intOf s18).toNat)
  case atStart => exact ⟨0, by omega, rfl, h2, hsf, Only.refl _ _⟩
  case round =>
    obtain ⟨j, hj, rfl, hM, hfx, hO⟩ := hrel
    have i1 := h1.only hO hmd.symm
    have i3 := own_only h3 hO (fun g hg (e : g = m) => hom (by rw [hg]; exact congrArg some e))
    have hs0 := hO.size
    by_cases hlt : j < n
    · obtain ⟨g, rfl, rr, hh⟩ := own_at i3 hn hw j (by omega)
      have hkx := hw S.ws[j] (List.getElem_mem _)
      have hst : crashF mask torn q S.ws S.f (j + 1) = crashStep mask torn q j S.ws[j] (crashF mask torn q S.ws S.f j) := by
        rw [crashF]
        congr 1
        simp [List.getD, show j < S.ws.length by omega]
      generalize crashF mask torn q S.ws S.f j = fj at *
      generalize S.ws[j] = pr at *
      obtain ⟨x, bs⟩ := pr
      dsimp only at *
      have dl : (j : Int) < (n : Int) := by omega
      have hlb := hkx.2.wlen x
      have ha := VBlk.new wr 63 (wrV 0 zs64)
      have hrm := ha.room 0 65 (by rw [wrV_length]; decide)
      have hi65 : Is 65 (wrV x bs) := ⟨hlb, wrV_one _ _⟩
      have hf := ha.fill (us := wrV x bs) (by rw [hlb, wrV_length]; rfl)
      have hB0 : Below wr.heap.size wr (wr.alloc (.cells (wrV 0 zs64).toArray 63)) := (Below.refl _ _).alloc (Nat.le_refl _) _
      have hBf : Below wr.heap.size wr ((wr.alloc (.cells (wrV 0 zs64).toArray 63)).setCells wr.heap.size 0 (wrV x bs)) := below_only hB0 (only_cells _ _ _ _) (fun i (e : i = wr.heap.size) => by omega) hB0.size
      go_upto_region 4 with fail
      clear hrm ha hB0 rr hh i3
      generalize hp : wr.heap.size = p at *
      generalize (wr.alloc (.cells (wrV 0 zs64).toArray 63)).setCells p 0 (wrV x bs) = w2 at *
      obtain ⟨rr, hh⟩ := hf.whole hlb
      have hMl := hM.lt
      have hM2 : MapIs w2 m (k + j) fj := hM.only (only_of_below (hp ▸ hBf) (fun _ => False)) (fun e => e)
      have i2 : VBlk w2 d 54 _ := i1.below hBf (by have := h.dlt; omega)
      have hO2 : Only (· = m) w w2 := hO.below (hp ▸ hBf)
      have hSt := hide hst
      clear hst
      by_cases ht : (j : Int) = torn
      · have hst2 := hSt.out
        unfold crashStep at hst2
        rw [if_pos ht] at hst2
        have hst2 := hide hst2
        clear hSt
        go_wp2_with fail
        (with_reducible refine (settle_runs w2 d m (k + j) q fj x bs _ hq64 i2 hM2 (by omega) hkx.2 (hfx x) hkx.1).mono ?_)
        rintro e w3 ⟨⟨v, rfl⟩, hM3, hO3⟩
        have hM4 : MapIs w3 m (k + (j + 1)) (crashF mask torn q S.ws S.f (j + 1)) := by rw [hst2.out]; exact hM3
        have hO4 : Only (· = m) w w3 := hO2.trans_ hO3
        have hf4 : ∀ y, Sect (crashF mask torn q S.ws S.f (j + 1) y) := by rw [hst2.out]; exact updF_sect hfx (mixB_sect hq64 hkx.2 (hfx x))
        clear hM3 hO3 hM2 i2 rr hh hf hBf hi65 hM i1 hO hst2
        go_wp2_with fail
        go_roundw
        case rel => go_light; exact ⟨j + 1, by omega, by go_num, hM4, hf4, hO4⟩
        case measure => go_light; simp [intOf]; omega
      · cases hb : (bits .and .i64 (mask / 2 ^ (j % 32)) 1 == 1) with
        | true =>
          have hst2 := hSt.out
          unfold crashStep bitOn at hst2
          rw [if_neg ht, if_pos hb] at hst2
          have hst2 := hide hst2
          clear hSt
          go_wp2_with fail
          (with_reducible refine (settle_all w2 d m (k + j) fj x bs _ i2 hM2 (by omega) hkx.2 (hfx x) hkx.1).mono ?_)
          rintro e w3 ⟨⟨v, rfl⟩, hM3, hO3⟩
          have hM4 : MapIs w3 m (k + (j + 1)) (crashF mask torn q S.ws S.f (j + 1)) := by rw [hst2.out]; exact hM3
          have hO4 : Only (· = m) w w3 := hO2.trans_ hO3
          have hf4 : ∀ y, Sect (crashF mask torn q S.ws S.f (j + 1) y) := by rw [hst2.out]; exact updF_sect hfx hkx.2
          clear hM3 hO3 hM2 i2 rr hh hf hBf hi65 hM i1 hO hst2
          go_wp2_with fail
          go_roundw
          case rel => go_light; exact ⟨j + 1, by omega, by go_num, hM4, hf4, hO4⟩
          case measure => go_light; simp [intOf]; omega
        | false =>
          have hst2 := hSt.out
          unfold crashStep bitOn at hst2
          rw [if_neg ht, if_neg (by rw [hb]; decide)] at hst2
          have hM4 : MapIs w2 m (k + (j + 1)) (crashF mask torn q S.ws S.f (j + 1)) := by rw [hst2]; exact hM2.mono (by omega)
          have hf4 : ∀ y, Sect (crashF mask torn q S.ws S.f (j + 1) y) := by rw [hst2]; exact hfx
          clear hM2 i2 rr hh hf hBf hi65 hM i1 hO hst2 hSt
          go_wp2_with fail
          go_roundw
          case rel => go_light; exact ⟨j + 1, by omega, by go_num, hM4, hf4, hO2⟩
          case measure => go_light; simp [intOf]; omega
    · obtain rfl : n = j := by omega
      have dl : ¬ ((n : Int) < (n : Int)) := by omega
      have c1 := i1.cellAt (i := 1) rfl
      have c2 := i1.cellAt (i := 2) rfl
      have c4 := i1.cellAt (i := 4) rfl
      have z1 := i1.frozen 1
      have z2 := i1.frozen 2
      have z4 := i1.frozen 4
      have o1 := ((only_cell wr d 1 (.slice none 0 0)).trans_ (only_cell _ d 2 (.bool false))).trans_ (only_cell _ d 4 (.bool false))
      have j1 := ((i1.set 1 (.slice none 0 0)).set 2 (.bool false)).set 4 (.bool false)
      have j2 := hM.only o1 hmd
      have hO5 : Only B w (((wr.setCell ⟨d, 1, none⟩ (.slice none 0 0)).setCell ⟨d, 2, none⟩ (.bool false)).setCell ⟨d, 4, none⟩ (.bool false)) := (hO.mono (S' := B) fun i _ (e : i = m) => by rw [e]; exact h4).trans (o1.mono (S' := B) fun i _ (e : i = d) => by rw [e]; exact h.own) (fun i e => .inl e)
      have K := h.emptied j1 j2 h4 (by omega) hfx hO5.size (a := false) (b := false) rfl
      go_wp2_with fail
      go_end0
      exact ⟨⟨_, rfl⟩, K, hO5⟩
end Go.Proofs.YtccdifplpbnclaaDoor
