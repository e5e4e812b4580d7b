/- What makes some bytes of a write sure. -/
import Derived.Test.YtccdifplpbnclaaDoorDskV
namespace Go.Proofs.YtccdifplpbnclaaDoor
open Go.RowKit Go.Maps

attribute [local go_sem ↓] loadS_fold storeS_fold allocS_fold loadW_fold storeW_fold allocW_fold buildW_fold boxW_fold lookS_fold putS_fold sliceS_fold copyS_fold
attribute [local go_sem] loadS_has storeS_has allocS_run loadW_has storeW_has allocW_run buildW_run boxW_run lookS_has putS_has sliceS_all sliceS_k copyS_k

/-- The first so many bytes of a write ahead of those that a sector has. -/
def mixB (k : Nat) (new old : List Int) : List Int := new.take k ++ old.drop k
theorem mixB_all {new old : List Int} (h : Sect new) (h' : Sect old) : mixB 64 new old = new := by
  unfold mixB
  rw [List.take_of_length_le (by rw [h.1]; exact Nat.le_refl _), List.drop_of_length_le (by rw [h'.1]; exact Nat.le_refl _), List.append_nil]
theorem mixB_sect {k : Nat} {new old : List Int} (hk : k ≤ 64) (h : Sect new) (h' : Sect old) : Sect (mixB k new old) := by
  refine ⟨by unfold mixB; rw [List.length_append, List.length_take, List.length_drop, h.1, h'.1]; omega, fun z hz => ?_⟩
  rcases List.mem_append.1 hz with hz | hz
  · exact h.2 z (List.mem_of_mem_take hz)
  · exact h'.2 z (List.mem_of_mem_drop hz)
set_option maxRecDepth 100000 in
set_option maxHeartbeats 4000000 in
theorem settle_runs (w : World) (d m n k : Nat) (f : Int → List Int) (x : Int) (bs : List Int) (r : List Value) (hk : k ≤ 64) (hb : VBlk w d 54 (.map (some m) :: r)) (hM : MapIs w m n f) (hn : n < 100000) (hs : Sect bs) (hf : Sect (f x)) (hx : Key x) :
    Calls Tryd.prog 27 #[.pointer (some ⟨d, 0, none⟩), .agg (wrV x bs).toArray, .int .i64 (k : Int)] w fun e w' => (∃ v, e = .returned v) ∧ MapIs w' m (n + 1) (fun y => if y = x then mixB k bs (f x) else f y) ∧ Only (· = m) w w' := by
  go_enter Tryd.func27, Tryd.ntmps27
  have hml := hM.lt
  have hdl := hb.lt
  have h1 := VBlk.new w 63 (wrV x bs)
  have hb1 := hb.alloc (.cells (wrV x bs).toArray 63)
  have hM1 := hM.alloc (.cells (wrV x bs).toArray 63)
  have hO1 : Only (· = m) w (w.alloc (.cells (wrV x bs).toArray 63)) := (Only.refl _ _).alloc _
  have hlw := hs.wlen x
  have hlf := hf.vlen
  have hsz1 : (w.alloc (.cells (wrV x bs).toArray 63)).heap.size = w.heap.size + 1 := by simp
  go_upto_region 1 with fail
  clear hM hb
  generalize w.alloc (.cells (wrV x bs).toArray 63) = w1 at *
  generalize hg4 : w.heap.size = g4 at *
  go_cut [6] (fun s6 wx => ∃ g6, s6 = .pointer (some ⟨g6, 0, none⟩) ∧ g4 < g6 ∧ VBlk wx g6 61 (u8V (f x)) ∧ VBlk wx g4 63 (wrV x bs) ∧ VBlk wx d 54 (.map (some m) :: r) ∧ MapIs wx m n f ∧ Only (· = m) w wx)
  case first =>
    have cd := hb1.cellAt (i := 0) rfl
    have cx := h1.cellAt (i := 0) rfl
    obtain ⟨rm, hhm⟩ := hM1.gotD hn x
    have hM1a := hM1.alloc (.cells (u8V zs64).toArray 61)
    obtain ⟨rma, hhma⟩ := hM1a.gotD hn x
    have ha := hsz1 ▸ VBlk.new w1 61 (u8V zs64)
    have hr : Room (w1.alloc (.cells (u8V zs64).toArray 61)).drew (g4 + 1) 0 64 := ha.room 0 64 (by decide)
    have hr2 : Room (w1.drew.alloc (.cells (u8V zs64).toArray 61)) (g4 + 1) 0 64 := ha.room 0 64 (by decide)
    have hi : Is 64 (u8V (f x)) := ⟨hlf, u8V_one _⟩
    go_region
    all_goals
      go_wp2_with fail
      go_meet
      have oc : Only (· = g4 + 1) (w1.alloc (.cells (u8V zs64).toArray 61)).drew ((w1.alloc (.cells (u8V zs64).toArray 61)).drew.setCells (g4 + 1) 0 (u8V (f x))) := only_cells _ _ _ _
      refine ⟨g4 + 1, rfl, by go_light; omega, ha.drew.fill (by rw [hlf]; rfl), (h1.alloc _).drew.only oc (by show ¬ g4 = g4 + 1; go_light; omega), (hb1.alloc _).drew.only oc (by show ¬ d = g4 + 1; go_light; omega), hM1a.drew.only oc (by show ¬ m = g4 + 1; go_light; omega), ?_⟩
      exact (hO1.alloc _).drew.trans oc (fun i (e : i = g4 + 1) => .inr (by go_light; omega))
  case rest =>
    clear hb1 hM1 hO1 h1 hsz1
    obtain ⟨g6, rfl, h46, h6, h4, hb, hM, hO⟩ := hcut
    clear w1
    have hl6 := h6.lt
    have r0 : ¬ g6 = g4 := by omega
    have hk4 : Le64 k := hk
    obtain ⟨rr, hh⟩ := h4.drew.got 1 64 (by rw [hlw]; decide)
    have hrr : (((wrV x bs).drop 1).take 64) = u8V bs := by
      show (u8V bs).take 64 = _
      exact List.take_of_length_le (Nat.le_of_eq hs.vlen)
    rw [hrr] at rr
    have hrm := h6.drew.room 0 64 (by rw [hlf]; decide)
    have h1c := ones_u8 bs
    go_upto_region 2 with fail
    go_cut [6] (fun s6 wx => s6 = .pointer (some ⟨g6, 0, none⟩) ∧ VBlk wx g6 61 (u8V (mixB k bs (f x))) ∧ VBlk wx g4 63 (wrV x bs) ∧ VBlk wx d 54 (.map (some m) :: r) ∧ MapIs wx m n f ∧ Only (· = m) w wx)
    case first =>
      go_region
      all_goals
        go_wp2_with fail
        go_meet
        have hkl : (List.take k (u8V bs)).length = k := by rw [List.length_take, hs.vlen]; go_light; omega
        have hmx : List.take k (u8V bs) ++ (u8V (f x)).drop (List.take k (u8V bs)).length = u8V (mixB k bs (f x)) := by
          rw [hkl]
          simp [u8V, mixB]
        have h6' := h6.drew.fillK (us := List.take k (u8V bs)) (by rw [hkl, hlf]; exact hk)
        rw [hmx] at h6'
        have oc : Only (· = g6) wc.drew (wc.drew.setCells g6 0 (List.take k (u8V bs))) := only_cells _ _ _ _
        refine ⟨rfl, h6', h4.drew.only oc (by show ¬ g4 = g6; go_light; omega), hb.drew.only oc (by show ¬ d = g6; go_light; omega), hM.drew.only oc (by show ¬ m = g6; go_light; omega), hO.drew.trans oc (fun i (e : i = g6) => .inr (by go_light; omega))⟩
    case rest =>
      clear h6 h4 hb hM hO hl6 rr hh hrm h1c
      obtain ⟨rfl, h6, h4, hb, hM, hO⟩ := hcut
      have hsm := mixB_sect hk hs hf
      generalize hmb : mixB k bs (f x) = mb at *
      have cd := hb.drew.cellAt (i := 0) rfl
      have cx := h4.drew.cellAt (i := 0) rfl
      obtain ⟨rm, hhm⟩ := hM.gotD hn x
      obtain ⟨rr, hh⟩ := h6.drew.whole hsm.vlen
      obtain ⟨_, p2, p3⟩ := hM.drew.put hn hx mb
      go_upto_region 3 with fail
      go_region
      all_goals
        go_wp2_with fail
        go_end0
        exact ⟨⟨_, rfl⟩, by rw [hmb]; exact p2, hO.drew.trans_ p3⟩
end Go.Proofs.YtccdifplpbnclaaDoor
