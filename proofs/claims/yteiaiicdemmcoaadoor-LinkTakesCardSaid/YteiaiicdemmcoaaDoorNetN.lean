/- A new network. -/
import Derived.Test.YteiaiicdemmcoaaDoorNetQ
namespace Go.Proofs.YteiaiicdemmcoaaDoor
open Go.RowKit Go.Conc

def allocN (b : Bool) (x : Value) : Sem Value := Instr.alloc 49 b x
theorem allocN_fold (b : Bool) (x : Value) : Instr.alloc 49 b x = allocN b x := rfl
theorem allocN_run (w : World) : (allocN true (.tuple #[])).run Tryd.prog w = .ok (.pointer (some ⟨w.heap.size, 0, none⟩)) (w.alloc (.cells (netV (fun _ => 0) 0).toArray 49)) := by
  rw [netV_zero]
  kernel_rfl
attribute [local go_sem ↓] allocN_fold
attribute [local go_sem] allocN_run
/-- The first so many ways of a new network. -/
def NewN (w : World) (Q : Nat → Prop) (b k : Nat) (wr : World) : Prop := ∃ P C, NetAt wr Q w.heap.size b P C k (fun _ => []) ∧ Below w.heap.size w wr
theorem NewN.store {w wr wx : World} {Q : Nat → Prop} {b k p c : Nat} (h : NewN w Q b k wr) (hw : w.heap.size ≤ b) (hb : Below wr.heap.size wr wx) (hx : BoxAt wx Q p c 8 []) (hc : wr.heap.size ≤ c) (hk : k % 6 ≠ 0) : NewN w Q b (k + 1) (wx.setCell ⟨b, k, none⟩ (.pointer (some ⟨p, 0, none⟩))) := by
  obtain ⟨P, C, hn, hB⟩ := h
  have hB' := hB.trans (hb.mono hB.size)
  exact ⟨_, _, hn.grow hb hx hc hB.size hk, below_only hB' (only_cell _ _ _ _) (fun i e => by rw [e]; exact hw) hB'.size⟩
set_option maxRecDepth 100000 in
set_option maxHeartbeats 4000000 in
theorem newN_runs (w : World) (Q : Nat → Prop) : Calls Tryd.prog 10 #[] w fun e w' =>
    ∃ b P C, e = .returned (.pointer (some ⟨b, 0, none⟩)) ∧ w.heap.size ≤ b ∧ NetAt w' Q w.heap.size b P C 25 (fun _ => []) ∧ Below w.heap.size w w' := by
  have h0 : NewN w Q w.heap.size 0 (w.alloc (.cells (netV (fun _ => 0) 0).toArray 49)) :=
    ⟨fun _ => 0, fun _ => 0, ⟨VBlk.new _ _ _, fun l hl => by omega, fun l hl => by omega, fun l m hl => by omega⟩, (Below.refl _ _).alloc (Nat.le_refl _) _⟩
  go_enter Tryd.func10, Tryd.ntmps10
  go_upto_region 3 with fail
  generalize w.alloc (.cells (netV (fun _ => 0) 0).toArray 49) = w0 at h0
  generalize hb : w.heap.size = b at h0
  go_loopw [5] (fun s5 wr => ∃ i : Nat, i ≤ 5 ∧ s5 = .int .i64 i ∧ NewN w Q b (i * 5) wr) (fun s5 _ => 5 - (intOf s5).toNat)
  case atStart => exact ⟨0, by omega, rfl, h0⟩
  case round =>
    obtain ⟨i, hi, rfl, h⟩ := hrel
    by_cases hi5 : i < 5
    · have di : (i : Int) < 5 := by omega
      rename World => wb
      go_upto_region 6 with fail
      go_loopw [8] (fun s8 wr => ∃ j : Nat, j ≤ 5 ∧ s8 = .int .i64 j ∧ NewN w Q b (i * 5 + j) wr) (fun s8 _ => 5 - (intOf s8).toNat)
      case atStart => exact ⟨0, by omega, rfl, h⟩
      case round =>
        obtain ⟨j, hj, rfl, h⟩ := hrel
        by_cases hj5 : j < 5
        · have dj : (j : Int) < 5 := by omega
          by_cases e : i = j
          · have de : ((i : Int) != (j : Int)) = false := by simp; omega
            obtain ⟨P, C, hn, hB⟩ := h
            have h1 := hn.skip (by omega)
            clear hn
            go_wp2_with fail
            go_roundw
            case rel => go_light; exact ⟨j + 1, by omega, by go_num, P, C, h1, hB⟩
            case measure => go_light; simp [intOf]; omega
          · have de : ((i : Int) != (j : Int)) = true := by simp; omega
            have hbx := fun wx => New_runs wx Q 8
            have hc8 : capOf 8 = 8 := rfl
            rw [hc8] at hbx
            have hbw : w.heap.size ≤ b := by omega
            have HS := hide fun (wx : World) (p c : Nat) (g1 : Below wr.heap.size wr wx) (g2 : BoxAt wx Q p c 8 []) (g3 : wr.heap.size ≤ c) => NewN.store h hbw g1 g2 g3 (by omega)
            have HK : Hid (∀ wx : World, Below wr.heap.size wr wx → wx.cell? ⟨b, i * 5 + j, none⟩ = some (.pointer none) ∧ wx.frozen? ⟨b, i * 5 + j, none⟩ = false) := hide fun wx g1 => by
              obtain ⟨P, C, hn, _⟩ := h
              have hv := hn.blk.below g1 hn.blk.lt
              refine ⟨?_, hv.frozen _⟩
              rw [hv.cellAt (netV_at P _ (by omega))]
              simp [wayV]
            clear h
            go_upto_region 9 with fail
            go_region_with
              (go_at_call 19
               (with_reducible refine (hbx _).mono ?_)
               rintro x wx ⟨p, c, rfl, hp, hcc, bx, Bx⟩
               have Bx := Below.undrew Bx
               obtain ⟨k1, k2⟩ := HK.out wx Bx
               have hr := HS.out wx p c Bx bx hcc)
            all_goals
              go_wp2_with fail
              go_roundw
              case rel => go_light; exact ⟨j + 1, by omega, by go_num, hr⟩
              case measure => go_light; simp [intOf]; omega
        · obtain rfl : j = 5 := by omega
          go_wp2_with fail
          go_roundw
          case rel => go_light; exact ⟨i + 1, by omega, by go_num, by rw [show (i + 1) * 5 = i * 5 + 5 by omega]; exact h⟩
          case measure => go_light; simp [intOf]; omega
    · obtain rfl : i = 5 := by omega
      obtain ⟨P, C, hn, hB⟩ := h
      go_wp2_with fail
      go_ret
      exact ⟨b, P, C, rfl, by omega, by rw [← hb] at hn ⊢; exact hn, hB⟩
end Go.Proofs.YteiaiicdemmcoaaDoor
