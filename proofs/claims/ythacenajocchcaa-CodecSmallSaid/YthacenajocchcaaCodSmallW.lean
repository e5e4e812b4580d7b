/- The contracts of the Writer's Change and Ballot. -/
import Derived.Test.YthacenajocchcaaCodSep
import Derived.Test.YthacenajocchcaaAgg
import Derived.Deep.DeepCutAuto
namespace Go.Proofs.Ythacenajocchcaa
open Go.RowKit

set_option maxRecDepth 100000 in
set_option maxHeartbeats 1600000 in
theorem wballot_any (g : Nat) (v : Value) (bs : List Int) (a b : Int) (w : World) (h : Wr w g v bs) (hz : ∀ z ∈ [a, b], 0 ≤ z ∧ z < 9223372036854775808) (hl : bs.length + 18 ≤ 1099511627776) :
    Calls Try.prog 18 #[.pointer (some ⟨g, 0, none⟩), .agg #[.int .i64 a, .int .i64 b]] w fun e w' => e = .returned (.pointer (some ⟨g, 0, none⟩)) ∧ ∃ v', Wr w' g v' (bs ++ encL [a, b]) ∧ Wrote w w' g v v' := by
  have H := fun (b' : Nat) (w' : World) (hb : b' = w'.heap.size) (hW : Wr w' g v bs) => wnum_new g b' v bs [a, b] #[.int .i64 a, .int .i64 b] w' hb hW rfl hz (by simpa using hl) 2 2 rfl
  go_enter Try.func18, Try.ntmps18
  go_wp2_with fail
  (with_reducible refine (H _ _ (by simp) (h.alloc _)).mono ?_)
  rintro e w' ⟨rfl, v', hW, hO⟩
  go_wp2_with fail
  go_ret
  exact ⟨rfl, v', hW, hO.first ((Only.refl _ _).alloc _)⟩

set_option maxRecDepth 100000 in
set_option maxHeartbeats 1600000 in
theorem wchange_any (g : Nat) (v : Value) (bs : List Int) (a b c : Int) (w : World) (h : Wr w g v bs) (hz : ∀ z ∈ [a, b, c], 0 ≤ z ∧ z < 9223372036854775808) (hl : bs.length + 27 ≤ 1099511627776) :
    Calls Try.prog 17 #[.pointer (some ⟨g, 0, none⟩), .agg #[.int .i64 a, .int .i64 b, .int .i64 c]] w fun e w' => e = .returned (.pointer (some ⟨g, 0, none⟩)) ∧ ∃ v', Wr w' g v' (bs ++ encL [a, b, c]) ∧ Wrote w w' g v v' := by
  have H := fun (b' : Nat) (w' : World) (hb : b' = w'.heap.size) (hW : Wr w' g v bs) => wnum_new g b' v bs [a, b, c] #[.int .i64 a, .int .i64 b, .int .i64 c] w' hb hW rfl hz (by simpa using hl) 3 3 rfl
  go_enter Try.func17, Try.ntmps17
  go_wp2_with fail
  (with_reducible refine (H _ _ (by simp) (h.alloc _)).mono ?_)
  rintro e w' ⟨rfl, v', hW, hO⟩
  go_wp2_with fail
  go_ret
  exact ⟨rfl, v', hW, hO.first ((Only.refl _ _).alloc _)⟩
set_option maxRecDepth 100000 in
set_option maxHeartbeats 1600000 in
theorem wview_any (g : Nat) (v : Value) (bs : List Int) (a b : Int) (gs zs : List Int) (e : zs = a :: b :: gs) (hg : gs.length = 5) (w : World) (h : Wr w g v bs) (hz : ∀ z ∈ zs, 0 ≤ z ∧ z < 9223372036854775808) (hl : bs.length + 63 ≤ 1099511627776) :
    Calls Try.prog 16 #[.pointer (some ⟨g, 0, none⟩), .agg (iA zs)] w fun e w' => e = .returned (.pointer (some ⟨g, 0, none⟩)) ∧ ∃ v', Wr w' g v' (bs ++ encL zs) ∧ Wrote w w' g v v' := by
  have hI : IBlk (w.alloc (.cells (iA zs) 24)) w.heap.size 24 zs := IBlk.new _ _ _
  have hW := h.alloc (.cells (iA zs) 24)
  have hO : Only (fun _ => False) w (w.alloc (.cells (iA zs) 24)) := (Only.refl _ _).alloc _
  have hlen : zs.length = 7 := by rw [e]; simp [hg]
  have HE := hide e
  have HG := hide hg
  have HZ := hide hz
  have HL := hide hlen
  clear e hg hz hlen h
  go_enter Try.func16, Try.ntmps16
  go_wp2_with fail
  generalize w.alloc (.cells (iA zs) 24) = w4 at hI hW hO
  have hc0 : w4.drew.cell? ⟨w.heap.size, 0, none⟩ = some (.int .i64 a) := hI.drew.cellAt 0 a (by rw [HE.out]; rfl)
  have hc1 : w4.drew.cell? ⟨w.heap.size, 1, none⟩ = some (.int .i64 b) := hI.drew.cellAt 1 b (by rw [HE.out]; rfl)
  have hWd := hW.drew
  have hsz : w.heap.size < w4.heap.size := hI.lt
  have hN1 : ∀ b', b' = w4.heap.size → Calls Try.prog 11 #[.pointer (some ⟨g, 0, none⟩), .slice (some ⟨b', 0, none⟩) 2 2] ((w4.alloc (.cells #[.int .i64 a, .int .i64 b] 3)).drew) fun e w' => e = .returned (.pointer (some ⟨g, 0, none⟩)) ∧ ∃ v2, Wr w' g v2 (bs ++ encL [a, b]) ∧ Wrote w4 w' g v v2 := by
    intro b' hb
    have hz := HZ.out
    rw [HE.out] at hz
    have := wnum_new g b' v bs [a, b] #[.int .i64 a, .int .i64 b] w4.drew hb hWd rfl (fun z hz' => hz z (by simp at hz' ⊢; rcases hz' with rfl | rfl <;> simp)) (by simp; omega) 2 2 rfl
    exact this.mono fun e w' ⟨he, v2, h1, h2⟩ => ⟨he, v2, h1, h2.first ((Only.refl _ _).drew)⟩
  have hN2 : ∀ w6 v2, Wr w6 g v2 (bs ++ encL [a, b]) → Wrote w4 w6 g v v2 → Calls Try.prog 11 #[.pointer (some ⟨g, 0, none⟩), .slice (some ⟨w.heap.size, 2, none⟩) 5 5] w6 fun e w' => e = .returned (.pointer (some ⟨g, 0, none⟩)) ∧ ∃ v3, Wr w' g v3 (bs ++ encL zs) ∧ Wrote w4 w' g v v3 := by
    intro w6 v2 hW6 hO6
    have hfar := hW.far hI (by decide) (by decide)
    have hI6 := hI.only hO6.only hfar
    have hr := hI6.reads 2 5 (by rw [HL.out]; omega)
    have he : (zs.drop 2).take 5 = gs := by rw [HE.out]; show gs.take 5 = gs; exact List.take_of_length_le (Nat.le_of_eq HG.out)
    rw [he] at hr
    have hz := HZ.out
    rw [HE.out] at hz ⊢
    refine (wnum_any g v2 _ (some ⟨w.heap.size, 2, none⟩) 5 5 gs w6 hW6 hr (fun ad e => by cases e; exact hW6.far hI6 (by decide) (by decide)) (fun z hz' => hz z (by simp [hz'])) ?_).mono ?_
    · have := encL_len (l := [a, b]) (fun z hz' => (hz z (by simp at hz' ⊢; rcases hz' with rfl | rfl <;> simp)).2)
      have := HG.out
      simp at *; omega
    · rintro e w' ⟨rfl, v3, hW7, hO7⟩
      refine ⟨rfl, v3, ?_, hO6.trans hO7⟩
      rw [show a :: b :: gs = [a, b] ++ gs from rfl, encL_append]
      rw [show bs ++ (encL [a, b] ++ encL gs) = bs ++ encL [a, b] ++ encL gs by simp only [List.append_assoc]]
      exact hW7
  go_region_with (first
    | (go_at_call 11; (with_reducible refine (hN1 _ (by simp)).mono ?_); rintro e w6 ⟨rfl, v2, hW6, hO6⟩)
    | (go_at_call 11; (with_reducible refine (hN2 _ _ hW6 hO6).mono ?_); rintro e w7 ⟨rfl, v3, hW7, hO7⟩))
  all_goals
    go_wp2_with fail
    go_ret
    exact ⟨rfl, v3, hW7, hO7.first hO⟩
end Go.Proofs.Ythacenajocchcaa
