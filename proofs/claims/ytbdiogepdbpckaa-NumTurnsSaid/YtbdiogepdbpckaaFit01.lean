/- The law package's own anchor answers yes. -/
import Derived.Test.YtbdiogepdbpckaaNumSet
namespace Go.Proofs.Ytbdiogepdbpckaa
open Go.RowKit

theorem most37 : mostB 3 7 = true := by kernel_rfl
theorem most17 : mostB 1 7 = false := by kernel_rfl

theorem Reads.two (w : World) (x y : Value) (e : TypeId) : Reads (w.alloc (.cells #[x, y] e)) (w.heap.size + 1) 1 (some ⟨w.heap.size, 0, none⟩) 2 [x, y] := by
  refine ⟨rfl, fun _ => ⟨_, rfl, by simp, fun j u hu => ?_⟩⟩
  rw [Go.WideShapes.add_plain]
  match j, hu with
  | 0, hu => simp at hu; subst hu; rw [World.cell?_alloc_at _ _ _ _ rfl]; rfl
  | 1, hu => simp at hu; subst hu; rw [World.cell?_alloc_at _ _ _ _ rfl]; rfl

/-- num.Add of two. -/
theorem add_two (x y : Int) (w : World) :
    Calls Try.prog 9 #[.slice (some ⟨w.heap.size, 0, none⟩) 2 2] (w.alloc (.cells #[.int .i64 x, .int .i64 y] 3)) fun e w' =>
      e = .returned (.tuple #[.int .i64 (addF 0 [x, y]).1, .int .i64 (addF 0 [x, y]).2]) ∧ w.alloc (.cells #[.int .i64 x, .int .i64 y] 3) = w' :=
  add_any _ 2 2 [x, y] _ (by simpa using Reads.two w (.int .i64 x) (.int .i64 y) 3) (by omega)

set_option maxHeartbeats 400000 in
theorem fit_any (w : World) :
    Calls Try.prog 8 #[] w fun e w' => e = .returned (.bool true) ∧ Below w.heap.size w w' := by
  go_enter Try.func8, Try.ntmps8
  go_wp2_with fail
  refine (add_two 2 3 _).mono ?_
  rintro e w1 ⟨rfl, rfl⟩
  simp only [show (addF 0 [2, 3]).1 = 5 from rfl, show (addF 0 [2, 3]).2 = 0 from rfl]
  go_wp2_with fail
  refine (most_yes 3 7 _ most37).mono ?_
  rintro e w2 ⟨rfl, hb2⟩
  go_wp2_with fail
  refine (most_no 1 7 _ most17).mono ?_
  rintro e w3 ⟨rfl, hb3⟩
  go_wp2_with fail
  go_ret
  exact ⟨rfl, ((Below.refl _ _).alloc (Nat.le_refl _) _).trans ((hb2.trans (hb3.mono hb2.size)).mono (by simp))⟩
end Go.Proofs.Ytbdiogepdbpckaa
