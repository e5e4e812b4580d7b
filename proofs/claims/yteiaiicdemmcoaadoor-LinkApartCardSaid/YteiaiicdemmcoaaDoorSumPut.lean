/- The contract of sum.Take. -/
import Derived.Test.YteiaiicdemmcoaaDoorStrB
import Derived.Test.YteiaiicdemmcoaaDoorSumB
import Derived.Laws.BytesArg
import Derived.Lib.Bytes
namespace Go.Proofs.YteiaiicdemmcoaaDoor
open Go.RowKit

/-! ### bytes.Equal -/
set_option maxHeartbeats 400000 in
theorem equal_any (A B : Option Addr) (n m c d : Nat) (xs ys : List Int) (w : World) (h1 : Reads w w.heap.size 1 A n (xs.map (Value.int .u8))) (h2 : Reads w w.heap.size 1 B m (ys.map (Value.int .u8)))
    (b1 : ∀ z ∈ xs, 0 ≤ z ∧ z < 256) (b2 : ∀ z ∈ ys, 0 ≤ z ∧ z < 256) :
    Calls Tryd.prog 24 #[.slice A n c, .slice B m d] w fun e w' => e = .returned (.bool (eqB xs ys)) ∧ w = w' := by
  have k1 := reads_string h1 c
  have k2 := reads_string h2 d
  have HE := hide (strOf_eq b1 b2)
  clear h1 h2 b1 b2
  generalize strOfNums xs = s at k1 HE
  generalize strOfNums ys = t at k2 HE
  go_enter Tryd.func24, Tryd.ntmps24
  go_wp2
  go_ret
  exact ⟨ret_bool (by rw [← HE.out]), rfl⟩

/-! ### Take -/
theorem own_cap {w : World} {base : Nat} {e : TypeId} {size : Nat} {A : Option Addr} {n m c : Nat} {xs : List Value} (h : w.ownsRow base e size (.slice A m c) n xs) : m ≤ c := by
  rcases h.2 with ⟨h1, rfl⟩ | ⟨g, cap, cur, h1, _, _, hnc, _⟩
  · injection h1 with _ h2 h3; omega
  · injection h1 with _ h2 h3; omega
def takeL (zs : List Int) : List Int := zs.take (zs.length - 4)
def takeB (zs : List Int) : Bool := eqB (putL (takeL zs)) zs
set_option maxHeartbeats 1000000 in
theorem take_short (A : Option Addr) (n c : Nat) (w : World) (hn : n < 4) :
    Calls Tryd.prog 18 #[.slice A n c] w fun e w' => e = .returned (.tuple #[.slice none 0 0, .bool false]) ∧ w = w' := by
  go_enter Tryd.func18, Tryd.ntmps18
  go_wp2
  go_ret2
  exact ⟨rfl, rfl⟩
set_option maxHeartbeats 1000000 in
theorem take_long (A : Option Addr) (n c : Nat) (zs : List Int) (w : World) (hl : Laid w) (hp : Part.Fit w ⟨A, n, c, zs⟩) (hn4 : 4 ≤ n) (hnc : n ≤ c) (hn : n ≤ 70368744177664) :
    Calls Tryd.prog 18 #[.slice A n c] w fun e w' => Below w.heap.size w w' ∧
      ((takeB zs = true ∧ ∃ B, e = .returned (.tuple #[.slice B (n - 4) (n - 4), .bool true]) ∧ Reads w' w'.heap.size 1 B (n - 4) ((takeL zs).map (Value.int .u8)) ∧ ∀ ad, B = some ad → w.heap.size ≤ ad.block) ∨
      (takeB zs = false ∧ e = .returned (.tuple #[.slice none 0 0, .bool false]))) := by
  have hlen : zs.length = n := by have := hp.1.1; simpa using this
  have hq : Part.Fit w ⟨A, n - 4, c, takeL zs⟩ := by
    refine ⟨?_, by show n - 4 ≤ _; omega, fun z hz => hp.2.2 z (List.mem_of_mem_take hz)⟩
    refine ⟨by simp [takeL]; omega, fun h0 => ?_⟩
    obtain ⟨ad, e, hb, hc⟩ := hp.1.2 (show 0 < n by omega)
    refine ⟨ad, e, hb, fun j u hu => hc j u ?_⟩
    simp only [takeL, List.map_take, List.getElem?_take] at hu
    split at hu
    · exact hu
    · cases hu
  have hbd := putL_bd hq.2.2
  have hbz := hp.2.2
  clear hlen
  have HB := hide (show takeB zs = eqB (putL (takeL zs)) zs from rfl)
  go_enter Tryd.func18, Tryd.ntmps18
  go_wp2_with fail
  refine (put_any A (n - 4) c (takeL zs) w hl hq (by omega)).mono ?_
  rintro e w1 ⟨v, rfl, hown, hb1⟩
  rw [show n - 4 + 4 = n by omega] at hown
  obtain ⟨A1, c1, rfl⟩ := own_slice hown
  have hcap : n ≤ c1 := own_cap hown
  have hr1 : Reads w1 w1.heap.size 1 A1 n ((putL (takeL zs)).map (Value.int .u8)) := Reads.of_own hown
  have hbase : ∀ ad, A1 = some ad → w.heap.size ≤ ad.block := fun ad h => own_base hown ad.block (by subst h; rfl)
  have hp1 := hp.below hb1
  have hr4 : Reads w1 w1.heap.size 1 A1 (n - 4) ((takeL zs).map (Value.int .u8)) := by
    have h := hr1
    refine ⟨by have := hq.1.1; simpa using this, fun h0 => ?_⟩
    obtain ⟨ad, e, hb, hc⟩ := h.2 (show 0 < n by omega)
    refine ⟨ad, e, hb, fun j u hu => hc j u ?_⟩
    rw [putL, List.map_append]
    exact (List.getElem?_append_left (List.getElem?_eq_some_iff.1 hu).1).trans hu
  clear hown
  by_cases hT : takeB zs = true
  · go_wp2_with fail
    refine (equal_any A1 A n n c1 c _ zs w1 hr1 hp1.1 hbd hbz).mono ?_
    rintro e w' ⟨rfl, rfl⟩
    rw [← HB.out, hT]
    go_wp2_with fail
    go_ret2
    exact ⟨hb1, .inl ⟨hT, A1, rfl, hr4, hbase⟩⟩
  · have hF : takeB zs = false := by simpa using hT
    clear hT
    go_wp2_with fail
    refine (equal_any A1 A n n c1 c _ zs w1 hr1 hp1.1 hbd hbz).mono ?_
    rintro e w' ⟨rfl, rfl⟩
    rw [← HB.out, hF]
    go_wp2_with fail
    go_ret2
    exact ⟨hb1, .inr ⟨hF, rfl⟩⟩
end Go.Proofs.YteiaiicdemmcoaaDoor
