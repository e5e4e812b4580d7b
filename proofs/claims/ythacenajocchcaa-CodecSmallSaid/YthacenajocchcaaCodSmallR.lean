/- The Reader's Ballot and Change, where what was laid is read. -/
import Derived.Test.YthacenajocchcaaCodGo
namespace Go.Proofs.Ythacenajocchcaa
open Go.RowKit

/-- A small number that was laid is read. -/
theorem small_tell (g : Nat) (T : Nat → Prop) (n lim : Int) (r bs : List Int) (he : bs = enc n ++ r) (w : World) (h : Rd w g T bs false) (hb : ∀ z ∈ bs, 0 ≤ z ∧ z < 256) (h0 : 0 ≤ n) (h1 : n < 9223372036854775808) (h2 : n < lim) :
    Calls Try.prog 15 #[.pointer (some ⟨g, 0, none⟩), .int .i64 lim] w (Told (Value.int .i64) (some (n, r)) w g T) := by
  have := small_any g T bs lim w h hb
  rwa [he, rdS_enc h0 h1 h2 r] at this
theorem num_tell (g : Nat) (T : Nat → Prop) (n : Int) (r bs : List Int) (he : bs = enc n ++ r) (w : World) (h : Rd w g T bs false) (hb : ∀ z ∈ bs, 0 ≤ z ∧ z < 256) (h0 : 0 ≤ n) (h1 : n < 9223372036854775808) :
    Calls Try.prog 35 #[.pointer (some ⟨g, 0, none⟩)] w (Told (Value.int .i64) (some (n, r)) w g T) := by
  have := num_any g T bs w h hb
  rwa [he, rdN_enc h0 h1 r] at this
theorem bytes_tail {a r : List Int} (hb : ∀ z ∈ a ++ r, (0 : Int) ≤ z ∧ z < 256) : ∀ z ∈ r, 0 ≤ z ∧ z < 256 := fun z hz => hb z (List.mem_append_right _ hz)

set_option maxRecDepth 100000 in
set_option maxHeartbeats 1600000 in
theorem ballot_tell (g : Nat) (T : Nat → Prop) (n m : Int) (r : List Int) (w : World) (h : Rd w g T (enc n ++ (enc m ++ r)) false) (hb : ∀ z ∈ enc n ++ (enc m ++ r), 0 ≤ z ∧ z < 256)
    (n0 : 0 ≤ n) (n1 : n < 9223372036854775808) (m0 : 0 ≤ m) (m1 : m < 5) :
    Calls Try.prog 22 #[.pointer (some ⟨g, 0, none⟩)] w (Told (fun l => .agg (iA l)) (some ([n, m], r)) w g T) := by
  have hlt := h.lt
  have hO1 : Only (· = g) w (w.alloc (.cells (iA [0, 0]) 40)) := (Only.refl _ _).alloc _
  have h1 : Rd (w.alloc (.cells (iA [0, 0]) 40)) g T (enc n ++ (enc m ++ r)) false := h.only ((Only.refl (fun _ => False) _).alloc _) (by simp) (by simp)
  have hI1 : IBlk (w.alloc (.cells (iA [0, 0]) 40)) w.heap.size 40 [0, 0] := IBlk.new _ _ _
  have HN := num_tell g T n _ _ rfl _ h1 hb n0 n1
  have HM := fun w' h => small_tell g T m 5 r _ rfl w' h (bytes_tail hb) m0 (by omega) m1
  clear hb h
  generalize hE : enc m ++ r = E at HN HM
  clear hE
  go_enter Try.func22, Try.ntmps22
  go_wp2_with fail
  refine HN.mono ?_
  rintro e w2 hX
  obtain ⟨rfl, hR2, hO2⟩ := hX.rd
  have hI2 := hI1.only hO2 (by show ¬ w.heap.size = g; omega)
  go_wp2_with fail
  refine (HM _ hR2).mono ?_
  rintro e w3 hX
  obtain ⟨rfl, hR3, hO3⟩ := hX.rd
  have hI3 := hI2.only hO3 (by show ¬ w.heap.size = g; omega)
  have hc0 := hI3.cellAt 0 0 rfl
  have hc1 := hI3.cellAt 1 0 rfl
  have hz0 := hI3.frozen 0
  have hz1 := hI3.frozen 1
  go_wp2_with fail
  have hI4 := (hI3.set 0 n).set 1 m
  have hO4 : Only (· = w.heap.size) w3 ((w3.setCell ⟨w.heap.size, 0, none⟩ (.int .i64 n)).setCell ⟨w.heap.size, 1, none⟩ (.int .i64 m)) := ((Only.refl (· = w.heap.size) w3).setCell (p := ⟨w.heap.size, 0, none⟩) (.inl rfl) _).setCell (p := ⟨w.heap.size, 1, none⟩) (.inl rfl) _
  refine bodyPost_ret (results_i rfl rfl hI4 Try.underlying40 rfl (by kernel_rfl)) rfl ⟨((hO1.trans_ hO2).trans_ hO3).trans hO4 (fun i (e : i = w.heap.size) => .inr (by omega)), rfl, ?_⟩
  exact hR3.only hO4 (by show ¬ g = w.heap.size; omega) (fun i hi (e : i = w.heap.size) => by omega)
set_option maxRecDepth 100000 in
set_option maxHeartbeats 1600000 in
theorem change_tell (g : Nat) (T : Nat → Prop) (n m k : Int) (r : List Int) (w : World) (h : Rd w g T (enc n ++ (enc m ++ (enc k ++ r))) false) (hb : ∀ z ∈ enc n ++ (enc m ++ (enc k ++ r)), 0 ≤ z ∧ z < 256)
    (n0 : 0 ≤ n) (n1 : n < 2) (m0 : 0 ≤ m) (m1 : m < 5) (k0 : 0 ≤ k) (k1 : k < 5) :
    Calls Try.prog 21 #[.pointer (some ⟨g, 0, none⟩)] w (Told (fun l => .agg (iA l)) (some ([n, m, k], r)) w g T) := by
  have hlt := h.lt
  have hO1 : Only (· = g) w (w.alloc (.cells (iA [0, 0, 0]) 38)) := (Only.refl _ _).alloc _
  have h1 : Rd (w.alloc (.cells (iA [0, 0, 0]) 38)) g T (enc n ++ (enc m ++ (enc k ++ r))) false := h.only ((Only.refl (fun _ => False) _).alloc _) (by simp) (by simp)
  have hI1 : IBlk (w.alloc (.cells (iA [0, 0, 0]) 38)) w.heap.size 38 [0, 0, 0] := IBlk.new _ _ _
  have HN := small_tell g T n 2 _ _ rfl _ h1 hb n0 (by omega) n1
  have HM := fun w' h => small_tell g T m 5 _ _ rfl w' h (bytes_tail hb) m0 (by omega) m1
  have HK := fun w' h => small_tell g T k 5 r _ rfl w' h (bytes_tail (bytes_tail hb)) k0 (by omega) k1
  clear hb h
  generalize hF : enc k ++ r = F at HN HM HK
  clear hF
  generalize hE : enc m ++ F = E at HN HM
  clear hE
  go_enter Try.func21, Try.ntmps21
  go_wp2_with fail
  refine HN.mono ?_
  rintro e w2 hX
  obtain ⟨rfl, hR2, hO2⟩ := hX.rd
  have hI2 := hI1.only hO2 (by show ¬ w.heap.size = g; omega)
  go_wp2_with fail
  refine (HM _ hR2).mono ?_
  rintro e w3 hX
  obtain ⟨rfl, hR3, hO3⟩ := hX.rd
  have hI3 := hI2.only hO3 (by show ¬ w.heap.size = g; omega)
  go_wp2_with fail
  refine (HK _ hR3).mono ?_
  rintro e w4 hX
  obtain ⟨rfl, hR4, hO4⟩ := hX.rd
  have hI4 := hI3.only hO4 (by show ¬ w.heap.size = g; omega)
  have hc0 := hI4.cellAt 0 0 rfl
  have hc1 := hI4.cellAt 1 0 rfl
  have hc2 := hI4.cellAt 2 0 rfl
  have hz0 := hI4.frozen 0
  have hz1 := hI4.frozen 1
  have hz2 := hI4.frozen 2
  go_wp2_with fail
  have hI5 := ((hI4.set 0 n).set 1 m).set 2 k
  have hO5 : Only (· = w.heap.size) w4 (((w4.setCell ⟨w.heap.size, 0, none⟩ (.int .i64 n)).setCell ⟨w.heap.size, 1, none⟩ (.int .i64 m)).setCell ⟨w.heap.size, 2, none⟩ (.int .i64 k)) := (((Only.refl (· = w.heap.size) w4).setCell (p := ⟨w.heap.size, 0, none⟩) (.inl rfl) _).setCell (p := ⟨w.heap.size, 1, none⟩) (.inl rfl) _).setCell (p := ⟨w.heap.size, 2, none⟩) (.inl rfl) _
  refine bodyPost_ret (results_i rfl rfl hI5 Try.underlying38 rfl (by kernel_rfl)) rfl ⟨(((hO1.trans_ hO2).trans_ hO3).trans_ hO4).trans hO5 (fun i (e : i = w.heap.size) => .inr (by omega)), rfl, ?_⟩
  exact hR4.only hO5 (by show ¬ g = w.heap.size; omega) (fun i hi (e : i = w.heap.size) => by omega)
end Go.Proofs.Ythacenajocchcaa
