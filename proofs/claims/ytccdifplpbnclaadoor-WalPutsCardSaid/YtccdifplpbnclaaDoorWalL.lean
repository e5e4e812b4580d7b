/- One sector of a record is laid. -/
import Derived.Test.YtccdifplpbnclaaDoorWalP
import Derived.Test.YtccdifplpbnclaaDoorDskE
import Derived.Test.YtccdifplpbnclaaDoorSumB
namespace Go.Proofs.YtccdifplpbnclaaDoor
open Go.RowKit Go.Maps

attribute [local go_sem ↓] loadS_fold storeS_fold allocS_fold sliceS_fold copyS_fold buildS_fold
attribute [local go_sem] loadS_has storeS_has allocS_run

theorem sliceS_59 {b o : Nat} (w : World) : (sliceS (.pointer (some ⟨b, o, none⟩)) (some (.int .i64 59))).run Tryd.prog w = .ok (.slice (some ⟨b, o, none⟩) 59 64) w := sliceS_k (k := 59) (show (59 : Nat) ≤ 64 by decide) w
def sliceL (x : Value) (l : Value) : Sem Value := Instr.sliceAt 61 x (some l) none none
theorem sliceL_fold (x l : Value) : Instr.sliceAt 61 x (some l) none none = sliceL x l := rfl
theorem sliceL_7 {b : Nat} (w : World) : (sliceL (.pointer (some ⟨b, 0, none⟩)) (.int .i64 7)).run Tryd.prog w = .ok (.slice (some ⟨b, 7, none⟩) 57 57) w := by
  unfold sliceL
  rw [run_sliceAt_array_l _ _ _ Tryd.und64 _ _ (by omega) (by rw [Tryd.len64]; omega), Tryd.elem64, Tryd.size8, Tryd.len64]
  simp [slicedAt, Result.andThen]
  rfl
def h7 (a b c d e f g : Int) : List Int := [a, b, c, d, e, f, g] ++ List.replicate 57 0
theorem buildS_seven (a b c d e f g : Int) (w : World) : (buildS #[(0, .int .u8 a), (1, .int .u8 b), (2, .int .u8 c), (3, .int .u8 d), (4, .int .u8 e), (5, .int .u8 f), (6, .int .u8 g)]).run Tryd.prog w = .ok (secV (h7 a b c d e f g)) w := run_build w _ _ _ (by kernel_rfl)
attribute [local go_sem ↓] sliceL_fold
attribute [local go_sem] sliceS_59 sliceS_all sliceL_7 buildS_seven

theorem copy_srcG {w : World} {b o n m c0 c Bd : Nat} {A : Option Addr} {ty : TypeId} {zs : List Int} (hR : Reads w Bd 1 A n (u8V zs)) (hn : n ≤ m) (hr : Room w b o m) :
    (copyS (.slice (some ⟨b, o, none⟩) m c0) (.slice A n c) ty).run Tryd.prog w = .ok (.int .i64 (n : Int)) (w.setCells b o (u8V zs)) := by
  have hl : (u8V zs).length = n := by have := hR.1; omega
  rcases Nat.eq_zero_or_pos n with h0 | h0
  · subst h0
    have hz : zs = [] := List.eq_nil_of_length_eq_zero (by rw [← u8V_length]; exact hl)
    subst hz
    exact run_copy_none (P := Tryd.prog) w 33 33 ty 5 _ _ m c0 0 c Tryd.underlying33 Tryd.info8 (by simp)
  · obtain ⟨ad, rfl, _, hc⟩ := hR.2 h0
    have := run_copy_cells (P := Tryd.prog) w 33 33 ty 5 b o m c0 ad n c (u8V zs) Tryd.underlying33 Tryd.info8
      (by rw [hl]; exact (Nat.min_eq_left hn).symm) hc (fun j hj => (hr j (by omega)).1) (fun j hj => (hr j (by omega)).2) (u8V_one zs)
    rw [hl] at this
    exact this
/-- A block's first cells, read as a slice. -/
theorem VBlk.reads {w : World} {g B n : Nat} {t : TypeId} {vs : List Value} (h : VBlk w g t vs) (hn : n ≤ vs.length) (hB : g < B) : Reads w B 1 (some ⟨g, 0, none⟩) n (vs.take n) :=
  ⟨by rw [List.length_take]; omega, fun _ => ⟨_, rfl, hB, fun j u hu => by
    rw [Go.WideShapes.add_plain, Nat.zero_add]
    refine h.cellAt ?_
    rw [List.getElem?_take] at hu
    split at hu
    · exact hu
    · cases hu⟩⟩
theorem size_setC (b : Nat) : ∀ (vs : List Value) (o : Nat) (w : World), (w.setCells b o vs).heap.size = w.heap.size
  | [], _, _ => rfl
  | v :: r, o, w => by rw [World.setCells, size_setC b r (o + 1)]; simp
def hd7 (k j c n : Nat) : List Int := headS k j c n ++ List.replicate 57 0
theorem u8V_append (a b : List Int) : u8V (a ++ b) = u8V a ++ u8V b := by simp [u8V]
theorem u8V_take (a : List Int) (n : Nat) : u8V (a.take n) = (u8V a).take n := by simp [u8V, List.map_take]
theorem u8V_drop (a : List Int) (n : Nat) : u8V (a.drop n) = (u8V a).drop n := by simp [u8V, List.map_drop]
theorem lay_step1 (k j c : Nat) {zs : List Int} (h : zs.length ≤ 52) : (u8V (hd7 k j c zs.length)).take 7 ++ u8V zs ++ (u8V (hd7 k j c zs.length)).drop (7 + (u8V zs).length) = u8V (bodyS k j c zs ++ List.replicate 5 0) := by
  rw [← u8V_take, u8V_length, ← u8V_drop, ← u8V_append, ← u8V_append]
  congr 1
  unfold hd7 bodyS
  rw [← List.drop_drop, show (headS k j c zs.length ++ List.replicate 57 (0 : Int)).take 7 = headS k j c zs.length from rfl, show (headS k j c zs.length ++ List.replicate 57 (0 : Int)).drop 7 = List.replicate 57 0 from rfl, List.drop_replicate]
  simp only [List.append_assoc, List.replicate_append_replicate]
  rw [show 52 - zs.length + 5 = 57 - zs.length by omega]
theorem lay_step2 (k j c : Nat) {zs : List Int} (h : zs.length ≤ 52) : u8V (putL (bodyS k j c zs)) ++ (u8V (bodyS k j c zs ++ List.replicate 5 0)).drop (u8V (putL (bodyS k j c zs))).length = u8V (putL (bodyS k j c zs) ++ [0]) := by
  rw [u8V_append _ [0], ← u8V_drop, u8V_length, putL_length, body_len k j c zs h]
  congr 1
  rw [List.drop_append, List.drop_of_length_le (by rw [body_len k j c zs h]; decide), body_len k j c zs h]
  rfl
theorem lay_step3 (k j c : Nat) {zs : List Int} (h : zs.length ≤ 52) : (u8V (putL (bodyS k j c zs) ++ [0])).set 63 (.int .u8 1) = u8V (layL k j c zs) := by
  unfold layL
  rw [u8V_append, u8V_append]
  have hl : (u8V (putL (bodyS k j c zs))).length = 63 := by rw [u8V_length, putL_length, body_len k j c zs h]
  rw [List.set_append, if_neg (by omega), hl]; rfl
theorem conv8 {n d : Nat} : ((n : Int) / (d : Int)) % 256 = ((n / d % 256 : Nat) : Int) := by omega

set_option maxRecDepth 100000 in
set_option maxHeartbeats 8000000 in
theorem lay_runs (w : World) (k j c n cp : Nat) (A : Option Addr) (zs : List Int) (hl : Laid w) (hR : Reads w w.heap.size 1 A n (u8V zs)) (hn : n ≤ 52) (hz : ∀ z ∈ zs, 0 ≤ z ∧ z < 256) (hk : k ≤ 1000000) (_ : j ≤ 1000000) (_ : c ≤ 1000000) :
    Calls Tryd.prog 31 #[.int .i64 k, .int .i64 j, .int .i64 c, .slice A n cp] w fun e w' => e = .returned (secV (layL k j c zs)) ∧ Below w.heap.size w w' := by
  obtain rfl : n = zs.length := by have := hR.1; rw [u8V_length] at this; omega
  go_enter Tryd.func31, Tryd.ntmps31
  have a8 := VBlk.new w 61 (u8V zs64)
  have B8 : Below w.heap.size w (w.alloc (.cells (u8V zs64).toArray 61)) := (Below.refl _ _).alloc (Nat.le_refl _) _
  have hs8 : (w.alloc (.cells (u8V zs64).toArray 61)).heap.size = w.heap.size + 1 := by simp
  have hR8 := hR.alloc (Nat.le_refl _) (.cells (u8V zs64).toArray 61)
  have hL8 := hl.alloc (.cells (u8V zs64).toArray 61)
  go_upto_region 1 with fail
  generalize w.alloc (.cells (u8V zs64).toArray 61) = w1 at *
  have hh : h7 ((k : Int) / 16777216) ((k : Int) / 65536) ((k : Int) / 256 % 256) ((k : Int) % 256) ((j : Int) % 256) ((c : Int) % 256) (zs.length : Int) = hd7 k j c zs.length := by
    unfold h7 hd7 headS
    congr 2
    · omega
    · congr 1
      · omega
      · congr 1
        congr 1
        congr 1
        congr 1
        congr 1
        congr 1
        omega
  have hh64 : Is 64 (u8V (hd7 k j c zs.length)) := ⟨rfl, u8V_one _⟩
  have a9 := VBlk.new w1 61 (u8V zs64)
  have r9 := a9.room 0 64 (by decide)
  have f9 := a9.fill (us := u8V (hd7 k j c zs.length)) rfl
  have f8 : VBlk ((w1.alloc (.cells (u8V zs64).toArray 61)).setCells w1.heap.size 0 (u8V (hd7 k j c zs.length))) w.heap.size 61 (u8V zs64) := (a8.alloc _).far (by omega) _ _
  have B9 : Below w.heap.size w ((w1.alloc (.cells (u8V zs64).toArray 61)).setCells w1.heap.size 0 (u8V (hd7 k j c zs.length))) := below_only (B8.alloc (by omega) _) (only_cells _ w1.heap.size 0 _) (fun i (e : i = w1.heap.size) => by omega) (by simp; omega)
  have s9 : ((w1.alloc (.cells (u8V zs64).toArray 61)).setCells w1.heap.size 0 (u8V (hd7 k j c zs.length))).heap.size = w.heap.size + 2 := by rw [size_setC]; simp; omega
  rw [hs8] at a9 r9 f9 f8 B9 s9
  go_upto_region 2 with fail
  clear a8 a9 r9 B8 hR8 hL8 hh hh64
  generalize (w1.alloc (.cells (u8V zs64).toArray 61)).setCells (w.heap.size + 1) 0 (u8V (hd7 k j c zs.length)) = w2 at *
  have hRr := hR.below B9
  have hcp := copy_srcG (ty := 3) (c0 := 57) (c := cp) hRr (show zs.length ≤ 57 by omega) (f9.room 7 57 (by rw [u8V_length]; exact Nat.le_refl _))
  have g9 := f9.setN 7 (us := u8V zs) (by rw [u8V_length, u8V_length]; show 7 + zs.length ≤ 64; omega)
  rw [lay_step1 k j c (by omega)] at g9
  have g8 := f8.far (b := w.heap.size + 1) (by omega) 7 (u8V zs)
  have B10 : Below w.heap.size w (w2.setCells (w.heap.size + 1) 7 (u8V zs)) := below_only B9 (only_cells _ _ 7 _) (fun i (e : i = w.heap.size + 1) => by omega) (by omega)
  have s10 : (w2.setCells (w.heap.size + 1) 7 (u8V zs)).heap.size = w.heap.size + 2 := by rw [size_setC]; omega
  go_upto_region 3 with fail
  clear f9 f8 hcp hRr B9
  generalize w2.setCells (w.heap.size + 1) 7 (u8V zs) = w3 at *
  have hL3 : Laid w3.drew := hl.below B10.drew hl.lt
  have hP : Part.Fit w3.drew ⟨some ⟨w.heap.size + 1, 0, none⟩, 59, 64, bodyS k j c zs⟩ := by
    refine ⟨?_, (by decide : (59 : Nat) ≤ 9223372036854775807), body_bd k j c zs hz⟩
    have := g9.drew.reads (n := 59) (B := w3.drew.heap.size) (by rw [u8V_length, List.length_append, body_len k j c zs (by omega)]; decide) (by show _ < w3.heap.size; omega)
    rw [← u8V_take, List.take_left' (body_len k j c zs (by omega))] at this
    exact this
  have hs3 : w3.drew.heap.size = w.heap.size + 2 := s10
  go_region_with (go_at_call 34; refine (put_any _ 59 64 (bodyS k j c zs) _ hL3 hP (by omega)).mono ?_; rintro e w4 ⟨v, rfl, hown, hb⟩; have hown : w4.ownsRow w3.drew.heap.size 5 1 v 63 (u8V (putL (bodyS k j c zs))) := hown; obtain ⟨A4, c4, rfl⟩ := own_slice hown; have hb4 := B10.drew.trans (hb.mono (by omega)); have k9 := g9.drew.below hb (by omega); have k8 := g8.drew.below hb (by omega); have hcp := copy_srcG (ty := 3) (c0 := 64) (c := c4) (Reads.of_own hown) (show 63 ≤ 64 by decide) (k9.room 0 64 (by rw [u8V_length, List.length_append, body_len k j c zs hn]; decide)); have hs4 := hb.size; clear hown hb)
  all_goals
    have m9 := k9.fillK (us := u8V (putL (bodyS k j c zs))) (by rw [u8V_length, u8V_length, List.length_append, putL_length, body_len k j c zs hn]; decide)
    rw [lay_step2 k j c hn] at m9
    have m8 := k8.far (b := w.heap.size + 1) (by omega) 0 (u8V (putL (bodyS k j c zs)))
    have B5 : Below w.heap.size w (w4.setCells (w.heap.size + 1) 0 (u8V (putL (bodyS k j c zs)))) := below_only hb4 (only_cells _ _ 0 _) (fun i (e : i = w.heap.size + 1) => by omega) (by omega)
    have s5 : (w4.setCells (w.heap.size + 1) 0 (u8V (putL (bodyS k j c zs)))).heap.size = w4.heap.size := size_setC _ _ _ _
    clear hcp k9 k8 hb4 hP hL3 g9 g8 B10
    generalize w4.setCells (w.heap.size + 1) 0 (u8V (putL (bodyS k j c zs))) = w5 at *
    have hp63 : (putL (bodyS k j c zs)).length = 63 := by rw [putL_length, body_len k j c zs hn]
    have c63 : w5.cell? ⟨w.heap.size + 1, 63, none⟩ = some (.int .u8 0) := m9.cellAt (by rw [u8V_append, List.getElem?_append_right (by rw [u8V_length, hp63]; exact Nat.le_refl _), u8V_length, hp63]; rfl)
    have z63 := m9.frozen 63
    have n9 := m9.set 63 (.int .u8 1)
    rw [lay_step3 k j c hn] at n9
    have o6 := only_cell w5 (w.heap.size + 1) 63 (.int .u8 1)
    have n8 := m8.only o6 (by show ¬ w.heap.size = w.heap.size + 1; omega)
    have B6 := below_only B5 o6 (fun i (e : i = w.heap.size + 1) => by omega) (by omega)
    have s6 : (w5.setCell ⟨w.heap.size + 1, 63, none⟩ (.int .u8 1)).heap.size = w5.heap.size := by simp
    clear m9 m8
    obtain ⟨rr, hh⟩ := n9.whole (n := 64) (by rw [u8V_length]; exact lay_len k j c zs hn)
    have hi : Is 64 (u8V (layL k j c zs)) := ⟨by rw [u8V_length]; exact lay_len k j c zs hn, u8V_one _⟩
    have r8 := n8.room 0 64 (by decide)
    have f8 := n8.fill (us := u8V (layL k j c zs)) (by rw [hi.1]; rfl)
    have B7 := below_only B6 (only_cells _ w.heap.size 0 (u8V (layL k j c zs))) (fun i (e : i = w.heap.size) => by omega) (by omega)
    go_wp2_with fail
    exact bodyPost_ret (results_v rfl f8 hi.1 Tryd.underlying61 rfl Tryd.info64 rfl) rfl ⟨rfl, B7⟩
end Go.Proofs.YtccdifplpbnclaaDoor
