/- The contracts of sum.Put and sum.Take. -/
import Derived.Test.YtdocjkpdmdkfeaaDoorSum02
import Derived.Laws.BytesArg
import Derived.Lib.Bytes
namespace Go.Proofs.YtdocjkpdmdkfeaaDoor
open Go.RowKit

theorem Reads.four (w : World) (x y z u4 : Value) (e : TypeId) : Reads (w.alloc (.cells #[x, y, z, u4] e)) (w.heap.size + 1) 1 (some ⟨w.heap.size, 0, none⟩) 4 [x, y, z, u4] := by
  refine ⟨rfl, fun _ => ⟨_, rfl, by simp, fun j u hu => ?_⟩⟩
  rw [Go.WideShapes.add_plain]
  match j, hu with
  | 0, hu => simp at hu; subst hu; rw [World.cell?_alloc_at _ _ _ _ rfl]; rfl
  | 1, hu => simp at hu; subst hu; rw [World.cell?_alloc_at _ _ _ _ rfl]; rfl
  | 2, hu => simp at hu; subst hu; rw [World.cell?_alloc_at _ _ _ _ rfl]; rfl
  | 3, hu => simp at hu; subst hu; rw [World.cell?_alloc_at _ _ _ _ rfl]; rfl
theorem putL_map (zs : List Int) : zs.map (Value.int .u8) ++ [.int .u8 (crcOf zs % 256), .int .u8 (crcOf zs / 256 % 256), .int .u8 (crcOf zs / 65536 % 256), .int .u8 (crcOf zs / 16777216)] = (putL zs).map (Value.int .u8) := by
  obtain ⟨c0, c1⟩ := crcOf_bd zs
  have : crcOf zs / 16777216 % 256 = crcOf zs / 16777216 := by omega
  simp [putL, sumBytes, this]

set_option maxHeartbeats 1000000 in
theorem put_any (A : Option Addr) (n c : Nat) (zs : List Int) (w : World) (hl : Laid w) (hp : Part.Fit w ⟨A, n, c, zs⟩) (hn : n ≤ 70368744177664) :
    Calls Tryd.prog 10 #[.slice A n c] w fun e w' => ∃ v, e = .returned v ∧ w'.ownsRow w.heap.size 5 1 v (n + 4) ((putL zs).map (Value.int .u8)) ∧ Below w.heap.size w w' := by
  obtain ⟨i0, hi, hz0, hz1, hz2⟩ := info_parts Tryd.infoByte
  obtain ⟨c0, c1⟩ := crcOf_bd zs
  have HP := hide (putL_map zs)
  go_enter Tryd.func10, Tryd.ntmps10
  go_wp2_with fail
  refine (of_one _ A n c zs w rfl hl hp).mono ?_
  rintro e w' ⟨rfl, rfl⟩
  generalize crcOf zs = s at c0 c1 HP
  have hb0 : Below w.heap.size w (w.alloc (.cells #[.slice A n c] 22)) := (Below.refl _ _).alloc (Nat.le_refl _) _
  have hp0 := hp.alloc (.cells #[.slice A n c] 22)
  go_wp2_with (first
    | (at_make; refine wpList_make_own _ rfl _ _ 22 rfl w.heap.size 5 i0 (.int .u8 0) 1 Tryd.underlying22 hi hz0 hz1 .i64 .i64 _ (n + 4) rfl rfl (by omega) (by rw [hz2]; omega) (by unfold maxLen; omega) (by simp) ?_; intro w1 hown1 hgrow1; simp only [World.size_alloc] at hown1; have hb1 := hb0.grown hgrow1 (by simp) (fun g hg => by cases hg); have hp1 := hp.below hb1; have hs1 := hb1.size)
    | (at_builtin; refine wpList_append_any _ rfl (.tmp 12) (.tmp 13) 22 rfl w.heap.size 5 i0 (.int .u8 0) 1 1 Tryd.underlying22 hi hz0 hz1 hz2 rfl (by decide) _ _ _ rfl hown1 w1.heap.size A n c (zs.map (Value.int .u8)) rfl hp1.1 (oneCell_ints _) (by unfold maxLen; omega) (by omega) (by omega) ?_; intro v2 w2 hown2 hgrow2 _; simp only [Nat.zero_add, List.nil_append] at hown2; have hb2 := hb1.grown hgrow2 hs1 (own_base hown1); have hs2 := hb2.size)
    | (at_builtin; refine wpList_append_any _ rfl (.tmp 15) (.tmp 27) 22 rfl w.heap.size 5 i0 (.int .u8 0) 1 1 Tryd.underlying22 hi hz0 hz1 hz2 rfl (by decide) _ _ _ rfl (hown2.alloc _) (w2.heap.size + 1) (some ⟨w2.heap.size, 0, none⟩) 4 4 _ rfl (Reads.four _ _ _ _ _ _) (by intro u hu; simp at hu; rcases hu with rfl | rfl | rfl | rfl <;> rfl) (by unfold maxLen; omega) (by omega) (by simp; omega) ?_; intro v3 w3 hown3 hgrow3 _))
  have hb3 : Below w.heap.size w w3 := (hb2.alloc hs2 _).grown hgrow3 (by simp; omega) (own_base hown2)
  go_ret
  refine ⟨v3, rfl, ?_, hb3⟩
  rw [← HP.out]
  exact hown3

/-! ### bytes.Equal -/
theorem reads_string {w : World} {B : Nat} {A : Option Addr} {n : Nat} {xs : List Int} (h : Reads w B 1 A n (xs.map (Value.int .u8))) (c : Nat) :
    (convert 22 9 (.slice A n c)).run Tryd.prog w = .ok (.string (strOfNums xs)) w := by
  have hl : xs.length = n := by have := h.1; simpa using this
  rcases Nat.eq_zero_or_pos n with h0 | h0
  · subst h0
    obtain rfl := List.eq_nil_of_length_eq_zero hl
    rw [run_convert_bytes_string w 22 9 5 A 0 c Tryd.underlying22 Tryd.underlying5 Tryd.underlying9]
    cases A <;> simp [Conv.bytesToString, loadCells] <;> rfl
  · obtain ⟨b, off, rfl, _, hc⟩ := h.ints h0
    exact run_convert_bytes_arg w 22 5 Tryd.underlying22 Tryd.underlying5 b off n c xs hl hc 9 Tryd.underlying9
theorem strOf_inj {xs ys : List Int} (h1 : ∀ z ∈ xs, 0 ≤ z ∧ z < 256) (h2 : ∀ z ∈ ys, 0 ≤ z ∧ z < 256) (h3 : Lib.bytesOf xs = Lib.bytesOf ys) : xs = ys := by
  unfold Lib.bytesOf at h3
  induction xs generalizing ys with
  | nil => cases ys with
    | nil => rfl
    | cons y ys => simp at h3
  | cons x xs ih => cases ys with
    | nil => simp at h3
    | cons y ys =>
      simp only [List.map_cons, List.cons.injEq] at h3
      have hx := h1 x (by simp)
      have hy := h2 y (by simp)
      have e := congrArg UInt8.toNat h3.1
      simp only [UInt8.toNat_ofNat'] at e
      rw [show x = y by omega, ih (fun z hz => h1 z (by simp [hz])) (fun z hz => h2 z (by simp [hz])) h3.2]
def eqB (xs ys : List Int) : Bool := decide (xs = ys)
theorem strOf_eq {xs ys : List Int} (h1 : ∀ z ∈ xs, 0 ≤ z ∧ z < 256) (h2 : ∀ z ∈ ys, 0 ≤ z ∧ z < 256) : ((strOfNums xs).toList == (strOfNums ys).toList) = eqB xs ys := by
  unfold eqB
  rw [Lib.strOfNums_toList, Lib.strOfNums_toList]
  by_cases h : xs = ys
  · subst h; simp
  · have : Lib.bytesOf xs ≠ Lib.bytesOf ys := fun e => h (strOf_inj h1 h2 e)
    simp [h, this]
set_option maxHeartbeats 400000 in
theorem equal_any (A B : Option Addr) (n m c d : Nat) (xs ys : List Int) (w : World) (h1 : Reads w w.heap.size 1 A n (xs.map (Value.int .u8))) (h2 : Reads w w.heap.size 1 B m (ys.map (Value.int .u8)))
    (b1 : ∀ z ∈ xs, 0 ≤ z ∧ z < 256) (b2 : ∀ z ∈ ys, 0 ≤ z ∧ z < 256) :
    Calls Tryd.prog 12 #[.slice A n c, .slice B m d] w fun e w' => e = .returned (.bool (eqB xs ys)) ∧ w = w' := by
  have k1 := reads_string h1 c
  have k2 := reads_string h2 d
  have HE := hide (strOf_eq b1 b2)
  clear h1 h2 b1 b2
  generalize strOfNums xs = s at k1 HE
  generalize strOfNums ys = t at k2 HE
  go_enter Tryd.func12, Tryd.ntmps12
  go_wp2
  go_ret
  exact ⟨ret_bool (by rw [← HE.out]), rfl⟩

/-! ### Take -/
theorem own_cap {w : World} {base : Nat} {e : TypeId} {size : Nat} {A : Option Addr} {n m c : Nat} {xs : List Value} (h : w.ownsRow base e size (.slice A m c) n xs) : m ≤ c := by
  rcases h.2 with ⟨h1, rfl⟩ | ⟨g, cap, cur, h1, _, _, hnc, _⟩
  · injection h1 with _ h2 h3; omega
  · injection h1 with _ h2 h3; omega
def takeL (zs : List Int) : List Int := zs.take (zs.length - 4)
def takeB (zs : List Int) : Bool := eqB (putL (takeL zs)) zs
set_option maxHeartbeats 1000000 in
theorem take_short (A : Option Addr) (n c : Nat) (w : World) (hn : n < 4) :
    Calls Tryd.prog 11 #[.slice A n c] w fun e w' => e = .returned (.tuple #[.slice none 0 0, .bool false]) ∧ w = w' := by
  go_enter Tryd.func11, Tryd.ntmps11
  go_wp2
  go_ret2
  exact ⟨rfl, rfl⟩
set_option maxHeartbeats 1000000 in
theorem take_long (A : Option Addr) (n c : Nat) (zs : List Int) (w : World) (hl : Laid w) (hp : Part.Fit w ⟨A, n, c, zs⟩) (hn4 : 4 ≤ n) (hnc : n ≤ c) (hn : n ≤ 70368744177664) :
    Calls Tryd.prog 11 #[.slice A n c] w fun e w' => Below w.heap.size w w' ∧
      ((takeB zs = true ∧ ∃ B, e = .returned (.tuple #[.slice B (n - 4) (n - 4), .bool true]) ∧ Reads w' w'.heap.size 1 B (n - 4) ((takeL zs).map (Value.int .u8)) ∧ ∀ ad, B = some ad → w.heap.size ≤ ad.block) ∨
      (takeB zs = false ∧ e = .returned (.tuple #[.slice none 0 0, .bool false]))) := by
  have hlen : zs.length = n := by have := hp.1.1; simpa using this
  have hq : Part.Fit w ⟨A, n - 4, c, takeL zs⟩ := by
    refine ⟨?_, by show n - 4 ≤ _; omega, fun z hz => hp.2.2 z (List.mem_of_mem_take hz)⟩
    refine ⟨by simp [takeL]; omega, fun h0 => ?_⟩
    obtain ⟨ad, e, hb, hc⟩ := hp.1.2 (show 0 < n by omega)
    refine ⟨ad, e, hb, fun j u hu => hc j u ?_⟩
    simp only [takeL, List.map_take, List.getElem?_take] at hu
    split at hu
    · exact hu
    · cases hu
  have hbd := putL_bd hq.2.2
  have hbz := hp.2.2
  clear hlen
  have HB := hide (show takeB zs = eqB (putL (takeL zs)) zs from rfl)
  go_enter Tryd.func11, Tryd.ntmps11
  go_wp2_with fail
  refine (put_any A (n - 4) c (takeL zs) w hl hq (by omega)).mono ?_
  rintro e w1 ⟨v, rfl, hown, hb1⟩
  rw [show n - 4 + 4 = n by omega] at hown
  obtain ⟨A1, c1, rfl⟩ := own_slice hown
  have hcap : n ≤ c1 := own_cap hown
  have hr1 : Reads w1 w1.heap.size 1 A1 n ((putL (takeL zs)).map (Value.int .u8)) := Reads.of_own hown
  have hbase : ∀ ad, A1 = some ad → w.heap.size ≤ ad.block := fun ad h => own_base hown ad.block (by subst h; rfl)
  have hp1 := hp.below hb1
  have hr4 : Reads w1 w1.heap.size 1 A1 (n - 4) ((takeL zs).map (Value.int .u8)) := by
    have h := hr1
    refine ⟨by have := hq.1.1; simpa using this, fun h0 => ?_⟩
    obtain ⟨ad, e, hb, hc⟩ := h.2 (show 0 < n by omega)
    refine ⟨ad, e, hb, fun j u hu => hc j u ?_⟩
    rw [putL, List.map_append]
    exact (List.getElem?_append_left (List.getElem?_eq_some_iff.1 hu).1).trans hu
  clear hown
  by_cases hT : takeB zs = true
  · go_wp2_with fail
    refine (equal_any A1 A n n c1 c _ zs w1 hr1 hp1.1 hbd hbz).mono ?_
    rintro e w' ⟨rfl, rfl⟩
    rw [← HB.out, hT]
    go_wp2_with fail
    go_ret2
    exact ⟨hb1, .inl ⟨hT, A1, rfl, hr4, hbase⟩⟩
  · have hF : takeB zs = false := by simpa using hT
    clear hT
    go_wp2_with fail
    refine (equal_any A1 A n n c1 c _ zs w1 hr1 hp1.1 hbd hbz).mono ?_
    rintro e w' ⟨rfl, rfl⟩
    rw [← HB.out, hF]
    go_wp2_with fail
    go_ret2
    exact ⟨hb1, .inr ⟨hF, rfl⟩⟩
end Go.Proofs.YtdocjkpdmdkfeaaDoor
