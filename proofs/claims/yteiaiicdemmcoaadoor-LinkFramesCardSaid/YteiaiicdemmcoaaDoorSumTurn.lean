/- Bytes with their sum, some of them turned: plain facts, and what a store keeps. -/
import Derived.Test.YteiaiicdemmcoaaDoorSumPut
namespace Go.Proofs.YteiaiicdemmcoaaDoor
open Go.RowKit

theorem takeL_putL (xs : List Int) : takeL (putL xs) = xs := by
  rw [takeL, putL_length, show xs.length + 4 - 4 = xs.length by omega, putL, List.take_left]
theorem takeB_putL (xs : List Int) : takeB (putL xs) = true := by
  simp [takeB, takeL_putL, eqB]
/-- Turned in a window of four: none, but for the same bytes. -/
theorem takeB_window {xs p : List Int} {t : Nat} (hb : ∀ z ∈ p, 0 ≤ z ∧ z < 256) (hx : ∀ z ∈ xs, 0 ≤ z ∧ z < 256) (hl : p.length = (putL xs).length) (hs : ∀ j, j < t ∨ t + 4 ≤ j → p[j]? = (putL xs)[j]?) (h : takeB p = true) : p = putL xs := by
  have hp : putL (takeL p) = p := by simpa [takeB, eqB] using h
  have cut : ∀ q : List Int, q = q.take t ++ ((q.drop t).take 4 ++ q.drop (t + 4)) := by
    intro q
    rw [← List.drop_drop, List.take_append_drop, List.take_append_drop]
  have e1 : p.take t = (putL xs).take t := by
    apply List.ext_getElem?
    intro j
    rw [List.getElem?_take, List.getElem?_take]
    split
    · exact hs j (.inl ‹_›)
    · rfl
  have e2 : p.drop (t + 4) = (putL xs).drop (t + 4) := by
    apply List.ext_getElem?
    intro j
    rw [List.getElem?_drop, List.getElem?_drop]
    exact hs _ (.inr (by omega))
  have hw := put_window (b := xs) (b' := takeL p) (a := (putL xs).take t) (u := ((putL xs).drop t).take 4) (v := (p.drop t).take 4) (t := (putL xs).drop (t + 4))
    (List.length_take_le _ _) (by simp [hl]) (fun z hz => putL_bd hx z (List.mem_of_mem_drop (List.mem_of_mem_take hz))) (fun z hz => hb z (List.mem_of_mem_drop (List.mem_of_mem_take hz)))
    (cut _) (by rw [hp, ← e1, ← e2]; exact cut p)
  rw [cut p, cut (putL xs), e1, e2, hw]
theorem xor_bd (z x : Int) (hz : 0 ≤ z ∧ z < 256) (hx : 0 ≤ x ∧ x < 256) : 0 ≤ bits .xor .u8 z x ∧ bits .xor .u8 z x < 256 := by
  rw [u8_xor z x hz.1 hz.2 hx.1 hx.2]
  have : z.toNat ^^^ x.toNat < 2 ^ 8 := Nat.xor_lt_two_pow (by omega) (by omega)
  omega
theorem xor_same (z x : Int) (hz : 0 ≤ z ∧ z < 256) (hx : 0 ≤ x ∧ x < 256) (h : bits .xor .u8 z x = z) : x = 0 := by
  rw [u8_xor z x hz.1 hz.2 hx.1 hx.2] at h
  have h2 : z.toNat ^^^ x.toNat = z.toNat := by omega
  have h3 := congrArg (z.toNat ^^^ ·) h2
  simp only [← Nat.xor_assoc, Nat.xor_self, Nat.zero_xor] at h3
  omega
theorem and_ffff (a : Int) : bits .and .i64 a 65535 = a % 65536 := by
  show IntKind.i64.wrap ((BitVec.ofInt 64 a &&& BitVec.ofInt 64 65535).toNat : Int) = _
  rw [BitVec.toNat_and, show (BitVec.ofInt 64 65535).toNat = 2 ^ 16 - 1 from rfl, Nat.and_two_pow_sub_one_eq_mod, BitVec.toNat_ofInt, IntKind.wrap_i64]
  omega
theorem cast_mod (q n : Nat) : (q : Int) % ((n : Int) + 4) = ((q % (n + 4) : Nat) : Int) := by
  rw [Int.natCast_emod]; rfl
theorem getD_bd {l : List Int} {a b : Int} (h : ∀ z ∈ l, a ≤ z ∧ z < b) (h0 : a ≤ 0 ∧ 0 < b) (i : Nat) : a ≤ l.getD i 0 ∧ l.getD i 0 < b := by
  by_cases hi : i < l.length
  · have := h l[i] (List.getElem_mem _)
    simpa [List.getD, hi] using this
  · simpa [List.getD, List.getElem?_eq_none (by omega : l.length ≤ i)] using h0
theorem Laid.setCell {w : World} (h : Laid w) {p : Addr} (hp : 0 ≠ p.block) (u : Value) : Laid (w.setCell p u) := fun k hk =>
  (World.cell?_setCell_other w p ⟨0, k, none⟩ u (fun e => hp (by rw [e]))).trans (h k hk)
/-- The place that the laws turn. -/
theorem place_of (a : Int) (n : Nat) : ∃ q i : Nat, bits .and .i64 a 65535 = (q : Int) ∧ q < 65536 ∧ (q : Int) % ((n : Int) + 4) = (i : Int) ∧ i < n + 4 :=
  ⟨(a % 65536).toNat, (a % 65536).toNat % (n + 4), by rw [and_ffff]; omega, by omega, cast_mod _ _, Nat.mod_lt _ (by omega)⟩
theorem own_below {w w' : World} {base : Nat} {e : TypeId} {size : Nat} {v : Value} {n : Nat} {xs : List Value} {B : Nat} (h : w.ownsRow base e size v n xs) (hb : Below B w w') (hB : ∀ g, v.ownBlock = some g → g < B) : w'.ownsRow base e size v n xs := by
  refine ⟨h.1, ?_⟩
  rcases h.2 with hn | ⟨g, cap, cur, rfl, hbs, hgg, rest⟩
  · exact .inl hn
  · refine .inr ⟨g, cap, cur, rfl, hbs, ?_, rest⟩
    rw [hb.block g (hB g rfl)]
    exact hgg
theorem own_fit {w : World} {base : Nat} {e : TypeId} {A : Option Addr} {n c : Nat} {zs : List Int} (h : w.ownsRow base e 1 (.slice A n c) n (zs.map (Value.int .u8))) (hn : n ≤ 9223372036854775807) (hb : ∀ z ∈ zs, 0 ≤ z ∧ z < 256) : Part.Fit w ⟨A, n, c, zs⟩ :=
  ⟨Reads.of_own h, hn, hb⟩
/-- What was put has a block of its own. -/
theorem put_block (A : Option Addr) (n c : Nat) (zs : List Int) (w : World) (hl : Laid w) (hp : Part.Fit w ⟨A, n, c, zs⟩) (hn : n ≤ 70368744177664) :
    Calls Tryd.prog 17 #[.slice A n c] w fun e w' => ∃ g cap, e = .returned (.slice (some ⟨g, 0, none⟩) (n + 4) cap) ∧ w.heap.size ≤ g ∧ g < w'.heap.size ∧ n + 4 ≤ cap ∧
      w'.ownsRow w.heap.size 5 1 (.slice (some ⟨g, 0, none⟩) (n + 4) cap) (n + 4) ((putL zs).map (Value.int .u8)) ∧ Below w.heap.size w w' :=
  (put_any A n c zs w hl hp hn).mono fun e w' ⟨v, he, hown, hb⟩ => by
    obtain ⟨g, cap, rfl, hg, hlt⟩ := hown.form (by omega)
    exact ⟨g, cap, he, hg, hlt, own_cap hown, hown, hb⟩
end Go.Proofs.YteiaiicdemmcoaaDoor
