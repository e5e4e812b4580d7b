/- The contracts of bytes.Clone and the Writer's Bytes; the law package's anchor. -/
import Derived.Test.YthacenajocchcaaCodW
import Derived.Lib.SliceRun
namespace Go.Proofs.Ythacenajocchcaa
open Go.RowKit

set_option maxRecDepth 100000 in
theorem clone_any (A : Option Addr) (n c : Nat) (xs : List Int) (w : World) (h : Reads w w.heap.size 1 A n (xs.map (Value.int .u8))) (hn : n ≤ 70368744177664) :
    Calls Try.prog 34 #[.slice A n c] w fun e w' => ∃ v', e = .returned v' ∧ w'.ownsRow w.heap.size 5 1 v' n (xs.map (Value.int .u8)) ∧ Below w.heap.size w w' := by
  obtain ⟨i0, hi, hz0, hz1, hz2⟩ := info_parts Try.infoByte
  cases A with
  | none =>
    have h0 : n = 0 := by
      rcases Nat.eq_zero_or_pos n with h0 | h0
      · exact h0
      · obtain ⟨ad, h, _⟩ := h.2 h0; cases h
    subst h0
    obtain rfl : xs = [] := by have := h.1; simpa using this
    have hnil := fun w => Lib.run_eql_slice_nil (P := Try.prog) w 26 5 none 0 c 0 0 Try.underlying26
    go_enter Try.func34, Try.ntmps34
    go_wp2_with fail
    go_ret
    exact ⟨_, rfl, own_nil _ _ _ _, Below.refl _ _⟩
  | some ad =>
    have hnil := fun w => Lib.run_eql_slice_nil (P := Try.prog) w 26 5 (some ad) n c 0 0 Try.underlying26
    go_enter Try.func34, Try.ntmps34
    go_wp2_with (at_builtin; refine wpList_append_any _ rfl (.tmp 5) (.tmp 6) 26 rfl w.heap.size 5 i0 (.int .u8 0) 1 1 Try.underlying26 hi hz0 hz1 hz2 rfl (by decide) _ 0 [] rfl (World.ownsRow_made w #[] 0 (Nat.le_refl _) (by unfold maxLen; omega) rfl) w.heap.size (some ad) n c (xs.map (Value.int .u8)) rfl (h.alloc (Nat.le_refl _) _) (oneCell_ints _) (by unfold maxLen; omega) (by omega) (by simp) ?_; intro v2 w2 hown2 hgrow2 hv2; simp only [Nat.zero_add, List.nil_append] at hown2)
    go_ret
    exact ⟨_, rfl, hown2, ((Below.refl _ _).alloc (Nat.le_refl _) _).grown hgrow2 (by simp) (fun k hk => by cases hk; exact Nat.le_refl _)⟩

set_option maxRecDepth 100000 in
theorem bytes_any (g : Nat) (v : Value) (bs : List Int) (w : World) (h : Wr w g v bs) (hn : bs.length ≤ 70368744177664) :
    Calls Try.prog 13 #[.pointer (some ⟨g, 0, none⟩)] w fun e w' => ∃ v', e = .returned v' ∧ w'.ownsRow w.heap.size 5 1 v' bs.length (bs.map (Value.int .u8)) ∧ Below w.heap.size w w' := by
  have hc : w.cell? ⟨g, 0, none⟩ = some v := by rw [h.1.cell]; rfl
  obtain ⟨A, c, rfl⟩ := own_slice h.2
  have hr := Reads.of_own h.2
  have HC := clone_any A bs.length c bs w hr hn
  generalize bs.length = n at *
  go_enter Try.func13, Try.ntmps13
  go_wp2_with fail
  refine HC.mono ?_
  rintro e w2 ⟨v2, rfl, hown, hb⟩
  go_wp2_with fail
  go_ret
  exact ⟨v2, rfl, hown, hb⟩

theorem Wrote.first {w w1 w' : World} {g : Nat} {v v' : Value} (k : Only (fun _ => False) w w1) (h : Wrote w1 w' g v v') : Wrote w w' g v v' :=
  ⟨(k.mono fun _ _ h => h.elim).trans_ h.only, fun i hi => (h.own i hi).elim .inl fun h1 => .inr (by have := k.size; omega)⟩
theorem Wr.alloc {w : World} {g : Nat} {v : Value} {bs : List Int} (h : Wr w g v bs) (o : Obj) : Wr (w.alloc o) g v bs := h.only ((Only.refl (fun _ => False) _).alloc _) (by simp) (by simp)
theorem Wr.drew {w : World} {g : Nat} {v : Value} {bs : List Int} (h : Wr w g v bs) : Wr w.drew g v bs := h.only ((Only.refl (fun _ => False) _).drew) (by simp) (by simp)
theorem Wr.fresh {w : World} {g : Nat} {v : Value} {bs : List Int} (h : Wr w g v bs) {b : Nat} (hb : w.heap.size ≤ b) (A : Option Addr) (hA : ∀ ad, A = some ad → ad.block = b) : Apart A g v := by
  intro ad e hs
  have := hA ad e
  rcases hs with h1 | h1
  · have := h.lt; omega
  · have := h.ownLt h1; omega
theorem Wrote.below {a w w' : World} {B g : Nat} {v v' : Value} (k : Wrote w w' g v v') (h : Below B a w) (hg : B ≤ g) (hv : ∀ i, v.ownBlock = some i → B ≤ i) (hB : B ≤ w.heap.size) : Below B a w' :=
  below_only h k.only (fun i hi => by
    rcases hi with rfl | hi
    · exact hg
    · exact hv i hi) hB
theorem Wrote.base {w w' : World} {B g : Nat} {v v' : Value} (k : Wrote w w' g v v') (hv : ∀ i, v.ownBlock = some i → B ≤ i) (hB : B ≤ w.heap.size) : ∀ i, v'.ownBlock = some i → B ≤ i := fun i hi => by
  rcases k.own i hi with h | h
  · exact hv i h
  · omega
/-- Numbers in a new row. -/
theorem wnum_new (g b : Nat) (v : Value) (bs : List Int) (zs : List Int) (cs : Array Value) (w : World) (hb : b = w.heap.size) (h : Wr w g v bs) (hcs : cs.toList = zs.map (Value.int .i64)) (hz : ∀ z ∈ zs, 0 ≤ z ∧ z < 9223372036854775808) (hl : bs.length + 9 * zs.length ≤ 1099511627776) (n c : Nat) (hn : n = zs.length) :
    Calls Try.prog 11 #[.pointer (some ⟨g, 0, none⟩), .slice (some ⟨b, 0, none⟩) n c] (w.alloc (.cells cs 3)) fun e w' => e = .returned (.pointer (some ⟨g, 0, none⟩)) ∧ ∃ v', Wr w' g v' (bs ++ encL zs) ∧ Wrote w w' g v v' := by
  subst hb hn
  refine (wnum_any g v bs _ zs.length c zs (w.alloc (.cells cs 3)) (h.alloc _) ⟨by simp, fun _ => ⟨_, rfl, by simp, fun j u hu => ?_⟩⟩ (h.fresh (Nat.le_refl _) _ fun ad e => by cases e; rfl) hz hl).mono ?_
  · rw [Go.WideShapes.add_plain, Nat.zero_add, (Blk.new w 3 cs).cell, ← Array.getElem?_toList, hcs]; exact hu
  · rintro e w' ⟨rfl, v', hW, hO⟩
    exact ⟨rfl, v', hW, hO.first ((Only.refl _ _).alloc _)⟩
theorem wnum_one (g b : Nat) (v : Value) (bs : List Int) (x : Int) (w : World) (hb : b = w.heap.size) (h : Wr w g v bs) (h0 : 0 ≤ x) (h1 : x ≤ 9223372036854775807) (hl : bs.length + 9 ≤ 1099511627776) :
    Calls Try.prog 11 #[.pointer (some ⟨g, 0, none⟩), .slice (some ⟨b, 0, none⟩) 1 1] (w.alloc (.cells #[.int .i64 x] 3)) fun e w' => e = .returned (.pointer (some ⟨g, 0, none⟩)) ∧ ∃ v', Wr w' g v' (bs ++ enc x) ∧ Wrote w w' g v v' := by
  have := wnum_new g b v bs [x] #[.int .i64 x] w hb h rfl (by intro z hz; simp at hz; omega) (by simpa using hl) 1 1 rfl
  rwa [encL_one] at this
/-- A Writer that is made by nobody. -/
theorem Wr.new (w : World) : Wr (w.alloc (.cells #[.slice none 0 0] 28)) w.heap.size (.slice none 0 0) [] := ⟨Blk.new _ _ _, own_nil _ _ _ _⟩

set_option maxRecDepth 100000 in
theorem fit_any (w : World) : Calls Try.prog 10 #[] w fun e w' => e = .returned (.bool true) ∧ Below w.heap.size w w' := by
  go_enter Try.func10, Try.ntmps10
  go_wp2_with fail
  refine (wnum_one w.heap.size _ (.slice none 0 0) [] 300 _ (by simp) (Wr.new w) (by decide) (by decide) (by decide)).mono ?_
  rintro e w2 ⟨rfl, v2, hW, hO⟩
  rw [show [] ++ enc 300 = [172, 2] by decide +kernel] at hW
  go_wp2_with fail
  refine (bytes_any _ _ _ _ hW (by decide)).mono ?_
  rintro e w3 ⟨v3, rfl, hown, hb3⟩
  obtain ⟨A, c, rfl⟩ := own_slice hown
  have hr : Reads w3 w3.heap.size 1 A 2 ([172, 2].map (Value.int .u8)) := Reads.of_own hown
  obtain ⟨b, off, rfl, _, hc⟩ := hr.ints (by omega)
  have h0 := hc 0 (by omega)
  have h1 := hc 1 (by omega)
  simp at h0 h1
  clear hc hr hown
  go_wp2_with fail
  go_ret
  have hB := hO.below ((Below.refl w.heap.size w).alloc (Nat.le_refl _) (.cells #[.slice none 0 0] 28)) (Nat.le_refl _) (by simp [Value.ownBlock]) (by simp)
  exact ⟨rfl, hB.trans (hb3.mono hB.size)⟩
end Go.Proofs.Ythacenajocchcaa
