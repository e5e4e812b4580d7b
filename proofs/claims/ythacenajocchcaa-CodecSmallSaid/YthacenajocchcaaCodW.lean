/- The contracts of codec's Writer: pieces, Num, Bytes; bytes.Clone. -/
import Derived.Test.YthacenajocchcaaCod
import Derived.Test.YthacenajocchcaaAnch03
import Derived.OpenShut
namespace Go.Proofs.Ythacenajocchcaa
open Go.RowKit

/-- A Writer at block g has bs, in a slice v of its own. -/
def Wr (w : World) (g : Nat) (v : Value) (bs : List Int) : Prop :=
  Blk w g 28 #[v] ∧ w.ownsRow 0 5 1 v bs.length (bs.map (Value.int .u8))
/-- What laying may turn: the Writer, and its slice; the slice is then the same one, or new. -/
def WrS (g : Nat) (v : Value) (k : Nat) : Prop := k = g ∨ v.ownBlock = some k
structure Wrote (w w' : World) (g : Nat) (v v' : Value) : Prop where
  only : Only (WrS g v) w w'
  own : ∀ k, v'.ownBlock = some k → v.ownBlock = some k ∨ w.heap.size ≤ k
section
variable {w w' w'' : World} {g : Nat} {v v' v'' : Value} {bs : List Int}
theorem Wrote.refl (w : World) (g : Nat) (v : Value) : Wrote w w g v v := ⟨Only.refl _ _, fun _ h => .inl h⟩
theorem Wrote.trans (h : Wrote w w' g v v') (k : Wrote w' w'' g v' v'') : Wrote w w'' g v v'' :=
  ⟨h.only.trans k.only fun i hi => by
    rcases hi with rfl | hi
    · exact .inl (.inl rfl)
    · rcases h.own i hi with h1 | h1
      · exact .inl (.inr h1)
      · exact .inr h1, fun i hi => by
    rcases k.own i hi with h1 | h1
    · exact h.own i h1
    · exact .inr (by have := h.only.size; omega)⟩
theorem Wr.lt (h : Wr w g v bs) : g < w.heap.size := h.1.lt
theorem Wr.ownLt (h : Wr w g v bs) {k : Nat} (hk : v.ownBlock = some k) : k < w.heap.size := (h.2.lt k hk).2
theorem Wr.ne_ (h : Wr w g v bs) : v.ownBlock ≠ some g := own_blk_ne h.2 h.1 (by decide)
theorem Wr.only {S : Nat → Prop} (h : Wr w g v bs) (k : Only S w w') (hg : ¬ S g) (hv : ∀ i, v.ownBlock = some i → ¬ S i) : Wr w' g v bs := ⟨h.1.only k hg, own_only h.2 k hv⟩
end

set_option maxHeartbeats 1600000 in
theorem laid_one {wr w2 : World} {g : Nat} {v' v2 : Value} {cs : List Int} {x : Int} {o : Obj} (hB2 : Blk w2 g 28 #[v']) (hown2 : w2.ownsRow 0 5 1 v2 (cs.length + 1) (cs.map (Value.int .u8) ++ [.int .u8 x]))
    (hgrow : (wr.alloc o).grownBy w2 v'.ownBlock) (hv2 : v2.ownBlock = v'.ownBlock ∨ v2.ownBlock = some (wr.alloc o).heap.size) :
    Wr (w2.setCell ⟨g, 0, none⟩ v2) g v2 (cs ++ [x]) ∧ Wrote wr (w2.setCell ⟨g, 0, none⟩ v2) g v' v2 := by
  have hne2 := own_blk_ne hown2 hB2 (by decide)
  refine ⟨⟨hB2.set_ 0 v2, ?_⟩, ⟨?_, fun k hk => ?_⟩⟩
  · have := own_only hown2 ((Only.refl (· = g) w2).setCell (p := ⟨g, 0, none⟩) (.inl rfl) v2) (fun i hi e => hne2 (by rw [hi, e]))
    simpa using this
  · exact (((Only.refl (WrS g v') wr).alloc o).grown hgrow (fun k hk => .inl (.inr hk))).setCell (p := ⟨g, 0, none⟩) (.inl (.inl rfl)) v2
  · rcases hv2 with h | h
    · exact .inl (by rw [← h]; exact hk)
    · rw [h] at hk
      cases hk
      right; simp

set_option maxRecDepth 100000 in
theorem pieces_any (g : Nat) (v : Value) (bs : List Int) (n : Nat) (w : World) (h : Wr w g v bs) (hn : n < 9223372036854775808) (hl : bs.length ≤ 1099511627776) :
    Calls Try.prog 32 #[.pointer (some ⟨g, 0, none⟩), .int .u64 (n : Int)] w fun e w' => e = .returned (.tuple #[]) ∧ ∃ v', Wr w' g v' (bs ++ pcs n) ∧ Wrote w w' g v v' := by
  obtain ⟨i0, hi, hz0, hz1, hz2⟩ := info_parts Try.infoByte
  have HL := hide (pcs_len 9 n (by omega) (by omega))
  clear hn
  go_enter Try.func32, Try.ntmps32
  go_wp2_with fail
  go_loopw [1] (fun x wr => ∃ (m : Nat) (l : List Int) (v' : Value), x = .int .u64 (m : Int) ∧ m ≤ n ∧ pcs n = l ++ pcs m ∧ Wr wr g v' (bs ++ l) ∧ Wrote w wr g v v') (fun x _ => (intOf x).toNat)
  case atStart => exact ⟨n, [], v, rfl, Nat.le_refl _, rfl, by simpa using h, Wrote.refl _ _ _⟩
  case round =>
    obtain ⟨m, l, v', rfl, hm, hp, hW, hO⟩ := hrel
    obtain ⟨hB, hown⟩ := hW
    have hne := own_blk_ne hown hB (by decide)
    have hc : wr.cell? ⟨g, 0, none⟩ = some v' := by rw [hB.cell]; rfl
    have hz := hB.frozen 0
    have HP := hide hp
    have hll : l.length ≤ 9 := by have := HL.out; rw [hp] at this; simp at this; omega
    clear hp
    by_cases hlt : m < 128
    · have hp1 : Hid (pcs n = l ++ [(m : Int)]) := hide (by rw [HP.out, pcs_lt hlt])
      clear HP
      go_wp2_with (at_builtin; refine wpList_append_any _ rfl (.tmp 25) (.tmp 28) 26 rfl 0 5 i0 (.int .u8 0) 1 1 Try.underlying26 hi hz0 hz1 hz2 rfl (by decide) _ _ _ rfl (hown.alloc _) (wr.heap.size + 1) (some ⟨wr.heap.size, 0, none⟩) 1 1 [.int .u8 (m : Int)] rfl (reads_one _ _ _) (by intro u hu; simp at hu; subst hu; rfl) (by unfold maxLen; simp; omega) (by simp; omega) (by simp) ?_; intro v2 w2 hown2 hgrow2 hv2; obtain ⟨A2, c2, rfl⟩ := own_slice hown2; have hB2 : Blk w2 g 28 #[v'] := (hB.alloc _).grown hgrow2 (fun e => hne e.symm); have hc2 : w2.cell? ⟨g, 0, none⟩ = some v' := by rw [hB2.cell]; rfl
                   have hz2' := hB2.frozen 0)
      go_end0
      obtain ⟨k1, k2⟩ := laid_one hB2 hown2 hgrow2 hv2
      rw [List.length_append] at k1 k2
      refine ⟨rfl, _, ?_, hO.trans k2⟩
      rw [hp1.out, ← List.append_assoc]
      exact k1
    · have hp1 : Hid (pcs n = (l ++ [(m : Int) % 128 + 128]) ++ pcs (m / 128)) := hide (by rw [HP.out, pcs_ge (by omega)]; simp)
      clear HP
      go_wp2_with (at_builtin; refine wpList_append_any _ rfl (.tmp 10) (.tmp 15) 26 rfl 0 5 i0 (.int .u8 0) 1 1 Try.underlying26 hi hz0 hz1 hz2 rfl (by decide) _ _ _ rfl (hown.alloc _) (wr.heap.size + 1) (some ⟨wr.heap.size, 0, none⟩) 1 1 [.int .u8 ((m : Int) % 128 + 128)] rfl (reads_one _ _ _) (by intro u hu; simp at hu; subst hu; rfl) (by unfold maxLen; simp; omega) (by simp; omega) (by simp) ?_; intro v2 w2 hown2 hgrow2 hv2; obtain ⟨A2, c2, rfl⟩ := own_slice hown2; have hB2 : Blk w2 g 28 #[v'] := (hB.alloc _).grown hgrow2 (fun e => hne e.symm); have hc2 : w2.cell? ⟨g, 0, none⟩ = some v' := by rw [hB2.cell]; rfl
                   have hz2' := hB2.frozen 0)
      go_roundw
      case rel =>
        obtain ⟨k1, k2⟩ := laid_one hB2 hown2 hgrow2 hv2
        rw [List.length_append] at k1 k2
        exact ⟨m / 128, l ++ [(m : Int) % 128 + 128], _, by go_num, by omega, hp1.out, by rw [← List.append_assoc]; exact k1, hO.trans k2⟩
      case measure => simp [intOf]; omega

/-- Numbers laid: the slice that tells them lies apart from the Writer. -/
def Apart (A : Option Addr) (g : Nat) (v : Value) : Prop := ∀ ad, A = some ad → ¬ WrS g v ad.block
set_option maxRecDepth 100000 in
theorem wnum_any (g : Nat) (v : Value) (bs : List Int) (A : Option Addr) (n c : Nat) (zs : List Int) (w : World) (h : Wr w g v bs) (hr : Reads w w.heap.size 1 A n (zs.map (Value.int .i64))) (hap : Apart A g v)
    (hz : ∀ z ∈ zs, 0 ≤ z ∧ z < 9223372036854775808) (hl : bs.length + 9 * n ≤ 1099511627776) :
    Calls Try.prog 11 #[.pointer (some ⟨g, 0, none⟩), .slice A n c] w fun e w' => e = .returned (.pointer (some ⟨g, 0, none⟩)) ∧ ∃ v', Wr w' g v' (bs ++ encL zs) ∧ Wrote w w' g v v' := by
  have hlen : zs.length = n := by have := hr.1; simpa using this
  have HL := hide hlen
  have HZ := hide hz
  have HR := hide hr
  clear hz hlen hr
  go_enter Try.func11, Try.ntmps11
  go_wp2_with fail
  go_loopw [9] (fun i wr => ∃ (k : Nat) (v' : Value), k ≤ n ∧ i = .int .i64 k ∧ Wr wr g v' (bs ++ encL (zs.take k)) ∧ Wrote w wr g v v') (fun i _ => n - (intOf i).toNat)
  case atStart => exact ⟨0, v, by omega, rfl, by simpa [encL] using h, Wrote.refl _ _ _⟩
  case round =>
    obtain ⟨k, v', hk, rfl, hW, hO⟩ := hrel
    by_cases hlt : k < n
    · have hkz : k < zs.length := by rw [HL.out]; exact hlt
      have hr1 : Reads wr w.heap.size 1 A n (zs.map (Value.int .i64)) := HR.out.only hO.only (Nat.le_refl _) hap
      obtain ⟨b, off, rfl, _, hc0⟩ := hr1.ints (by omega)
      have hc := hc0 k hlt
      have hbd := HZ.out zs[k] (List.getElem_mem _)
      have hlen1 : (encL (zs.take k)).length ≤ 9 * k := by
        have := encL_len (l := zs.take k) (fun m hm => (HZ.out m (List.mem_of_mem_take hm)).2)
        simp at this; omega
      have HT : Hid (encL (zs.take (k + 1)) = encL (zs.take k) ++ enc zs[k]) := hide (by rw [List.take_succ_eq_append_getElem hkz, encL_append, encL_one])
      rw [show zs.getD k 0 = zs[k] by simp [List.getD, hkz]] at hc
      have hp := pieces_any g v' (bs ++ encL (zs.take k)) zs[k].toNat wr hW (by omega) (by simp; omega)
      rw [Int.toNat_of_nonneg hbd.1] at hp
      clear hc0 hr1 hap hlen1
      have HE : Hid (pcs zs[k].toNat = enc zs[k]) := hide rfl
      generalize zs[k] = x at hc hbd HT hp HE
      obtain ⟨x0, x1⟩ := hbd
      have x2 : x ≤ 9223372036854775807 := by omega
      clear x1
      go_wp2_with fail
      (with_reducible refine hp.mono ?_)
      rintro e w2 ⟨rfl, v2, hW2, hO2⟩
      go_wp2_with fail
      go_roundw
      case rel => exact ⟨k + 1, v2, by omega, by go_num, by rw [HT.out, ← HE.out, ← List.append_assoc]; exact hW2, hO.trans hO2⟩
      case measure => simp [intOf]; omega
    · have he : zs.take k = zs := List.take_of_length_le (by rw [HL.out]; omega)
      rw [he] at hW
      clear he
      go_wp2_with fail
      go_ret
      exact ⟨rfl, v', hW, hO⟩
end Go.Proofs.Ythacenajocchcaa
