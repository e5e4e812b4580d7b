/- The contract of sum.Of: where the table of half bytes is laid, it answers the sum of all parts' bytes. -/
import Derived.Test.YteiaiicdemmcoaaDoorBase
import Derived.Test.YteiaiicdemmcoaaDoorCrc
import Derived.Deep.LoopGhost
namespace Go.Proofs.YteiaiicdemmcoaaDoor
open Go.RowKit

/-- The table of half bytes lies as the program's text has it. -/
def Laid (w : World) : Prop := ∀ k : Nat, k < 16 → w.cell? ⟨0, k, none⟩ = some (.int .u32 ((crcTab k : Nat) : Int))
theorem cell_lt {w : World} {p : Addr} {u : Value} (h : w.cell? p = some u) : p.block < w.heap.size := by
  rcases Nat.lt_or_ge p.block w.heap.size with hlt | hge
  · exact hlt
  · unfold World.cell? at h; rw [Array.getElem?_eq_none hge] at h; cases h
theorem Laid.lt {w : World} (h : Laid w) : 0 < w.heap.size := cell_lt (h 0 (by omega))
theorem Laid.below {w w' : World} {B : Nat} (h : Laid w) (hb : Below B w w') (hB : 0 < B) : Laid w' := fun k hk => (hb.cell hB).trans (h k hk)
theorem Laid.alloc {w : World} (h : Laid w) (o : Obj) : Laid (w.alloc o) := fun k hk => (World.cell?_alloc_lt w o _ h.lt).trans (h k hk)

theorem and15 (x : BitVec 32) : bits .and .u32 (x.toNat : Int) 15 = ((x.toNat % 16 : Nat) : Int) := by
  have := x.isLt
  rw [show (15 : Int) = ((15 : Nat) : Int) from rfl, u32_and_nat _ _ (by omega) (by omega), show (15 : Nat) = 2 ^ 4 - 1 from rfl, Nat.and_two_pow_sub_one_eq_mod]
theorem crc_not (x : BitVec 32) : bits .xor .u32 IntKind.u32.max (x.toNat : Int) = ((~~~x).toNat : Int) := by
  rw [show IntKind.u32.max = ((4294967295 : Nat) : Int) from by decide, u32_xor_nat _ _ (by omega) (by have := x.isLt; omega), ← BitVec.allOnes_xor, BitVec.toNat_xor]
  rfl
/-- One byte laid upon the register, in the walk's own spelling. -/
theorem step_facts {w : World} (hl : Laid w) (y : BitVec 32) (z : Int) (h0 : 0 ≤ z) (h1 : z < 256) : ∃ (x1 x2 x3 : BitVec 32) (m1 m2 t1 t2 : Nat),
    bits .xor .u32 (y.toNat : Int) z = (x1.toNat : Int) ∧ bits .and .u32 (x1.toNat : Int) 15 = (m1 : Int) ∧ m1 < 16 ∧ w.cell? ⟨0, m1, none⟩ = some (.int .u32 (t1 : Int)) ∧
    bits .xor .u32 ((x1.toNat : Int) / 16) (t1 : Int) = (x2.toNat : Int) ∧ bits .and .u32 (x2.toNat : Int) 15 = (m2 : Int) ∧ m2 < 16 ∧ w.cell? ⟨0, m2, none⟩ = some (.int .u32 (t2 : Int)) ∧
    bits .xor .u32 ((x2.toNat : Int) / 16) (t2 : Int) = (x3.toNat : Int) ∧ Hid (x3 = crcStep y z) :=
  ⟨y ^^^ crcB z, crcN 4 (y ^^^ crcB z), crcN 4 (crcN 4 (y ^^^ crcB z)), _, _, _, _, crc_lay y z h0 h1, and15 _, by omega, hl _ (by omega), crc_half _, and15 _, by omega, hl _ (by omega), crc_half _, (crcStep_four y z).symm⟩

/-- A part: its slice, and its bytes. -/
structure Part where
  a : Option Addr
  n : Nat
  c : Nat
  zs : List Int
def Part.v (p : Part) : Value := .slice p.a p.n p.c
def Part.Fit (w : World) (p : Part) : Prop := Reads w w.heap.size 1 p.a p.n (p.zs.map (Value.int .u8)) ∧ p.n ≤ 9223372036854775807 ∧ ∀ z ∈ p.zs, 0 ≤ z ∧ z < 256
def partsL (ps : List Part) : List Int := (ps.map Part.zs).flatten

set_option maxHeartbeats 1000000 in
theorem of_any (A : Option Addr) (n c : Nat) (ps : List Part) (w : World) (hl : Laid w) (hr : Reads w w.heap.size 1 A n (ps.map Part.v)) (hn : n ≤ 9223372036854775807) (hp : ∀ p ∈ ps, p.Fit w) :
    Calls Tryd.prog 15 #[.slice A n c] w fun e w' => e = .returned (.int .u32 (crcOf (partsL ps))) ∧ w = w' := by
  have hz : ps.length = n := by have := hr.1; simpa using this
  have HZ := hide hz
  clear hz
  go_enter Tryd.func15, Tryd.ntmps15
  go_wp2
  go_loop [3, 10] (fun r i => ∃ (k : Nat) (x : BitVec 32), k ≤ n ∧ i = .int .i64 k ∧ r = .int .u32 (x.toNat : Int) ∧ Hid (crcSt crcAll (partsL ps) = crcSt x (partsL (ps.drop k)))) (fun _ i => n - (intOf i).toNat)
  case atStart => exact ⟨0, crcAll, Nat.zero_le _, rfl, rfl, hide rfl⟩
  case round =>
    obtain ⟨k, x, hk, rfl, rfl, HS⟩ := hrel
    by_cases hlt : k < n
    · obtain ⟨b, off, rfl, hbb, hc0⟩ := hr.plain (by omega)
      have hkl : k < ps.length := by rw [unhide HZ]; exact hlt
      have hc : w.cell? ⟨b, off + k, none⟩ = some (ps[k].v) := hc0 k _ (by rw [List.getElem?_map, List.getElem?_eq_getElem hkl]; rfl)
      have hf := hp ps[k] (List.getElem_mem _)
      have HD : Hid (crcSt x (partsL (ps.drop k)) = crcSt (crcSt x ps[k].zs) (partsL (ps.drop (k + 1)))) := by
        rw [List.drop_eq_getElem_cons hkl]
        show crcSt x (ps[k].zs ++ partsL (ps.drop (k + 1))) = _
        rw [crcSt_append]
      generalize ps[k] = q at hc hf HD
      obtain ⟨qa, qn, qc, qz⟩ := q
      obtain ⟨hfr, hfn, hfb⟩ := hf
      simp only [Part.v] at hc hfr hfn hfb HD
      clear hc0 hr hp
      have hx := x.isLt
      go_wp2
      have HX : Hid (crcSt crcAll (partsL ps) = crcSt (crcSt x qz) (partsL (ps.drop (k + 1)))) := HS.out.trans HD.out
      clear HS HD
      have HQ : Hid (qz.length = qn) := hide (by have := hfr.1; simpa using this)
      go_loop [3, 16] (fun r i => ∃ (j : Nat) (y : BitVec 32), j ≤ qn ∧ i = .int .i64 j ∧ r = .int .u32 (y.toNat : Int) ∧ Hid (crcSt x qz = crcSt y (qz.drop j))) (fun _ i => qn - (intOf i).toNat)
      case atStart => exact ⟨0, x, Nat.zero_le _, rfl, rfl, hide rfl⟩
      case round =>
        obtain ⟨j, y, hj, rfl, rfl, HY⟩ := hrel
        by_cases hjlt : j < qn
        · obtain ⟨b1, off1, rfl, _, hd0⟩ := hfr.ints (by omega)
          have hd := hd0 j hjlt
          have hjl : j < qz.length := by rw [HQ.out]; exact hjlt
          have hbd : 0 ≤ qz.getD j 0 ∧ qz.getD j 0 < 256 := by
            have := hfb (qz[j]) (List.getElem_mem _)
            simpa [List.getD, hjl] using this
          have HZ1 : Hid (crcSt y (qz.drop j) = crcSt (crcStep y (qz.getD j 0)) (qz.drop (j + 1))) := by
            rw [List.drop_eq_getElem_cons hjl, crcSt_cons]; simp [List.getD, hjl, Hid]
          generalize qz.getD j 0 = z at hd hbd HZ1
          obtain ⟨hb0, hb1⟩ := hbd
          have HW : Hid (crcSt x qz = crcSt (crcStep y z) (qz.drop (j + 1))) := HY.out.trans HZ1.out
          clear HY HZ1 hd0 hfr hfb
          obtain ⟨x1, x2, x3, m1, m2, t1, t2, e1, e2, e3, e4, e5, e6, e7, e8, e9, e10⟩ := step_facts hl y z hb0 hb1
          have hy := y.isLt
          have hy1 := x1.isLt
          have hy2 := x2.isLt
          have hy3 := x3.isLt
          go_wp2
          go_round
          case rel => exact ⟨j + 1, x3, by omega, by go_num, rfl, hide (by rw [HW.out, e10.out])⟩
          case measure => simp [intOf]; omega
        · have HF : Hid (crcSt crcAll (partsL ps) = crcSt y (partsL (ps.drop (k + 1)))) := by
            have e : qz.drop j = [] := List.drop_of_length_le (by rw [HQ.out]; omega)
            have := HX.out
            rw [HY.out, e, crcSt_nil] at this
            exact this
          clear HY HX hfr hfb
          go_wp2
          go_round
          case rel => exact ⟨k + 1, y, by omega, by go_num, rfl, HF⟩
          case measure => simp [intOf]; omega
    · have HF : Hid (crcSt crcAll (partsL ps) = x) := by
        rw [HS.out, List.drop_of_length_le (by rw [HZ.out]; omega)]; rfl
      clear HS hr hp
      have hx := x.isLt
      go_wp2
      go_ret
      exact ⟨ret_int (by rw [crc_not, crcOf, HF.out]), rfl⟩
end Go.Proofs.YteiaiicdemmcoaaDoor
