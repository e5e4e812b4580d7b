/- Values of integers by value: what the folded loads and stores share. -/
import Derived.Test.YtoknodkgmeinmaaFlat
import Derived.Deep.RegionLaw
namespace Go.Proofs.Ytoknodkgmeinmaa
open Go.RowKit

def zeros (n : Nat) : List Int := List.replicate n 0
theorem zeros_length (n : Nat) : (zeros n).length = n := by simp [zeros]
section
variable {P : Program} {ops : Array Oper} {rest : List Oper} {op : Oper} {a : Act} {w : World} {Q : Exit → Act → World → Prop}
theorem wpList_index_i (hgd : op.guard = none) (t : TypeId) (x y : Operand) (ho : op.op = .index t x y) (vx vy : Value) (hx : a.eval x = vx) (hy : a.eval y = vy) (v : Value) (hrun : (Instr.index t vx vy).run P w = .ok v w)
    (h : wpList P ops Q rest (a.put op.dst v) w) : wpList P ops Q (op :: rest) a w :=
  wpList_plain hgd fun _ hK => by
    unfold Oper.wp execOp
    simp only [ho, hx, hy, Sem.run_bind, Sem.run_pure, Result.andThen_ok, hrun]
    exact hK _ _ h
theorem run_part_agg {e : TypeId} {d : TypeDesc} (hu : P.underlying e = some d) (hd : d.isRow = true) {i : TypeInfo} (hi : P.info? e = some i) (cs : Array Value) (off : Nat) : (part e cs off).run P w = .ok (.agg (cs.extract off (off + i.size))) w := by
  cases d <;> simp [part, isAgg, run_underlying hu, sizeOf, typeInfo, hi] at hd ⊢
theorem run_index_agg {t e : TypeId} {n : Nat} {d : TypeDesc} (ht : P.underlying t = some (.array n e)) (hu : P.underlying e = some d) (hd : d.isRow = true) {s : Nat} (hi : (P.info? e).map (·.size) = some s) (zs : List Int) (k : Nat) (hk : k < n) :
    (Instr.index t (.agg (iA zs)) (.int .i64 (k : Int))).run P w = .ok (.agg (iA ((zs.drop (k * s)).take s))) w := by
  cases hq : P.info? e with
  | none => simp [hq] at hi
  | some i =>
    have hs : i.size = s := by simpa [hq] using hi
    have hp := run_part_agg (w := w) hu hd hq (iA zs) (k * s)
    rw [hs] at hp
    have he : (iA zs).extract (k * s) (k * s + s) = iA ((zs.drop (k * s)).take s) := by
      apply Array.ext'
      rw [Array.toList_extract, iA_toList, iA_toList, ← iV_chunk]
      simp [List.extract]
    simp [Instr.index, asIntOf, run_underlying ht, sizeOf, typeInfo, hq, hs, hk, hp, he]
end
theorem step_load_i {P : Program} {ops : Array Oper} {op : Oper} {a : Act} {w : World} {K : Act → World → Prop} {Q : Exit → Act → World → Prop} {E : Prop} (hgd : op.guard = none) (ty : TypeId) (x : Operand) (ho : op.op = .load ty x) {g : Nat} {t : TypeId} {zs : List Int} (hI : IBlk w g t zs) (o n : Nat) (hx : a.eval x = .pointer (some ⟨g, o, none⟩)) (hn : o + n ≤ zs.length)
    {d : TypeDesc} (hu : P.underlying ty = some d) (hd : d.isRow = true) (hi : (P.info? ty).map (·.size) = some n)
    (h : K (a.put op.dst (.agg (iA ((zs.drop o).take n)))) w) :
    if Region.wanted op (yielded ops a.tmps) = true then Oper.wp P op a w K Q else E := by
  have hw : Region.wanted op (yielded ops a.tmps) = true := by simp [Region.wanted, hgd]
  rw [if_pos hw]
  exact wp_load_mid ty x ho g o hx _ d (hI.part o n) hu hd (by rw [iV_length, List.length_take, List.length_drop, hi]; congr 1; omega) h
theorem range_chunk {zs : List Int} (o n : Nat) (h : o + n ≤ zs.length) : (List.range n).map (fun i => zs.getD (o + i) 0) = (zs.drop o).take n := by
  apply List.ext_getElem
  · simp; omega
  · intro i h1 h2
    simp at h1 h2
    simp [List.getD, show o + i < zs.length by omega]
theorem getD_set {ys : List Int} {i : Nat} {x : Int} (hi : i < ys.length) (j : Nat) : (ys.set i x).getD j 0 = if i = j then x else ys.getD j 0 := by
  simp only [List.getD, List.getElem?_set]
  split
  · subst_vars; simp
  · rfl
def Is (n : Nat) (ys : List Int) : Prop := ys.length = n
theorem is_zeros (n : Nat) : Is n (zeros n) := zeros_length n
theorem run_storeAt_is {P : Program} {ty : TypeId} {n : Nat} (hi : (P.info? ty).map (·.size) = some n) {w : World} {b o : Nat} {ys : List Int} (h : Room w b o n) (hl : Is n ys) :
    (Instr.storeAt ty (.pointer (some ⟨b, o, none⟩)) (.agg (iA ys))).run P w = .ok () (w.setCells b o (iV ys)) := by
  have hl' : ys.length = n := hl
  have := run_storeAt_mid (P := P) w b o ty (iA ys) (by rw [iA_size, hl']; exact h) (by rw [iA_size, hl']; exact hi) (all_oneCell_toArray (iV_one _))
  rwa [iA_toList] at this
theorem IBlk.room {w : World} {g : Nat} {t : TypeId} {zs : List Int} (h : IBlk w g t zs) (o n : Nat) (hn : o + n ≤ zs.length) : Room w g o n := h.there hn
/-- A block's part, as the walk wants it. -/
theorem IBlk.got {w : World} {g : Nat} {t : TypeId} {zs : List Int} (h : IBlk w g t zs) (o n : Nat) (hn : o + n ≤ zs.length) : rowAt w g o n = iA ((zs.drop o).take n) ∧ HasRow w g o n := ⟨h.row o n hn, h.has o n hn⟩
theorem IBlk.whole {w : World} {g : Nat} {t : TypeId} {zs : List Int} {n : Nat} (h : IBlk w g t zs) (hn : zs.length = n) : rowAt w g 0 n = iA zs ∧ HasRow w g 0 n := by
  refine ⟨?_, h.has 0 n (by omega)⟩
  rw [h.row 0 n (by omega), List.drop_zero, List.take_of_length_le (Nat.le_of_eq hn)]
/-- A block that is stored whole. -/
theorem IBlk.fill {w : World} {g : Nat} {t : TypeId} {zs ys : List Int} (h : IBlk w g t zs) (hn : ys.length = zs.length) : IBlk (w.setCells g 0 (iV ys)) g t ys := by
  have := h.setN (o := 0) (xs := ys) (by omega)
  rwa [show zs.take 0 ++ ys ++ zs.drop (0 + ys.length) = ys by simp [List.drop_of_length_le, hn]] at this
end Go.Proofs.Ytoknodkgmeinmaa
