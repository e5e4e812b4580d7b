/- Rows, cells and arrays by value, folded: laws for the walk. -/
import Derived.Test.YtmcanjijpdgfeaaFlat
import Derived.Deep.RegionLaw
namespace Go.Proofs.Ytmcanjijpdgfeaa
open Go.RowKit

def zeros (n : Nat) : List Int := List.replicate n 0
theorem zeros_length (n : Nat) : (zeros n).length = n := by simp [zeros]
theorem Try.allocCell (w : World) : (Instr.alloc 24 true (.tuple #[])).run Try.prog w = .ok (.pointer (some ⟨w.heap.size, 0, none⟩)) (w.alloc (.cells (iA (zeros 7)) 24)) := by kernel_rfl
theorem Try.buildCell (n m : Int) (w : World) : (Instr.build 24 #[(0, .int .i64 n), (1, .int .i64 m)]).run Try.prog w = .ok (.agg (iA ([n, m] ++ zeros 5))) w := run_build w _ _ _ (by kernel_rfl)
theorem Try.infoCell : (Try.prog.info? 24).map (·.size) = some 7 := by kernel_rfl
theorem Try.allocCells (w : World) : (Instr.alloc 25 true (.tuple #[])).run Try.prog w = .ok (.pointer (some ⟨w.heap.size, 0, none⟩)) (w.alloc (.cells (iA (zeros 28)) 25)) := by kernel_rfl
theorem Try.infoCells : (Try.prog.info? 25).map (·.size) = some 28 := by kernel_rfl
theorem Try.allocRow (w : World) : (Instr.alloc 28 true (.tuple #[])).run Try.prog w = .ok (.pointer (some ⟨w.heap.size, 0, none⟩)) (w.alloc (.cells (iA (zeros 174)) 28)) := by kernel_rfl
theorem Try.infoRow : (Try.prog.info? 28).map (·.size) = some 174 := by kernel_rfl
theorem Try.indexInts (l : List Int) (k : Nat) (hk : k < 5) (hl : l.length = 5) (w : World) : (Instr.index 22 (.agg (iA l)) (.int .i64 (k : Int))).run Try.prog w = .ok (.int .i64 (l.getD k 0)) w := by
  obtain ⟨a, b, c, d, e, rfl⟩ : ∃ a b c d e, l = [a, b, c, d, e] := by
    match l, hl with
    | [a, b, c, d, e], _ => exact ⟨_, _, _, _, _, rfl⟩
  rcases (by omega : k = 0 ∨ k = 1 ∨ k = 2 ∨ k = 3 ∨ k = 4) with rfl | rfl | rfl | rfl | rfl
  all_goals kernel_rfl
section
variable {P : Program} {ops : Array Oper} {rest : List Oper} {op : Oper} {a : Act} {w : World} {Q : Exit → Act → World → Prop}
theorem wpList_index_i (hgd : op.guard = none) (t : TypeId) (x y : Operand) (ho : op.op = .index t x y) (vx vy : Value) (hx : a.eval x = vx) (hy : a.eval y = vy) (v : Value) (hrun : (Instr.index t vx vy).run P w = .ok v w)
    (h : wpList P ops Q rest (a.put op.dst v) w) : wpList P ops Q (op :: rest) a w :=
  wpList_plain hgd fun _ hK => by
    unfold Oper.wp execOp
    simp only [ho, hx, hy, Sem.run_bind, Sem.run_pure, Result.andThen_ok, hrun]
    exact hK _ _ h
theorem run_part_agg {e : TypeId} {d : TypeDesc} (hu : P.underlying e = some d) (hd : d.isRow = true) {i : TypeInfo} (hi : P.info? e = some i) (cs : Array Value) (off : Nat) : (part e cs off).run P w = .ok (.agg (cs.extract off (off + i.size))) w := by
  cases d <;> simp [part, isAgg, run_underlying hu, sizeOf, typeInfo, hi] at hd ⊢
theorem run_index_agg {t e : TypeId} {n : Nat} {d : TypeDesc} (ht : P.underlying t = some (.array n e)) (hu : P.underlying e = some d) (hd : d.isRow = true) {s : Nat} (hi : (P.info? e).map (·.size) = some s) (zs : List Int) (k : Nat) (hk : k < n) :
    (Instr.index t (.agg (iA zs)) (.int .i64 (k : Int))).run P w = .ok (.agg (iA ((zs.drop (k * s)).take s))) w := by
  cases hq : P.info? e with
  | none => simp [hq] at hi
  | some i =>
    have hs : i.size = s := by simpa [hq] using hi
    have hp := run_part_agg (w := w) hu hd hq (iA zs) (k * s)
    rw [hs] at hp
    have he : (iA zs).extract (k * s) (k * s + s) = iA ((zs.drop (k * s)).take s) := by
      apply Array.ext'
      rw [Array.toList_extract, iA_toList, iA_toList, ← iV_chunk]
      simp [List.extract]
    simp [Instr.index, asIntOf, run_underlying ht, sizeOf, typeInfo, hq, hs, hk, hp, he]
end
theorem step_load_i {P : Program} {ops : Array Oper} {op : Oper} {a : Act} {w : World} {K : Act → World → Prop} {Q : Exit → Act → World → Prop} {E : Prop} (hgd : op.guard = none) (ty : TypeId) (x : Operand) (ho : op.op = .load ty x) {g : Nat} {t : TypeId} {zs : List Int} (hI : IBlk w g t zs) (o n : Nat) (hx : a.eval x = .pointer (some ⟨g, o, none⟩)) (hn : o + n ≤ zs.length)
    {d : TypeDesc} (hu : P.underlying ty = some d) (hd : d.isRow = true) (hi : (P.info? ty).map (·.size) = some n)
    (h : K (a.put op.dst (.agg (iA ((zs.drop o).take n)))) w) :
    if Region.wanted op (yielded ops a.tmps) = true then Oper.wp P op a w K Q else E := by
  have hw : Region.wanted op (yielded ops a.tmps) = true := by simp [Region.wanted, hgd]
  rw [if_pos hw]
  exact wp_load_mid ty x ho g o hx _ d (hI.part o n) hu hd (by rw [iV_length, List.length_take, List.length_drop, hi]; congr 1; omega) h
theorem range_chunk {zs : List Int} (o n : Nat) (h : o + n ≤ zs.length) : (List.range n).map (fun i => zs.getD (o + i) 0) = (zs.drop o).take n := by
  apply List.ext_getElem
  · simp; omega
  · intro i h1 h2
    simp at h1 h2
    simp [List.getD, show o + i < zs.length by omega]
/-- The load of a row, folded: the walk does not open it cell by cell. -/
def loadCells28 (x : Value) : Sem Value := Instr.loadAt 25 x
theorem loadCells28_fold (x : Value) : Instr.loadAt 25 x = loadCells28 x := rfl
theorem loadCells28_has {w : World} {b o : Nat} (h : HasRow w b o 28) : (loadCells28 (.pointer (some ⟨b, o, none⟩))).run Try.prog w = .ok (.agg (rowAt w b o 28)) w := run_loadAt_has Try.underlying25 rfl Try.infoCells h
def loadInts5 (x : Value) : Sem Value := Instr.loadAt 22 x
theorem loadInts5_fold (x : Value) : Instr.loadAt 22 x = loadInts5 x := rfl
theorem Try.infoInts5 : (Try.prog.info? 22).map (·.size) = some 5 := by kernel_rfl
theorem loadInts5_has {w : World} {b o : Nat} (h : HasRow w b o 5) : (loadInts5 (.pointer (some ⟨b, o, none⟩))).run Try.prog w = .ok (.agg (rowAt w b o 5)) w := run_loadAt_has Try.underlying22 rfl Try.infoInts5 h
theorem getD_set {ys : List Int} {i : Nat} {x : Int} (hi : i < ys.length) (j : Nat) : (ys.set i x).getD j 0 = if i = j then x else ys.getD j 0 := by
  simp only [List.getD, List.getElem?_set]
  split
  · subst_vars; simp
  · rfl
/-- A store of a row of zeros, folded: the walk does not open it cell by cell. -/
def Room (w : World) (b o n : Nat) : Prop := w.there b o n
def storeRow28 (x v : Value) : Sem Unit := Instr.storeAt 25 x v
theorem storeRow28_fold (x v : Value) : Instr.storeAt 25 x v = storeRow28 x v := rfl
theorem storeRow28_zero {w : World} {b o : Nat} (h : Room w b o 28) : (storeRow28 (.pointer (some ⟨b, o, none⟩)) (.agg #[.int .i64 0, .int .i64 0, .int .i64 0, .int .i64 0, .int .i64 0, .int .i64 0, .int .i64 0, .int .i64 0, .int .i64 0, .int .i64 0, .int .i64 0, .int .i64 0, .int .i64 0, .int .i64 0, .int .i64 0, .int .i64 0, .int .i64 0, .int .i64 0, .int .i64 0, .int .i64 0, .int .i64 0, .int .i64 0, .int .i64 0, .int .i64 0, .int .i64 0, .int .i64 0, .int .i64 0, .int .i64 0])).run Try.prog w = .ok () (w.setCells b o (iV (zeros 28))) :=
  run_storeAt_mid w b o 25 (iA (zeros 28)) (by rw [iA_size, zeros_length]; exact h) (by rw [iA_size, zeros_length]; exact Try.infoCells) (all_oneCell_toArray (iV_one _))

/-! ### Folded: the walk meets these names, and takes their laws (declared local where it is wanted). -/
def Is (n : Nat) (ys : List Int) : Prop := ys.length = n
theorem is_zeros (n : Nat) : Is n (zeros n) := zeros_length n
theorem run_storeAt_is {P : Program} {ty : TypeId} {n : Nat} (hi : (P.info? ty).map (·.size) = some n) {w : World} {b o : Nat} {ys : List Int} (h : Room w b o n) (hl : Is n ys) :
    (Instr.storeAt ty (.pointer (some ⟨b, o, none⟩)) (.agg (iA ys))).run P w = .ok () (w.setCells b o (iV ys)) := by
  have hl' : ys.length = n := hl
  have := run_storeAt_mid (P := P) w b o ty (iA ys) (by rw [iA_size, hl']; exact h) (by rw [iA_size, hl']; exact hi) (all_oneCell_toArray (iV_one _))
  rwa [iA_toList] at this
theorem IBlk.room {w : World} {g : Nat} {t : TypeId} {zs : List Int} (h : IBlk w g t zs) (o n : Nat) (hn : o + n ≤ zs.length) : Room w g o n := h.there hn
theorem Room.cells {w : World} {b o n : Nat} (h : Room w b o n) (b' o' : Nat) (vs : List Value) : Room (w.setCells b' o' vs) b o n := World.there_setCells h b' o' vs
theorem Try.infoLefts : (Try.prog.info? 26).map (·.size) = some 140 := by kernel_rfl
theorem Try.infoInts : (Try.prog.info? 22).map (·.size) = some 5 := by kernel_rfl
def loadRowF (x : Value) : Sem Value := Instr.loadAt 28 x
theorem loadRowF_fold (x : Value) : Instr.loadAt 28 x = loadRowF x := rfl
theorem loadRowF_has {w : World} {b o : Nat} (h : HasRow w b o 174) : (loadRowF (.pointer (some ⟨b, o, none⟩))).run Try.prog w = .ok (.agg (rowAt w b o 174)) w := run_loadAt_has Try.underlying28 rfl Try.infoRow h
def storeRowF (x v : Value) : Sem Unit := Instr.storeAt 28 x v
theorem storeRowF_fold (x v : Value) : Instr.storeAt 28 x v = storeRowF x v := rfl
theorem storeRowF_has {w : World} {b o : Nat} {ys : List Int} (h : Room w b o 174) (hl : Is 174 ys) : (storeRowF (.pointer (some ⟨b, o, none⟩)) (.agg (iA ys))).run Try.prog w = .ok () (w.setCells b o (iV ys)) := run_storeAt_is Try.infoRow h hl
def loadCellsF (x : Value) : Sem Value := Instr.loadAt 25 x
theorem loadCellsF_fold (x : Value) : Instr.loadAt 25 x = loadCellsF x := rfl
theorem loadCellsF_has {w : World} {b o : Nat} (h : HasRow w b o 28) : (loadCellsF (.pointer (some ⟨b, o, none⟩))).run Try.prog w = .ok (.agg (rowAt w b o 28)) w := run_loadAt_has Try.underlying25 rfl Try.infoCells h
def storeCellsF (x v : Value) : Sem Unit := Instr.storeAt 25 x v
theorem storeCellsF_fold (x v : Value) : Instr.storeAt 25 x v = storeCellsF x v := rfl
theorem storeCellsF_has {w : World} {b o : Nat} {ys : List Int} (h : Room w b o 28) (hl : Is 28 ys) : (storeCellsF (.pointer (some ⟨b, o, none⟩)) (.agg (iA ys))).run Try.prog w = .ok () (w.setCells b o (iV ys)) := run_storeAt_is Try.infoCells h hl
def loadCellF (x : Value) : Sem Value := Instr.loadAt 24 x
theorem loadCellF_fold (x : Value) : Instr.loadAt 24 x = loadCellF x := rfl
theorem loadCellF_has {w : World} {b o : Nat} (h : HasRow w b o 7) : (loadCellF (.pointer (some ⟨b, o, none⟩))).run Try.prog w = .ok (.agg (rowAt w b o 7)) w := run_loadAt_has Try.underlying24 rfl Try.infoCell h
def storeCellF (x v : Value) : Sem Unit := Instr.storeAt 24 x v
theorem storeCellF_fold (x v : Value) : Instr.storeAt 24 x v = storeCellF x v := rfl
theorem storeCellF_has {w : World} {b o : Nat} {ys : List Int} (h : Room w b o 7) (hl : Is 7 ys) : (storeCellF (.pointer (some ⟨b, o, none⟩)) (.agg (iA ys))).run Try.prog w = .ok () (w.setCells b o (iV ys)) := run_storeAt_is Try.infoCell h hl
def loadInts5F (x : Value) : Sem Value := Instr.loadAt 22 x
theorem loadInts5F_fold (x : Value) : Instr.loadAt 22 x = loadInts5F x := rfl
theorem loadInts5F_has {w : World} {b o : Nat} (h : HasRow w b o 5) : (loadInts5F (.pointer (some ⟨b, o, none⟩))).run Try.prog w = .ok (.agg (rowAt w b o 5)) w := run_loadAt_has Try.underlying22 rfl Try.infoInts h
def storeInts5F (x v : Value) : Sem Unit := Instr.storeAt 22 x v
theorem storeInts5F_fold (x v : Value) : Instr.storeAt 22 x v = storeInts5F x v := rfl
theorem storeInts5F_has {w : World} {b o : Nat} {ys : List Int} (h : Room w b o 5) (hl : Is 5 ys) : (storeInts5F (.pointer (some ⟨b, o, none⟩)) (.agg (iA ys))).run Try.prog w = .ok () (w.setCells b o (iV ys)) := run_storeAt_is Try.infoInts h hl
def loadLeftsF (x : Value) : Sem Value := Instr.loadAt 26 x
theorem loadLeftsF_fold (x : Value) : Instr.loadAt 26 x = loadLeftsF x := rfl
theorem loadLeftsF_has {w : World} {b o : Nat} (h : HasRow w b o 140) : (loadLeftsF (.pointer (some ⟨b, o, none⟩))).run Try.prog w = .ok (.agg (rowAt w b o 140)) w := run_loadAt_has Try.underlying26 rfl Try.infoLefts h
def storeLeftsF (x v : Value) : Sem Unit := Instr.storeAt 26 x v
theorem storeLeftsF_fold (x v : Value) : Instr.storeAt 26 x v = storeLeftsF x v := rfl
theorem storeLeftsF_has {w : World} {b o : Nat} {ys : List Int} (h : Room w b o 140) (hl : Is 140 ys) : (storeLeftsF (.pointer (some ⟨b, o, none⟩)) (.agg (iA ys))).run Try.prog w = .ok () (w.setCells b o (iV ys)) := run_storeAt_is Try.infoLefts h hl
def buildRowF (x : Array (Nat × Value)) : Sem Value := Instr.build 28 x
theorem buildRowF_fold (x : Array (Nat × Value)) : Instr.build 28 x = buildRowF x := rfl
theorem buildRowF_none (w : World) : (buildRowF #[]).run Try.prog w = .ok (.agg (iA (zeros 174))) w := run_build w _ _ _ (by kernel_rfl)
def allocRowF (b : Bool) (x : Value) : Sem Value := Instr.alloc 28 b x
theorem allocRowF_fold (b : Bool) (x : Value) : Instr.alloc 28 b x = allocRowF b x := rfl
theorem allocRowF_run (w : World) : (allocRowF true (.tuple #[])).run Try.prog w = .ok (.pointer (some ⟨w.heap.size, 0, none⟩)) (w.alloc (.cells (iA (zeros 174)) 28)) := Try.allocRow w
def buildCellsF (x : Array (Nat × Value)) : Sem Value := Instr.build 25 x
theorem buildCellsF_fold (x : Array (Nat × Value)) : Instr.build 25 x = buildCellsF x := rfl
theorem buildCellsF_none (w : World) : (buildCellsF #[]).run Try.prog w = .ok (.agg (iA (zeros 28))) w := run_build w _ _ _ (by kernel_rfl)
def allocCellsF (b : Bool) (x : Value) : Sem Value := Instr.alloc 25 b x
theorem allocCellsF_fold (b : Bool) (x : Value) : Instr.alloc 25 b x = allocCellsF b x := rfl
theorem allocCellsF_run (w : World) : (allocCellsF true (.tuple #[])).run Try.prog w = .ok (.pointer (some ⟨w.heap.size, 0, none⟩)) (w.alloc (.cells (iA (zeros 28)) 25)) := Try.allocCells w
def buildCellF (x : Array (Nat × Value)) : Sem Value := Instr.build 24 x
theorem buildCellF_fold (x : Array (Nat × Value)) : Instr.build 24 x = buildCellF x := rfl
theorem buildCellF_none (w : World) : (buildCellF #[]).run Try.prog w = .ok (.agg (iA (zeros 7))) w := run_build w _ _ _ (by kernel_rfl)
def allocCellF (b : Bool) (x : Value) : Sem Value := Instr.alloc 24 b x
theorem allocCellF_fold (b : Bool) (x : Value) : Instr.alloc 24 b x = allocCellF b x := rfl
theorem allocCellF_run (w : World) : (allocCellF true (.tuple #[])).run Try.prog w = .ok (.pointer (some ⟨w.heap.size, 0, none⟩)) (w.alloc (.cells (iA (zeros 7)) 24)) := Try.allocCell w
def indexCellsF (x y : Value) : Sem Value := Instr.index 25 x y
theorem indexCellsF_fold (x y : Value) : Instr.index 25 x y = indexCellsF x y := rfl
theorem indexCellsF_at {zs : List Int} {k : Nat} (hk : k < 4) (w : World) : (indexCellsF (.agg (iA zs)) (.int .i64 (k : Int))).run Try.prog w = .ok (.agg (iA ((zs.drop (k * 7)).take 7))) w :=
  run_index_agg Try.underlying25 Try.underlying24 rfl Try.infoCell zs k hk
def indexLeftsF (x y : Value) : Sem Value := Instr.index 26 x y
theorem indexLeftsF_fold (x y : Value) : Instr.index 26 x y = indexLeftsF x y := rfl
theorem indexLeftsF_at {zs : List Int} {k : Nat} (hk : k < 5) (w : World) : (indexLeftsF (.agg (iA zs)) (.int .i64 (k : Int))).run Try.prog w = .ok (.agg (iA ((zs.drop (k * 28)).take 28))) w :=
  run_index_agg Try.underlying26 Try.underlying25 rfl Try.infoCells zs k hk
def indexInts5F (x y : Value) : Sem Value := Instr.index 22 x y
theorem indexInts5F_fold (x y : Value) : Instr.index 22 x y = indexInts5F x y := rfl
theorem indexInts5F_at {l : List Int} {k : Nat} (hk : k < 5) (hl : Is 5 l) (w : World) : (indexInts5F (.agg (iA l)) (.int .i64 (k : Int))).run Try.prog w = .ok (.int .i64 (l.getD k 0)) w := Try.indexInts l k hk hl w
/-- A block's part, as the walk wants it. -/
theorem IBlk.got {w : World} {g : Nat} {t : TypeId} {zs : List Int} (h : IBlk w g t zs) (o n : Nat) (hn : o + n ≤ zs.length) : rowAt w g o n = iA ((zs.drop o).take n) ∧ HasRow w g o n := ⟨h.row o n hn, h.has o n hn⟩
theorem IBlk.whole {w : World} {g : Nat} {t : TypeId} {zs : List Int} {n : Nat} (h : IBlk w g t zs) (hn : zs.length = n) : rowAt w g 0 n = iA zs ∧ HasRow w g 0 n := by
  refine ⟨?_, h.has 0 n (by omega)⟩
  rw [h.row 0 n (by omega), List.drop_zero, List.take_of_length_le (Nat.le_of_eq hn)]
/-- A block that is stored whole. -/
theorem IBlk.fill {w : World} {g : Nat} {t : TypeId} {zs ys : List Int} (h : IBlk w g t zs) (hn : ys.length = zs.length) : IBlk (w.setCells g 0 (iV ys)) g t ys := by
  have := h.setN (o := 0) (xs := ys) (by omega)
  rwa [show zs.take 0 ++ ys ++ zs.drop (0 + ys.length) = ys by simp [List.drop_of_length_le, hn]] at this
end Go.Proofs.Ytmcanjijpdgfeaa
