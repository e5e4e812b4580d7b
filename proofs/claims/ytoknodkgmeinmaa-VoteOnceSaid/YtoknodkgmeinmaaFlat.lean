/- Values that are made of integers alone, whatever their shape: held against one another; in memory. -/
import Derived.Test.YtoknodkgmeinmaaOnly
import Derived.DeepKeys
import Derived.OpenShut
import Derived.ProofKit
namespace Go.Proofs.Ytoknodkgmeinmaa
open Go.RowKit

def iV (zs : List Int) : List Value := zs.map (Value.int .i64)
def iA (zs : List Int) : Array Value := (iV zs).toArray
theorem iV_length (zs : List Int) : (iV zs).length = zs.length := by simp [iV]
theorem iA_size (zs : List Int) : (iA zs).size = zs.length := by simp [iA, iV]
theorem iA_toList (zs : List Int) : (iA zs).toList = iV zs := by simp [iA]
theorem iV_one (zs : List Int) : ∀ v ∈ iV zs, v.oneCell' = true := oneCell_ints zs
def wf64 (zs : List Int) : Prop := ∀ z ∈ zs, (Lit.int .i64 z).wf = true
def iL (zs : List Int) : List Lit := zs.map (Lit.int .i64)
theorem iL_inj {xs ys : List Int} (h : iL xs = iL ys) : xs = ys := by
  unfold iL at h
  exact (List.map_inj_right (fun x y h => by injection h)).1 h

section
variable {P : Program}
/-- A type of so many integers: its values' cells are read as keys. -/
def Ints (P : Program) (d : Nat) (t : TypeId) : Prop := ∀ zs : List Int, zs.length = P.cellsOf t → wf64 zs → P.keyLits d t (iV zs) = some (iL zs)
theorem ints_int {t : TypeId} (d : Nat) (h : P.underlying t = some (.int .i64)) (hc : P.cellsOf t = 1) : Ints P (d + 1) t := by
  intro zs hl hw
  rw [hc] at hl
  match zs, hl with
  | [z], _ =>
    have := hw z (by simp)
    simp [Program.keyLits, iV, iL, h, this]
theorem iV_chunk (zs : List Int) (o n : Nat) : ((iV zs).drop o).take n = iV ((zs.drop o).take n) := by simp [iV]
theorem wf64_chunk {zs : List Int} (h : wf64 zs) (o n : Nat) : wf64 ((zs.drop o).take n) := fun z hz => h z (List.mem_of_mem_drop (List.mem_of_mem_take hz))
theorem mapM_some {α β : Type} (f : α → Option β) (g : α → β) : ∀ l : List α, (∀ a ∈ l, f a = some (g a)) → l.mapM f = some (l.map g)
  | [], _ => rfl
  | a :: l, h => by
    rw [List.mapM_cons, h a (by simp), mapM_some f g l fun b hb => h b (by simp [hb])]
    rfl
theorem flatten_chunks (zs : List Lit) (c : Nat) : ∀ n, n * c ≤ zs.length → ((List.range n).map fun i => (zs.drop (i * c)).take c).flatten = zs.take (n * c)
  | 0, _ => by simp
  | n + 1, h => by
    rw [List.range_succ, List.map_append, List.flatten_append, flatten_chunks zs c n (by rw [Nat.succ_mul] at h; omega)]
    simp only [List.map_cons, List.map_nil, List.flatten_cons, List.flatten_nil, List.append_nil]
    rw [Nat.succ_mul, List.take_add]
theorem iL_chunk (zs : List Int) (o n : Nat) : (iL zs |>.drop o).take n = iL ((zs.drop o).take n) := by simp [iL]
theorem ints_array {t e : TypeId} {n d : Nat} (h : P.underlying t = some (.array n e)) (hc : P.cellsOf t = n * P.cellsOf e) (he : Ints P d e) : Ints P (d + 1) t := by
  intro zs hl hw
  unfold Program.keyLits
  rw [h]
  simp only
  rw [if_pos (by rw [iV_length, hl])]
  rw [mapM_some _ (fun i => ((iL zs).drop (i * P.cellsOf e)).take (P.cellsOf e)) _ (fun i hi => by
    have hi : i < n := by simpa using hi
    rw [iV_chunk, he _ _ (wf64_chunk hw _ _), iL_chunk]
    rw [List.length_take, List.length_drop, hl, hc]
    have : (i + 1) * P.cellsOf e ≤ n * P.cellsOf e := Nat.mul_le_mul_right _ hi
    rw [Nat.succ_mul] at this
    omega)]
  have hlz : (iL zs).length = zs.length := by simp [iL]
  show some _ = _
  rw [flatten_chunks _ _ _ (by rw [hlz, hl, hc]; exact Nat.le_refl _)]
  rw [List.take_of_length_le (by rw [hlz, hl, hc]; exact Nat.le_refl _)]
/-- Fields one behind the other. -/
def contig (P : Program) : Nat → List Field → Option Nat
  | o, [] => some o
  | o, f :: fs => if f.offset = o then contig P (o + P.cellsOf f.type) fs else none
theorem contig_le {fs : List Field} : ∀ {o n : Nat}, contig P o fs = some n → o ≤ n := by
  induction fs with
  | nil => intro o n h; simp [contig] at h; omega
  | cons f fs ih =>
    intro o n h
    rw [contig] at h
    split at h
    · have := ih h; omega
    · cases h
theorem flatten_fields (zs : List Lit) : ∀ (fs : List Field) (o n : Nat), contig P o fs = some n → n ≤ zs.length → (fs.map fun f => (zs.drop f.offset).take (P.cellsOf f.type)).flatten = (zs.drop o).take (n - o)
  | [], o, n, h, _ => by simp [contig] at h; subst h; simp
  | f :: fs, o, n, h, hn => by
    rw [contig] at h
    split at h
    · rename_i ho
      have hle := contig_le h
      rw [List.map_cons, List.flatten_cons, flatten_fields zs fs _ n h hn, ho, show n - o = P.cellsOf f.type + (n - (o + P.cellsOf f.type)) by omega, List.take_add, List.drop_drop]
    · cases h
theorem contig_mem {fs : List Field} : ∀ {o n : Nat}, contig P o fs = some n → ∀ f ∈ fs, f.offset + P.cellsOf f.type ≤ n := by
  induction fs with
  | nil => intro o n _ f hf; cases hf
  | cons g fs ih =>
    intro o n h f hf
    rw [contig] at h
    split at h
    · rename_i ho
      rcases List.mem_cons.1 hf with rfl | hf
      · rw [ho]; exact contig_le h
      · exact ih h f hf
    · cases h
theorem ints_struct {t : TypeId} {fs : Array Field} {d : Nat} (h : P.underlying t = some (.struct fs)) (hn : fs.all (·.name != "_") = true) (hc : contig P 0 fs.toList = some (P.cellsOf t)) (he : ∀ f ∈ fs.toList, Ints P d f.type) : Ints P (d + 1) t := by
  intro zs hl hw
  unfold Program.keyLits
  rw [h]
  simp only
  rw [if_pos ⟨by rw [iV_length, hl], hn⟩]
  rw [mapM_some _ (fun f => ((iL zs).drop f.offset).take (P.cellsOf f.type)) _ (fun f hf => by
    have hm := contig_mem hc f hf
    rw [iV_chunk, he f hf _ _ (wf64_chunk hw _ _), iL_chunk]
    rw [List.length_take, List.length_drop, hl]
    omega)]
  have hlz : (iL zs).length = zs.length := by simp [iL]
  show some _ = _
  rw [flatten_fields _ _ _ _ hc (by rw [hlz, hl]; exact Nat.le_refl _)]
  rw [List.drop_zero, List.take_of_length_le (by rw [hlz, hl]; exact Nat.le_refl _)]
/-- Two such values are held against one another by their integers. -/
theorem eq_ints {t : TypeId} {m d : Nat} (hk : P.keyTypeAt m t = true) (hm : m ≤ 10000) (hi : Ints P d t) (hf : ∀ zs : List Int, zs.length = P.cellsOf t → (Value.agg (iA zs)).formed P t = true) {xs ys : List Int} (hx : xs.length = P.cellsOf t) (hy : ys.length = P.cellsOf t) (wx : wf64 xs) (wy : wf64 ys) (w : World) :
    (Op.equalIn 10000 t (.agg (iA xs)) (.agg (iA ys))).run P w = .ok (decide (xs = ys)) w := by
  obtain ⟨r, hr, he⟩ := run_equalIn_deep (P := P) (10000 - m) m t hk w d d _ _ _ _ (hf xs hx) (hf ys hy) (by simp only [Value.cells, iA_toList]; exact hi xs hx wx) (by simp only [Value.cells, iA_toList]; exact hi ys hy wy)
  rw [show 10000 - m + m = 10000 by omega] at hr
  rw [hr]
  congr 1
  rw [Bool.eq_iff_iff, he]
  simp only [decide_eq_true_eq]
  exact ⟨iL_inj, fun h => by rw [h]⟩
end

theorem only_cells (w : World) (b o : Nat) (vs : List Value) : Only (· = b) w (w.setCells b o vs) := Only.setCells (S := (· = b)) b (.inl rfl) vs o (Only.refl _ _)
theorem only_cell (w : World) (b o : Nat) (v : Value) : Only (· = b) w (w.setCell ⟨b, o, none⟩ v) := (Only.refl (· = b) w).setCell (p := ⟨b, o, none⟩) (.inl rfl) v
/-- A block of integers. -/
def IBlk (w : World) (g : Nat) (t : TypeId) (zs : List Int) : Prop := Blk w g t (iA zs)
section
variable {P : Program} {w w' : World} {g : Nat} {t : TypeId} {zs : List Int}
theorem IBlk.blk (h : IBlk w g t zs) : Blk w g t (iA zs) := h
theorem IBlk.lt (h : IBlk w g t zs) : g < w.heap.size := Blk.lt h
theorem IBlk.new (w : World) (t : TypeId) (zs : List Int) : IBlk (w.alloc (.cells (iA zs) t)) w.heap.size t zs := Blk.new _ _ _
theorem IBlk.only {S : Nat → Prop} (h : IBlk w g t zs) (k : Only S w w') (hn : ¬ S g) : IBlk w' g t zs := Blk.only h k hn
theorem IBlk.below {B : Nat} (h : IBlk w g t zs) (k : Below B w w') (hn : g < B) : IBlk w' g t zs := Blk.below h k hn
theorem IBlk.alloc (h : IBlk w g t zs) (o : Obj) : IBlk (w.alloc o) g t zs := Blk.alloc h o
theorem IBlk.drew (h : IBlk w g t zs) : IBlk w.drew g t zs := h
theorem IBlk.cell (h : IBlk w g t zs) {i : Nat} (hi : i < zs.length) : w.cell? ⟨g, i, none⟩ = some (.int .i64 (zs.getD i 0)) := by
  rw [Blk.cell h]; simp [iA, iV, List.getD, hi]
theorem IBlk.cellAt (h : IBlk w g t zs) (i : Nat) (x : Int) (hx : zs[i]? = some x) : w.cell? ⟨g, i, none⟩ = some (.int .i64 x) := by
  rw [Blk.cell h]; simp [iA, iV, hx]
theorem IBlk.frozen (h : IBlk w g t zs) (i : Nat) : w.frozen? ⟨g, i, none⟩ = false := Blk.frozen h i
theorem IBlk.set (h : IBlk w g t zs) (i : Nat) (x : Int) : IBlk (w.setCell ⟨g, i, none⟩ (.int .i64 x)) g t (zs.set i x) := by
  have := Blk.set1 h i (.int .i64 x)
  unfold IBlk iA iV
  rw [List.map_set]
  exact this
theorem IBlk.part (h : IBlk w g t zs) (o n : Nat) : w.rangeAt g o (iV ((zs.drop o).take n)) := Blk.range h o _ fun j v hv => by
  rw [← iV_chunk] at hv
  rw [List.getElem?_take] at hv
  split at hv
  · rwa [List.getElem?_drop] at hv
  · cases hv
/-- Some of its cells, by value. -/
theorem IBlk.load (h : IBlk w g t zs) {o n : Nat} {ty : TypeId} {d : TypeDesc} (hn : o + n ≤ zs.length) (hu : P.underlying ty = some d) (hd : d.isRow = true) (hi : (P.info? ty).map (·.size) = some n) :
    (Instr.loadAt ty (.pointer (some ⟨g, o, none⟩))).run P w = .ok (.agg (iA ((zs.drop o).take n))) w :=
  run_loadAt_mid w g o ty _ d (h.part o n) hu hd (by rw [iV_length, List.length_take, List.length_drop]; rw [hi]; congr 1; omega)
theorem IBlk.there (h : IBlk w g t zs) {o n : Nat} (hn : o + n ≤ zs.length) : w.there g o n := Blk.there h o n (by rw [iV_length]; exact hn)
theorem IBlk.store (h : IBlk w g t zs) {o : Nat} {ty : TypeId} {xs : List Int} (hn : o + xs.length ≤ zs.length) (hi : (P.info? ty).map (·.size) = some xs.length) :
    (Instr.storeAt ty (.pointer (some ⟨g, o, none⟩)) (.agg (iA xs))).run P w = .ok () (w.setCells g o (iV xs)) := by
  have := run_storeAt_mid (P := P) w g o ty (iA xs) (by rw [iA_size]; exact h.there hn) (by rw [iA_size]; exact hi) (all_oneCell_toArray (iV_one xs))
  rwa [iA_toList] at this
theorem IBlk.setN (h : IBlk w g t zs) {o : Nat} {xs : List Int} (hn : o + xs.length ≤ zs.length) : IBlk (w.setCells g o (iV xs)) g t (zs.take o ++ xs ++ zs.drop (o + xs.length)) := by
  have := Blk.setN (iV xs) o h (by rw [iV_length, iV_length]; exact hn)
  unfold IBlk iA
  rw [iV_length] at this
  have e : (iV zs).take o ++ iV xs ++ (iV zs).drop (o + xs.length) = iV (zs.take o ++ xs ++ zs.drop (o + xs.length)) := by simp [iV]
  rw [← e]
  exact this
theorem IBlk.reads (h : IBlk w g t zs) (o n : Nat) (hn : o + n ≤ zs.length) : Reads w w.heap.size 1 (some ⟨g, o, none⟩) n (((zs.drop o).take n).map (Value.int .i64)) := by
  refine ⟨by simp; omega, fun _ => ⟨_, rfl, h.lt, fun j u hu => ?_⟩⟩
  rw [Go.WideShapes.add_plain]
  exact h.part o n j u hu
end

/-! ### Operations on such values, as the walk meets them -/
section
variable {P : Program} {ops : Array Oper} {rest : List Oper} {op : Oper} {a : Act} {w : World} {Q : Exit → Act → World → Prop}
theorem wpList_load_i (hgd : op.guard = none) (ty : TypeId) (x : Operand) (ho : op.op = .load ty x) {g : Nat} {t : TypeId} {zs : List Int} (hI : IBlk w g t zs) (o n : Nat) (hx : a.eval x = .pointer (some ⟨g, o, none⟩)) (hn : o + n ≤ zs.length)
    {d : TypeDesc} (hu : P.underlying ty = some d) (hd : d.isRow = true) (hi : (P.info? ty).map (·.size) = some n)
    (h : wpList P ops Q rest (a.put op.dst (.agg (iA ((zs.drop o).take n)))) w) : wpList P ops Q (op :: rest) a w :=
  wpList_load_mid hgd ty x ho g o hx _ d (hI.part o n) hu hd (by rw [iV_length, List.length_take, List.length_drop, hi]; congr 1; omega) h
theorem wpList_store_i (hgd : op.guard = none) (ty : TypeId) (x y : Operand) (ho : op.op = .store ty x y) {g : Nat} {t : TypeId} {zs : List Int} (hI : IBlk w g t zs) (o : Nat) (xs : List Int) (hx : a.eval x = .pointer (some ⟨g, o, none⟩)) (hy : a.eval y = .agg (iA xs)) (hn : o + xs.length ≤ zs.length)
    (hi : (P.info? ty).map (·.size) = some xs.length)
    (h : wpList P ops Q rest (a.put op.dst undef) (w.setCells g o (iV xs))) : wpList P ops Q (op :: rest) a w :=
  wpList_store_mid hgd ty x y ho g o (iA xs) hx hy (by rw [iA_size]; exact hI.there hn) (by rw [iA_size]; exact hi) (all_oneCell_toArray (iV_one xs)) (by rw [iA_toList]; exact h)
theorem wpList_alloc_i (hgd : op.guard = none) (t : TypeId) (ho : op.op = .alloc t) (cs : Array Value) (hrun : ∀ w, (Instr.alloc t true (.tuple #[])).run P w = .ok (.pointer (some ⟨w.heap.size, 0, none⟩)) (w.alloc (.cells cs t)))
    (h : wpList P ops Q rest (a.put op.dst (.pointer (some ⟨w.heap.size, 0, none⟩))) (w.alloc (.cells cs t))) : wpList P ops Q (op :: rest) a w :=
  wpList_plain hgd fun _ hK => by
    unfold Oper.wp execOp
    simp only [ho, Sem.run_bind, Sem.run_pure, Result.andThen_ok, hrun]
    exact hK _ _ h
theorem wpList_build_i (hgd : op.guard = none) (t : TypeId) (i j : Nat) (x y : Operand) (ho : op.op = .build t #[(i, x), (j, y)]) (vx vy : Value) (hx : a.eval x = vx) (hy : a.eval y = vy) (v : Value) (hrun : (Instr.build t #[(i, vx), (j, vy)]).run P w = .ok v w)
    (h : wpList P ops Q rest (a.put op.dst v) w) : wpList P ops Q (op :: rest) a w :=
  wpList_plain hgd fun _ hK => by
    unfold Oper.wp execOp
    simp only [ho, List.map_toArray, List.map_cons, List.map_nil, hx, hy, Sem.run_bind, Sem.run_pure, Result.andThen_ok, hrun]
    exact hK _ _ h
end
/-- A result that lies in a variable. -/
theorem results_i {P : Program} {fn : Func} {s : Tmp} {ty : TypeId} (h : fn.results = #[.cell s ty]) {tmps : Array Value} {w : World} {b : Nat} {t : TypeId} {zs : List Int} (hs : tmps.getD s undef = .pointer (some ⟨b, 0, none⟩)) (hI : IBlk w b t zs)
    {d : TypeDesc} (hu : P.underlying ty = some d) (hd : d.isRow = true) (hi : (P.info? ty).map (·.size) = some zs.length) : (results fn tmps).run P w = .ok (.agg (iA zs)) w := by
  have hl := run_loadVar_mid (P := P) w b 0 ty (iV zs) d (by have := hI.part 0 zs.length; rwa [List.drop_zero, List.take_of_length_le (Nat.le_refl _)] at this) hu hd (by rw [iV_length]; exact hi)
  have hs' : tmps[s]?.getD undef = .pointer (some ⟨b, 0, none⟩) := by simpa using hs
  simp [results, h, hs', asAddr, hl, iA]
/-- Results of which the first lies in a variable. -/
theorem results_i2 {P : Program} {fn : Func} {s1 s2 : Tmp} {ty : TypeId} (h : fn.results = #[.cell s1 ty, .tmp s2]) {tmps : Array Value} {w : World} {b : Nat} {t : TypeId} {zs : List Int} (hs : tmps.getD s1 undef = .pointer (some ⟨b, 0, none⟩)) (hI : IBlk w b t zs)
    {d : TypeDesc} (hu : P.underlying ty = some d) (hd : d.isRow = true) (hi : (P.info? ty).map (·.size) = some zs.length) (v : Value) (hv : tmps.getD s2 undef = v) : (results fn tmps).run P w = .ok (.tuple #[.agg (iA zs), v]) w := by
  have hl := run_loadVar_mid (P := P) w b 0 ty (iV zs) d (by have := hI.part 0 zs.length; rwa [List.drop_zero, List.take_of_length_le (Nat.le_refl _)] at this) hu hd (by rw [iV_length]; exact hi)
  have hs' : tmps[s1]?.getD undef = .pointer (some ⟨b, 0, none⟩) := by simpa using hs
  have hv' : tmps[s2]?.getD undef = v := by simpa using hv
  simp [results, h, hs', hv', asAddr, hl, iA]
/-! ### A row by value, as a rule for the walk's own simp: what lies there, by a function of the world -/
def HasRow (w : World) (b o n : Nat) : Prop := ∀ j, j < n → (w.cell? ⟨b, o + j, none⟩).isSome = true
def rowAt (w : World) (b o n : Nat) : Array Value := ((List.range n).map fun j => (w.cell? ⟨b, o + j, none⟩).getD undef).toArray
theorem run_loadAt_has {P : Program} {ty : TypeId} {n : Nat} {d : TypeDesc} (hu : P.underlying ty = some d) (hd : d.isRow = true) (hi : (P.info? ty).map (·.size) = some n) {w : World} {b o : Nat} (h : HasRow w b o n) :
    (Instr.loadAt ty (.pointer (some ⟨b, o, none⟩))).run P w = .ok (.agg (rowAt w b o n)) w := by
  refine run_loadAt_mid w b o ty ((List.range n).map fun j => (w.cell? ⟨b, o + j, none⟩).getD undef) d (fun j v hv => ?_) hu hd (by simpa using hi)
  rw [List.getElem?_map] at hv
  have hj : j < n := by
    rcases Nat.lt_or_ge j n with h1 | h1
    · exact h1
    · rw [List.getElem?_eq_none (by simpa using h1)] at hv; cases hv
  rw [List.getElem?_range hj] at hv
  simp only [Option.map_some, Option.some.injEq] at hv
  obtain ⟨u, hu⟩ := Option.isSome_iff_exists.1 (h j hj)
  rw [hu] at hv ⊢
  exact congrArg some hv
theorem IBlk.has {w : World} {g : Nat} {t : TypeId} {zs : List Int} (h : IBlk w g t zs) (o n : Nat) (hn : o + n ≤ zs.length) : HasRow w g o n := fun j hj => by
  rw [h.cell (by omega)]; rfl
theorem IBlk.row {w : World} {g : Nat} {t : TypeId} {zs : List Int} (h : IBlk w g t zs) (o n : Nat) (hn : o + n ≤ zs.length) : rowAt w g o n = iA ((zs.drop o).take n) := by
  unfold rowAt iA
  congr 1
  apply List.ext_getElem
  · rw [iV_length]; simp; omega
  · intro j h1 h2
    have hj : j < n := by simpa using h1
    simp only [List.getElem_map, List.getElem_range]
    rw [h.cell (by omega)]
    simp [iV, List.getD, show o + j < zs.length by omega]
/-- So many cells that may be written. -/
def Room (w : World) (b o n : Nat) : Prop := w.there b o n
theorem Room.cells {w : World} {b o n : Nat} (h : Room w b o n) (b' o' : Nat) (vs : List Value) : Room (w.setCells b' o' vs) b o n := World.there_setCells h b' o' vs
end Go.Proofs.Ytoknodkgmeinmaa
