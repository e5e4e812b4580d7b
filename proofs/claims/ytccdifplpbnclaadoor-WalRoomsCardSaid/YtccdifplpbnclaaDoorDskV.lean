/- Sectors, writes and maps of sectors, by value, folded: laws for the walk. -/
import Derived.Test.YtccdifplpbnclaaDoorFlat
import Derived.Deep.RegionLaw
import Derived.Deep.CutBlock
import Derived.Deep.DeepCutAuto
import Derived.Deep.DeepMust
import Derived.Deep.Light
import Derived.Deep.RegionWith
import Derived.StillTailTactics
import Derived.Maps.Own
import Derived.Maps.Views
namespace Go.Proofs.YtccdifplpbnclaaDoor
open Go.RowKit Go.Maps

def u8V (bs : List Int) : List Value := bs.map (Value.int .u8)
def wrV (x : Int) (bs : List Int) : List Value := .int .i64 x :: u8V bs
theorem u8V_length (bs : List Int) : (u8V bs).length = bs.length := by simp [u8V]
theorem wrV_length (x : Int) (bs : List Int) : (wrV x bs).length = bs.length + 1 := by simp [wrV, u8V]
theorem u8V_inj {a b : List Int} (h : u8V a = u8V b) : a = b := (List.map_inj_right (fun x y h => by injection h)).1 h
def zs64 : List Int := List.replicate 64 0
/-- A sector's bytes. -/
def Sect (bs : List Int) : Prop := bs.length = 64 ∧ ∀ z ∈ bs, (Lit.int .u8 z).wf = true
theorem sect_zs : Sect zs64 := ⟨rfl, fun z hz => by rw [List.eq_of_mem_replicate hz]; rfl⟩
theorem Sect.len {bs : List Int} (h : Sect bs) : bs.length = 64 := h.1
theorem Sect.vlen {bs : List Int} (h : Sect bs) : (u8V bs).length = 64 := by rw [u8V_length]; exact h.1
theorem Sect.wlen {bs : List Int} (h : Sect bs) (x : Int) : (wrV x bs).length = 65 := by rw [wrV_length, h.1]
theorem u8V_one (bs : List Int) : ∀ v ∈ u8V bs, v.oneCell' = true := oneCell_ints bs
theorem wrV_one (x : Int) (bs : List Int) : ∀ v ∈ wrV x bs, v.oneCell' = true := by
  intro v hv
  rcases List.mem_cons.1 hv with rfl | hv
  · rfl
  · exact u8V_one bs v hv

/-! ### blocks, by the list of their cells -/
def VBlk (w : World) (g : Nat) (t : TypeId) (vs : List Value) : Prop := Blk w g t vs.toArray
def Room (w : World) (b o n : Nat) : Prop := w.there b o n
def Is (n : Nat) (vs : List Value) : Prop := vs.length = n ∧ ∀ v ∈ vs, v.oneCell' = true
section
variable {w w' : World} {g : Nat} {t : TypeId} {vs : List Value}
theorem VBlk.blk (h : VBlk w g t vs) : Blk w g t vs.toArray := h
theorem VBlk.lt (h : VBlk w g t vs) : g < w.heap.size := Blk.lt h
theorem VBlk.new (w : World) (t : TypeId) (vs : List Value) : VBlk (w.alloc (.cells vs.toArray t)) w.heap.size t vs := Blk.new _ _ _
theorem VBlk.only {S : Nat → Prop} (h : VBlk w g t vs) (k : Only S w w') (hn : ¬ S g) : VBlk w' g t vs := Blk.only h k hn
theorem VBlk.below {B : Nat} (h : VBlk w g t vs) (k : Below B w w') (hn : g < B) : VBlk w' g t vs := Blk.below h k hn
theorem VBlk.alloc (h : VBlk w g t vs) (o : Obj) : VBlk (w.alloc o) g t vs := Blk.alloc h o
theorem VBlk.drew (h : VBlk w g t vs) : VBlk w.drew g t vs := h
theorem VBlk.far (h : VBlk w g t vs) {b : Nat} (hb : g ≠ b) (o : Nat) (us : List Value) : VBlk (w.setCells b o us) g t vs := h.only (only_cells w b o us) hb
theorem VBlk.cellAt (h : VBlk w g t vs) {i : Nat} {x : Value} (hx : vs[i]? = some x) : w.cell? ⟨g, i, none⟩ = some x := by
  rw [Blk.cell h]; simpa using hx
theorem VBlk.frozen (h : VBlk w g t vs) (i : Nat) : w.frozen? ⟨g, i, none⟩ = false := Blk.frozen h i
theorem VBlk.set (h : VBlk w g t vs) (i : Nat) (x : Value) : VBlk (w.setCell ⟨g, i, none⟩ x) g t (vs.set i x) := Blk.set1 h i x
theorem VBlk.has (h : VBlk w g t vs) (o n : Nat) (hn : o + n ≤ vs.length) : HasRow w g o n := fun j hj => by
  rw [h.cellAt (List.getElem?_eq_getElem (by omega))]; rfl
theorem VBlk.row (h : VBlk w g t vs) (o n : Nat) (hn : o + n ≤ vs.length) : rowAt w g o n = ((vs.drop o).take n).toArray := by
  unfold rowAt
  congr 1
  apply List.ext_getElem
  · simp; omega
  · intro j h1 h2
    have hj : j < n := by simpa using h1
    simp only [List.getElem_map, List.getElem_range]
    rw [h.cellAt (List.getElem?_eq_getElem (by omega))]
    simp
/-- A block's part, as the walk wants it. -/
theorem VBlk.got (h : VBlk w g t vs) (o n : Nat) (hn : o + n ≤ vs.length) : rowAt w g o n = ((vs.drop o).take n).toArray ∧ HasRow w g o n := ⟨h.row o n hn, h.has o n hn⟩
theorem VBlk.whole {n : Nat} (h : VBlk w g t vs) (hn : vs.length = n) : rowAt w g 0 n = vs.toArray ∧ HasRow w g 0 n := by
  refine ⟨?_, h.has 0 n (by omega)⟩
  rw [h.row 0 n (by omega), List.drop_zero, List.take_of_length_le (Nat.le_of_eq hn)]
theorem VBlk.room (h : VBlk w g t vs) (o n : Nat) (hn : o + n ≤ vs.length) : Room w g o n := Blk.there h o n hn
theorem VBlk.fill {us : List Value} (h : VBlk w g t vs) (hn : us.length = vs.length) : VBlk (w.setCells g 0 us) g t us := by
  have := Blk.setN us 0 h (by omega)
  rwa [show vs.take 0 ++ us ++ vs.drop (0 + us.length) = us by simp [List.drop_of_length_le, hn]] at this
theorem VBlk.fillK {us : List Value} (h : VBlk w g t vs) (hn : us.length ≤ vs.length) : VBlk (w.setCells g 0 us) g t (us ++ vs.drop us.length) := by
  have := Blk.setN us 0 h (by omega)
  rwa [show vs.take 0 ++ us ++ vs.drop (0 + us.length) = us ++ vs.drop us.length by simp] at this
theorem VBlk.setN {us : List Value} (h : VBlk w g t vs) (o : Nat) (hn : o + us.length ≤ vs.length) : VBlk (w.setCells g o us) g t (vs.take o ++ us ++ vs.drop (o + us.length)) := Blk.setN us o h hn
end
theorem Room.cells {w : World} {b o n : Nat} (h : Room w b o n) (b' o' : Nat) (vs : List Value) : Room (w.setCells b' o' vs) b o n := World.there_setCells h b' o' vs
theorem Room.alloc {w : World} {b o n : Nat} (h : Room w b o n) (ob : Obj) : Room (w.alloc ob) b o n := World.there_alloc h ob
theorem run_storeAt_v {P : Program} {ty : TypeId} {n : Nat} (hi : (P.info? ty).map (·.size) = some n) {w : World} {b o : Nat} {vs : List Value} (h : Room w b o n) (hl : Is n vs) :
    (Instr.storeAt ty (.pointer (some ⟨b, o, none⟩)) (.agg vs.toArray)).run P w = .ok () (w.setCells b o vs) := by
  have hl' : vs.length = n := hl.1
  have := run_storeAt_mid (P := P) w b o ty vs.toArray (by simp only [List.size_toArray]; rw [hl']; exact h) (by simp only [List.size_toArray]; rw [hl']; exact hi) (all_oneCell_toArray hl.2)
  simpa using this

/-! ### [64]uint8 -/
theorem Tryd.info64 : (Tryd.prog.info? 61).map (·.size) = some 64 := by kernel_rfl
def loadS (x : Value) : Sem Value := Instr.loadAt 61 x
theorem loadS_fold (x : Value) : Instr.loadAt 61 x = loadS x := rfl
theorem loadS_has {w : World} {b o : Nat} (h : HasRow w b o 64) : (loadS (.pointer (some ⟨b, o, none⟩))).run Tryd.prog w = .ok (.agg (rowAt w b o 64)) w := run_loadAt_has Tryd.underlying61 rfl Tryd.info64 h
def storeS (x v : Value) : Sem Unit := Instr.storeAt 61 x v
theorem storeS_fold (x v : Value) : Instr.storeAt 61 x v = storeS x v := rfl
theorem storeS_has {w : World} {b o : Nat} {vs : List Value} (h : Room w b o 64) (hl : Is 64 vs) : (storeS (.pointer (some ⟨b, o, none⟩)) (.agg vs.toArray)).run Tryd.prog w = .ok () (w.setCells b o vs) := run_storeAt_v Tryd.info64 h hl
def allocS (b : Bool) (x : Value) : Sem Value := Instr.alloc 61 b x
theorem allocS_fold (b : Bool) (x : Value) : Instr.alloc 61 b x = allocS b x := rfl
theorem allocS_run (w : World) : (allocS true (.tuple #[])).run Tryd.prog w = .ok (.pointer (some ⟨w.heap.size, 0, none⟩)) (w.alloc (.cells (u8V zs64).toArray 61)) := by kernel_rfl
/-! ### disk.write -/
theorem Tryd.info65 : (Tryd.prog.info? 63).map (·.size) = some 65 := by kernel_rfl
def loadW (x : Value) : Sem Value := Instr.loadAt 63 x
theorem loadW_fold (x : Value) : Instr.loadAt 63 x = loadW x := rfl
theorem loadW_has {w : World} {b o : Nat} (h : HasRow w b o 65) : (loadW (.pointer (some ⟨b, o, none⟩))).run Tryd.prog w = .ok (.agg (rowAt w b o 65)) w := run_loadAt_has Tryd.underlying63 rfl Tryd.info65 h
def storeW (x v : Value) : Sem Unit := Instr.storeAt 63 x v
theorem storeW_fold (x v : Value) : Instr.storeAt 63 x v = storeW x v := rfl
theorem storeW_has {w : World} {b o : Nat} {vs : List Value} (h : Room w b o 65) (hl : Is 65 vs) : (storeW (.pointer (some ⟨b, o, none⟩)) (.agg vs.toArray)).run Tryd.prog w = .ok () (w.setCells b o vs) := run_storeAt_v Tryd.info65 h hl
def allocW (b : Bool) (x : Value) : Sem Value := Instr.alloc 63 b x
theorem allocW_fold (b : Bool) (x : Value) : Instr.alloc 63 b x = allocW b x := rfl
theorem allocW_run (w : World) : (allocW true (.tuple #[])).run Tryd.prog w = .ok (.pointer (some ⟨w.heap.size, 0, none⟩)) (w.alloc (.cells (wrV 0 zs64).toArray 63)) := by kernel_rfl
def buildW (x : Array (Nat × Value)) : Sem Value := Instr.build 63 x
theorem buildW_fold (x : Array (Nat × Value)) : Instr.build 63 x = buildW x := rfl
theorem buildW_run (x : Int) (w : World) : (buildW #[(0, .int .i64 x)]).run Tryd.prog w = .ok (.agg (wrV x zs64).toArray) w := run_build w _ _ _ (by kernel_rfl)
def boxW (x : Value) : Sem Value := Instr.box 63 x
theorem boxW_fold (x : Value) : Instr.box 63 x = boxW x := rfl
theorem boxW_run (vs : List Value) (w : World) : (boxW (.agg vs.toArray)).run Tryd.prog w = .ok (.pointer (some ⟨w.heap.size, 0, none⟩)) (w.alloc (.cells vs.toArray 63)) := by
  simp [boxW, Instr.box, newVar, newRow, Value.cells]

/-! ### map[int][64]uint8 -/
theorem Tryd.keyInt : Keyed Tryd.prog 3 := int_keyed Tryd.underlying3
abbrev secV (bs : List Int) : Value := .agg (u8V bs).toArray
theorem Tryd.zeroSect (w : World) : (zeroValue 61).run Tryd.prog w = .ok (secV zs64) w := by kernel_rfl
def heldV (v : Value) : Option (DataW Value × List MemPlace) := some (.held v, [])
/-- A map that has, of each number, such a sector. -/
def MapIs (w : World) (b n : Nat) (f : Int → List Int) : Prop :=
  ∃ D : DataW Value, w.ownsMap Tryd.prog 3 heldV b n D ∧ IsMap D ∧ ∀ v, D.atKey (.int .i64 v) (.held (secV zs64)) = .held (secV (f v))
theorem secV_inj {a b : List Int} (h : secV a = secV b) : a = b := by
  injection h with h
  exact u8V_inj (List.toArray_inj h)
section
variable {w w' : World} {b n : Nat} {f : Int → List Int}
theorem mapIs_made (w : World) : MapIs (w.alloc (.map #[] 0)) w.heap.size 0 (fun _ => zs64) :=
  ⟨.map [], World.ownsMap_made w _ _ _, isMap_empty, fun v => by rw [atKey_of_not_has rfl]⟩
theorem MapIs.grown (h : MapIs w b n f) {row : Option Nat} (hg : w.grownBy w' row) (hne : some b ≠ row) : MapIs w' b n f := by
  obtain ⟨D, h1, h2, h3⟩ := h
  exact ⟨D, h1.kept hg hne, h2, h3⟩
theorem MapIs.lt (h : MapIs w b n f) : b < w.heap.size := by
  obtain ⟨D, h1, _⟩ := h
  exact h1.lt
theorem MapIs.only {S : Nat → Prop} (h : MapIs w b n f) (hO : Only S w w') (hn : ¬ S b) : MapIs w' b n f := by
  obtain ⟨D, ⟨es, clock, hb, r⟩, h2⟩ := h
  exact ⟨D, ⟨es, clock, (hO.block b (Array.getElem?_eq_some_iff.1 hb).1 hn).trans hb, r⟩, h2⟩
theorem MapIs.alloc (h : MapIs w b n f) (o : Obj) : MapIs (w.alloc o) b n f := h.grown (World.grownBy_alloc w o none) (by simp)
theorem MapIs.drew (h : MapIs w b n f) : MapIs w.drew b n f := h
theorem MapIs.mono (h : MapIs w b n f) {n' : Nat} (hn : n ≤ n') : MapIs w b n' f := by
  obtain ⟨D, h1, h2⟩ := h
  exact ⟨D, h1.mono hn, h2⟩
theorem MapIs.look (h : MapIs w b n f) {v : Int} (hv : (Lit.int .i64 v).wf = true) : (Instr.lookup 51 (.map (some b)) (.int .i64 v) false).run Tryd.prog w = .ok (secV (f v)) w := by
  obtain ⟨D, h1, _, h3⟩ := h
  obtain ⟨x, ps, hrun, hx⟩ := h1.lookup Tryd.keyInt Tryd.underlying51 (Tryd.zeroSect w) (zd := .held (secV zs64)) (zp := []) rfl (keyOf_int_mk Tryd.underlying3 hv)
  rw [h3] at hx
  simp only [heldV, Option.some.injEq, Prod.mk.injEq, DataW.held.injEq] at hx
  rw [hrun, hx.1]
theorem MapIs.store (h : MapIs w b n f) (hn : n < 100000) {v : Int} (hv : (Lit.int .i64 v).wf = true) (bs : List Int) :
    ∃ w', (Instr.mapUpdate 51 (.map (some b)) (.int .i64 v) (secV bs)).run Tryd.prog w = .ok () w' ∧ MapIs w' b (n + 1) (fun x => if x = v then bs else f x) ∧ w.grownBy w' (some b) := by
  obtain ⟨D, h1, h2, h3⟩ := h
  obtain ⟨w', hrun, r1, r2⟩ := h1.update Tryd.keyInt Tryd.underlying51 (by unfold maxLen; omega) (keyOf_int_mk Tryd.underlying3 hv) (d := .held (secV bs)) (ps := []) rfl
  refine ⟨w', hrun, ⟨_, r1, h2.put _ _, fun u => ?_⟩, r2⟩
  by_cases e : u = v
  · subst e
    rw [atKey_put_same h2 (by trivial)]
    simp
  · rw [atKey_put_other (by simpa using e), h3]
    simp [e]
/-- What it has is told by it alone. -/
theorem MapIs.one {n' : Nat} {f' : Int → List Int} (h : MapIs w b n f) (h' : MapIs w b n' f') : f = f' := by
  obtain ⟨D, ⟨es, cl, hb, _, _, hD⟩, _, h3⟩ := h
  obtain ⟨D', ⟨es', cl', hb', _, _, hD'⟩, _, h3'⟩ := h'
  rw [hb] at hb'
  injection hb' with hb'
  injection hb' with e1 e2
  subst e1
  rw [← hD] at hD'
  subst hD'
  funext v
  have := h3 v
  rw [h3'] at this
  injection this with this
  exact (secV_inj this).symm
end
/-! as the walk wants it -/
def HasMap (w : World) (b : Nat) : Prop := ∃ n f, MapIs w b n f ∧ n < 100000
open Classical in
noncomputable def mapF (w : World) (b : Nat) (k : Int) : List Int := if h : ∃ n f, MapIs w b n f then (Classical.choose (Classical.choose_spec h)) k else []
theorem MapIs.eq {w : World} {b n : Nat} {f : Int → List Int} (h : MapIs w b n f) : mapF w b = f := by
  have hh : ∃ n f, MapIs w b n f := ⟨n, f, h⟩
  unfold mapF
  simp only [dif_pos hh]
  exact (Classical.choose_spec (Classical.choose_spec hh)).one h
theorem MapIs.gotD {w : World} {b n : Nat} {f : Int → List Int} (h : MapIs w b n f) (hn : n < 100000) (k : Int) : mapF w.drew b k = f k ∧ HasMap w.drew b := ⟨by rw [h.drew.eq], n, f, h.drew, hn⟩
theorem MapIs.got {w : World} {b n : Nat} {f : Int → List Int} (h : MapIs w b n f) (hn : n < 100000) (k : Int) : mapF w b k = f k ∧ HasMap w b := ⟨by rw [h.eq], n, f, h, hn⟩
def Key (k : Int) : Prop := (Lit.int .i64 k).wf = true
def lookS (m k : Value) : Sem Value := Instr.lookup 51 m k false
theorem lookS_fold (m k : Value) : Instr.lookup 51 m k false = lookS m k := rfl
theorem lookS_has {w : World} {b : Nat} {k : Int} (h : HasMap w b) (hk : Key k) : (lookS (.map (some b)) (.int .i64 k)).run Tryd.prog w = .ok (secV (mapF w b k)) w := by
  obtain ⟨n, f, h, _⟩ := h
  rw [h.eq]
  exact h.look hk
def putS (m k v : Value) : Sem Unit := Instr.mapUpdate 51 m k v
theorem putS_fold (m k v : Value) : Instr.mapUpdate 51 m k v = putS m k v := rfl
open Classical in
noncomputable def putW (w : World) (b : Nat) (k : Int) (v : Value) : World := if h : ∃ w', (putS (.map (some b)) (.int .i64 k) v).run Tryd.prog w = .ok () w' then Classical.choose h else w
theorem MapIs.put {w : World} {b n : Nat} {f : Int → List Int} (h : MapIs w b n f) (hn : n < 100000) {k : Int} (hk : Key k) (bs : List Int) :
    (putS (.map (some b)) (.int .i64 k) (secV bs)).run Tryd.prog w = .ok () (putW w b k (secV bs)) ∧ MapIs (putW w b k (secV bs)) b (n + 1) (fun x => if x = k then bs else f x) ∧ Only (· = b) w (putW w b k (secV bs)) := by
  obtain ⟨w', hrun, h1, h2⟩ := h.store hn hk bs
  have hh : ∃ w', (putS (.map (some b)) (.int .i64 k) (secV bs)).run Tryd.prog w = .ok () w' := ⟨w', hrun⟩
  have e : putW w b k (secV bs) = w' := by
    unfold putW
    rw [dif_pos hh]
    have := (Classical.choose_spec hh).symm.trans (show (putS (.map (some b)) (.int .i64 k) (secV bs)).run Tryd.prog w = .ok () w' from hrun)
    injection this
  rw [e]
  exact ⟨hrun, h1, (Only.refl (· = b) w).grown h2 fun k e => .inl (by injection e with e; exact e.symm)⟩
theorem putS_has {w : World} {b : Nat} {k : Int} (h : HasMap w b) (hk : Key k) (bs : List Int) : (putS (.map (some b)) (.int .i64 k) (secV bs)).run Tryd.prog w = .ok () (putW w b k (secV bs)) := by
  obtain ⟨n, f, h, hn⟩ := h
  exact (h.put hn hk bs).1

/-! ### a sector's first bytes, as a slice -/
def sliceS (x : Value) (h : Option Value) : Sem Value := Instr.sliceAt 61 x none h none
theorem sliceS_fold (x : Value) (h : Option Value) : Instr.sliceAt 61 x none h none = sliceS x h := rfl
def Le64 (k : Nat) : Prop := k ≤ 64
theorem Tryd.len64 : Tryd.prog.arrayLen 61 = 64 := by kernel_rfl
theorem Tryd.elem64 : Tryd.prog.elem 61 = 5 := by kernel_rfl
theorem Tryd.und64 : Tryd.prog.underlying 61 = some (.array (Tryd.prog.arrayLen 61) (Tryd.prog.elem 61)) := by kernel_rfl
theorem Tryd.size8 (w : World) : (sizeOf 5).run Tryd.prog w = .ok 1 w := by kernel_rfl
theorem sliceS_all {b o : Nat} (w : World) : (sliceS (.pointer (some ⟨b, o, none⟩)) none).run Tryd.prog w = .ok (.slice (some ⟨b, o, none⟩) 64 64) w := by
  unfold sliceS
  rw [run_sliceAt_array_all _ _ _ Tryd.und64, Tryd.elem64, Tryd.size8, Tryd.len64]
  rfl
theorem sliceS_k {b o k : Nat} (hk : Le64 k) (w : World) : (sliceS (.pointer (some ⟨b, o, none⟩)) (some (.int .i64 (k : Int)))).run Tryd.prog w = .ok (.slice (some ⟨b, o, none⟩) k 64) w := by
  have hk' : k ≤ 64 := hk
  unfold sliceS
  rw [run_sliceAt_array_h _ _ _ Tryd.und64 _ _ (by omega) (by rw [Tryd.len64]; omega), Tryd.elem64, Tryd.size8, Tryd.len64]
  simp [slicedAt, Result.andThen]
  rfl

/-! ### copy of a sector's first bytes -/
def copyS (d s : Value) (ty : TypeId) : Sem Value := Builtin.copy_ #[33, 33] ty #[d, s]
theorem copyS_fold (d s : Value) (ty : TypeId) : Builtin.copy_ #[33, 33] ty #[d, s] = copyS d s ty := rfl
theorem Tryd.info8 : (Tryd.prog.info? 5).map (·.size) = some 1 := by kernel_rfl
def Ones (a : Array Value) : Prop := ∀ v ∈ a.toList, v.oneCell' = true
theorem ones_u8 (bs : List Int) : Ones (u8V bs).toArray := fun v hv => u8V_one bs v (by simpa using hv)
theorem copyS_k {w : World} {b o b' o' k c c' : Nat} {ty : TypeId} (hk : Le64 k) (h : HasRow w b' o' 64) (hr : Room w b o 64) (h1 : Ones (rowAt w b' o' 64)) :
    (copyS (.slice (some ⟨b, o, none⟩) k c) (.slice (some ⟨b', o', none⟩) 64 c') ty).run Tryd.prog w = .ok (.int .i64 (k : Int)) (w.setCells b o ((rowAt w b' o' 64).toList.take k)) := by
  have hk : k ≤ 64 := hk
  have hl : ((rowAt w b' o' 64).toList.take k).length = k := by simp [rowAt]; omega
  have := run_copy_cells (P := Tryd.prog) w 33 33 ty 5 b o k c ⟨b', o', none⟩ 64 c' ((rowAt w b' o' 64).toList.take k) Tryd.underlying33 Tryd.info8
    (by rw [hl]; exact (Nat.min_eq_right hk).symm)
    (fun j v hv => by
      rw [Go.WideShapes.add_plain]
      have hj : j < k := by rw [← hl]; exact (List.getElem?_eq_some_iff.1 hv).1
      rw [List.getElem?_take, if_pos hj] at hv
      simp only [rowAt, List.toList_toArray, List.getElem?_map] at hv
      rw [List.getElem?_range (by omega)] at hv
      simp only [Option.map_some, Option.some.injEq] at hv
      obtain ⟨u, hu⟩ := Option.isSome_iff_exists.1 (h j (by omega))
      rw [hu] at hv ⊢
      exact congrArg some hv)
    (fun j hj => (hr j (by omega)).1) (fun j hj => (hr j (by omega)).2) (fun v hv => h1 v (List.mem_of_mem_take hv))
  rw [hl] at this
  exact this
/-- The bytes of a slice that may be none, ahead of a sector's. -/
theorem copy_src {w : World} {b o n c Bd : Nat} {A : Option Addr} {ty : TypeId} {zs : List Int} (hR : Reads w Bd 1 A n (u8V zs)) (hn : n ≤ 64) (hr : Room w b o 64) :
    (copyS (.slice (some ⟨b, o, none⟩) 64 64) (.slice A n c) ty).run Tryd.prog w = .ok (.int .i64 (n : Int)) (w.setCells b o (u8V zs)) := by
  have hl : (u8V zs).length = n := by have := hR.1; omega
  rcases Nat.eq_zero_or_pos n with h0 | h0
  · subst h0
    have hz : zs = [] := List.eq_nil_of_length_eq_zero (by rw [← u8V_length]; exact hl)
    subst hz
    exact run_copy_none (P := Tryd.prog) w 33 33 ty 5 _ _ 64 64 0 c Tryd.underlying33 Tryd.info8 rfl
  · obtain ⟨ad, rfl, _, hc⟩ := hR.2 h0
    have := run_copy_cells (P := Tryd.prog) w 33 33 ty 5 b o 64 64 ad n c (u8V zs) Tryd.underlying33 Tryd.info8
      (by rw [hl]; exact (Nat.min_eq_left hn).symm) hc (fun j hj => (hr j (by omega)).1) (fun j hj => (hr j (by omega)).2) (u8V_one zs)
    rw [hl] at this
    exact this
/-- A sector that begins with these bytes. -/
def padB (zs : List Int) : List Int := zs ++ List.replicate (64 - zs.length) 0
theorem padB_sect {zs : List Int} (h : zs.length ≤ 64) (hw : ∀ z ∈ zs, (Lit.int .u8 z).wf = true) : Sect (padB zs) := by
  refine ⟨by simp [padB]; omega, fun z hz => ?_⟩
  rcases List.mem_append.1 hz with hz | hz
  · exact hw z hz
  · rw [List.eq_of_mem_replicate hz]; rfl
theorem drop_zs (n : Nat) : (u8V zs64).drop n = u8V (List.replicate (64 - n) 0) := by
  unfold u8V zs64
  rw [← List.map_drop, List.drop_replicate]
theorem padB_v (zs : List Int) : u8V (padB zs) = u8V zs ++ u8V (List.replicate (64 - zs.length) 0) := by simp only [u8V, padB, List.map_append]
theorem pad_fill {w : World} {g : Nat} {t : TypeId} {zs : List Int} (h : VBlk w g t (u8V zs64)) (hz : zs.length ≤ 64) : VBlk (w.setCells g 0 (u8V zs)) g t (u8V (padB zs)) := by
  have := h.fillK (us := u8V zs) (by rw [u8V_length, u8V_length]; exact hz)
  rwa [show u8V zs ++ (u8V zs64).drop (u8V zs).length = u8V (padB zs) by rw [drop_zs, padB_v, u8V_length]] at this
theorem pad_fillW {w : World} {g : Nat} {t : TypeId} {x : Int} {zs : List Int} (h : VBlk w g t (wrV x zs64)) (hz : zs.length ≤ 64) : VBlk (w.setCells g 1 (u8V zs)) g t (wrV x (padB zs)) := by
  have := h.setN 1 (us := u8V zs) (by rw [u8V_length, wrV_length]; show 1 + zs.length ≤ 64 + 1; omega)
  rwa [show (wrV x zs64).take 1 ++ u8V zs ++ (wrV x zs64).drop (1 + (u8V zs).length) = wrV x (padB zs) by rw [Nat.add_comm 1, wrV, wrV, List.drop_succ_cons, drop_zs, padB_v, u8V_length]; rfl] at this
theorem fold_set : ∀ (vs : List Value) (o k : Nat) (cs : Array Value), o + k + vs.length ≤ cs.size →
    (vs.zipIdx k).foldl (fun cs x => cs.setIfInBounds (o + x.2) x.1) cs = (cs.toList.take (o + k) ++ vs ++ cs.toList.drop (o + k + vs.length)).toArray
  | [], o, k, cs, _ => by simp
  | v :: r, o, k, cs, h => by
    rw [List.zipIdx_cons, List.foldl_cons, fold_set r o (k + 1) _ (by simp at h ⊢; omega)]
    congr 1
    rw [Array.toList_setIfInBounds]
    have := list_seg_step cs.toList (o + k) v r (by simp at h ⊢; omega)
    simpa [Nat.add_assoc] using this
theorem fold_set0 {vs : List Value} {cs : Array Value} (h : vs.length = cs.size) : (vs.zipIdx).foldl (fun cs x => cs.setIfInBounds x.2 x.1) cs = vs.toArray := by
  have := fold_set vs 0 0 cs (by omega)
  simp only [Nat.zero_add, List.take_zero, List.nil_append] at this
  rw [this]
  congr 1
  rw [List.drop_of_length_le (by simp; omega), List.append_nil]
/-! ### a slice of one write -/
def oneW (x : Array (Nat × Value)) : Sem Value := Instr.buildSlice 52 1 x
theorem oneW_fold (x : Array (Nat × Value)) : Instr.buildSlice 52 1 x = oneW x := rfl
theorem Tryd.zero65 (w : World) : (zeroValue 63).run Tryd.prog w = .ok (.agg (wrV 0 zs64).toArray) w := by kernel_rfl
theorem oneW_run {vs : List Value} (h : Is 65 vs) (w : World) : (oneW #[(0, .agg vs.toArray)]).run Tryd.prog w = .ok (.slice (some ⟨w.heap.size, 0, none⟩) 1 1) (w.alloc (.cells vs.toArray 63)) := by
  have hl := h.1
  simp [oneW, Instr.buildSlice, run_underlying Tryd.underlying52, Tryd.zero65, Instr.fill, Value.cells, hl, newRow]
  rw [fold_set0 (by simp [hl])]
/-! ### append, as a function of the world -/
def appF (x : Array Value) : Sem Value := Builtin.append_ #[52, 52] 52 x
theorem appF_fold (x : Array Value) : Builtin.append_ #[52, 52] 52 x = appF x := rfl
def HasApp (w : World) (v x : Value) : Prop := ∃ p : Nat × Nat × Nat × World, (appF #[v, x]).run Tryd.prog w = .ok (.slice (some ⟨p.1, 0, none⟩) p.2.1 p.2.2.1) p.2.2.2
open Classical in
noncomputable def appP (w : World) (v x : Value) : Nat × Nat × Nat × World := if h : HasApp w v x then Classical.choose h else (0, 0, 0, w)
theorem appF_has {w : World} {v x : Value} (h : HasApp w v x) : (appF #[v, x]).run Tryd.prog w = .ok (.slice (some ⟨(appP w v x).1, 0, none⟩) (appP w v x).2.1 (appP w v x).2.2.1) (appP w v x).2.2.2 := by
  unfold appP
  rw [dif_pos h]
  exact Classical.choose_spec h
theorem Tryd.infoWr : (Tryd.prog.info? 63).map (fun i => (i.zero, i.size, i.bytes)) = some (some (.agg (wrV 0 zs64).toArray), 65, 72) := by kernel_rfl
theorem app_one {w : World} {base n g : Nat} {v : Value} {xs vs : List Value} (hown : w.ownsRow base 63 65 v n xs) (hg : VBlk w g 63 vs) (hl : Is 65 vs) (hn : n < 100000) (hb : base ≤ w.heap.size) :
    HasApp w v (.slice (some ⟨g, 0, none⟩) 1 1) ∧ ∀ p, appP w v (.slice (some ⟨g, 0, none⟩) 1 1) = p → p.2.1 = n + 1 ∧ p.2.2.2.ownsRow base 63 65 (.slice (some ⟨p.1, 0, none⟩) p.2.1 p.2.2.1) (n + 1) (xs ++ vs) ∧ w.grownBy p.2.2.2 v.ownBlock ∧ (some p.1 = v.ownBlock ∨ p.1 = w.heap.size) := by
  obtain ⟨i, hi, hz, hsz, hby⟩ := info_parts Tryd.infoWr
  have hr : Reads w (g + 1) 65 (some ⟨g, 0, none⟩) 1 vs := ⟨by rw [hl.1], fun _ => ⟨_, rfl, Nat.lt_succ_self _, fun j u hu => by rw [Go.WideShapes.add_plain, Nat.zero_add]; exact hg.cellAt hu⟩⟩
  obtain ⟨v', w', hrun, h1, h2, h3⟩ := run_append_any (P := Tryd.prog) w base 52 52 63 i _ 65 72 Tryd.underlying52 hi hz hsz hby (by simp [Value.cells, wrV_length, zs64]) (by decide) v n xs hown (g + 1) (some ⟨g, 0, none⟩) 1 1 vs hr hl.2 (by unfold maxLen; omega) (by omega) hb
  obtain ⟨g', cap, rfl⟩ : ∃ g' cap, v' = .slice (some ⟨g', 0, none⟩) (n + 1) cap := by
    rcases h1.2 with ⟨rfl, h0⟩ | ⟨g', cap, cur, rfl, _⟩
    · omega
    · exact ⟨_, _, rfl⟩
  have hh : HasApp w v (.slice (some ⟨g, 0, none⟩) 1 1) := ⟨(g', n + 1, cap, w'), hrun⟩
  refine ⟨hh, ?_⟩
  rintro p rfl
  have e := (appF_has hh).symm.trans (show (appF #[v, .slice (some ⟨g, 0, none⟩) 1 1]).run Tryd.prog w = .ok (.slice (some ⟨g', 0, none⟩) (n + 1) cap) w' from hrun)
  generalize appP w v (.slice (some ⟨g, 0, none⟩) 1 1) = p at e
  obtain ⟨a, b, c, w2⟩ := p
  simp only [Result.ok.injEq, Value.slice.injEq, Option.some.injEq, Addr.mk.injEq, and_true] at e
  obtain ⟨⟨rfl, rfl, rfl⟩, rfl⟩ := e
  refine ⟨rfl, h1, h2, ?_⟩
  rcases h3 with h3 | h3
  · exact .inl h3
  · exact .inr (by simpa [Value.ownBlock] using h3)
end Go.Proofs.YtccdifplpbnclaaDoor
