/- The law's own writes, calls, and copies, by value, folded. -/
import Derived.Test.YthafhmpbhhpfbaaDskA
namespace Go.Proofs.Ythafhmpbhhpfbaa
open Go.RowKit Go.Maps

/-! ### legateelaw06.write -/
theorem Try.infoL65 : (Try.prog.info? 35).map (·.size) = some 65 := by kernel_rfl
def loadL (x : Value) : Sem Value := Instr.loadAt 35 x
theorem loadL_fold (x : Value) : Instr.loadAt 35 x = loadL x := rfl
theorem loadL_has {w : World} {b o : Nat} (h : HasRow w b o 65) : (loadL (.pointer (some ⟨b, o, none⟩))).run Try.prog w = .ok (.agg (rowAt w b o 65)) w := run_loadAt_has Try.underlying35 rfl Try.infoL65 h
def storeL (x v : Value) : Sem Unit := Instr.storeAt 35 x v
theorem storeL_fold (x v : Value) : Instr.storeAt 35 x v = storeL x v := rfl
theorem storeL_has {w : World} {b o : Nat} {vs : List Value} (h : Room w b o 65) (hl : Is 65 vs) : (storeL (.pointer (some ⟨b, o, none⟩)) (.agg vs.toArray)).run Try.prog w = .ok () (w.setCells b o vs) := run_storeAt_v Try.infoL65 h hl
def allocL (b : Bool) (x : Value) : Sem Value := Instr.alloc 35 b x
theorem allocL_fold (b : Bool) (x : Value) : Instr.alloc 35 b x = allocL b x := rfl
theorem allocL_run (w : World) : (allocL true (.tuple #[])).run Try.prog w = .ok (.pointer (some ⟨w.heap.size, 0, none⟩)) (w.alloc (.cells (wrV 0 zs64).toArray 35)) := by kernel_rfl
def buildL (x : Array (Nat × Value)) : Sem Value := Instr.build 35 x
theorem buildL_fold (x : Array (Nat × Value)) : Instr.build 35 x = buildL x := rfl
theorem Try.zeroL65 (w : World) : (zeroValue 35).run Try.prog w = .ok (.agg (wrV 0 zs64).toArray) w := by kernel_rfl
theorem buildL_run {x : Int} {bs : List Int} (h : Sect bs) (w : World) : (buildL #[(0, .int .i64 x), (1, secV bs)]).run Try.prog w = .ok (.agg (wrV x bs).toArray) w := by
  have hl := h.vlen
  have hz : (wrV 0 zs64).length = 65 := by rw [wrV_length]; rfl
  have hf := fold_set (u8V bs) 1 0 ((wrV 0 zs64).set 0 (.int .i64 x)).toArray (by simp [hl, hz])
  simp [buildL, Instr.build, run_underlying Try.underlying35, Try.zeroL65, Instr.fill, Value.cells]
  rw [if_neg (by intro e; rw [e] at hz; cases hz), if_neg (by omega)]
  simp only [Nat.add_zero] at hf
  rw [hf]
  have e : ((wrV 0 zs64).set 0 (.int .i64 x)).toArray.toList.take 1 ++ u8V bs ++ ((wrV 0 zs64).set 0 (.int .i64 x)).toArray.toList.drop (1 + (u8V bs).length) = wrV x bs := by
    rw [List.drop_of_length_le (by simp [hl, hz])]
    simp [wrV]
  rw [e]
  rfl


/-! ### a slice of one write -/
def oneL (x : Array (Nat × Value)) : Sem Value := Instr.buildSlice 27 1 x
theorem oneL_fold (x : Array (Nat × Value)) : Instr.buildSlice 27 1 x = oneL x := rfl
theorem oneL_run {vs : List Value} (h : Is 65 vs) (w : World) : (oneL #[(0, .agg vs.toArray)]).run Try.prog w = .ok (.slice (some ⟨w.heap.size, 0, none⟩) 1 1) (w.alloc (.cells vs.toArray 35)) := by
  have hl := h.1
  simp [oneL, Instr.buildSlice, run_underlying Try.underlying27, Try.zeroL65, Instr.fill, Value.cells, hl, newRow]
  rw [fold_set0 (by simp [hl])]
/-! ### append, as a function of the world -/
def appL (x : Array Value) : Sem Value := Builtin.append_ #[27, 27] 27 x
theorem appL_fold (x : Array Value) : Builtin.append_ #[27, 27] 27 x = appL x := rfl
def HasAppL (w : World) (v x : Value) : Prop := ∃ p : Nat × Nat × Nat × World, (appL #[v, x]).run Try.prog w = .ok (.slice (some ⟨p.1, 0, none⟩) p.2.1 p.2.2.1) p.2.2.2
open Classical in
noncomputable def appQ (w : World) (v x : Value) : Nat × Nat × Nat × World := if h : HasAppL w v x then Classical.choose h else (0, 0, 0, w)
theorem appL_has {w : World} {v x : Value} (h : HasAppL w v x) : (appL #[v, x]).run Try.prog w = .ok (.slice (some ⟨(appQ w v x).1, 0, none⟩) (appQ w v x).2.1 (appQ w v x).2.2.1) (appQ w v x).2.2.2 := by
  unfold appQ
  rw [dif_pos h]
  exact Classical.choose_spec h
theorem Try.infoLr : (Try.prog.info? 35).map (fun i => (i.zero, i.size, i.bytes)) = some (some (.agg (wrV 0 zs64).toArray), 65, 72) := by kernel_rfl
theorem app_oneL {w : World} {base n g : Nat} {v : Value} {xs vs : List Value} (hown : w.ownsRow base 35 65 v n xs) (hg : VBlk w g 35 vs) (hl : Is 65 vs) (hn : n < 100000) (hb : base ≤ w.heap.size) :
    HasAppL w v (.slice (some ⟨g, 0, none⟩) 1 1) ∧ ∀ p, appQ w v (.slice (some ⟨g, 0, none⟩) 1 1) = p → p.2.1 = n + 1 ∧ p.2.2.2.ownsRow base 35 65 (.slice (some ⟨p.1, 0, none⟩) p.2.1 p.2.2.1) (n + 1) (xs ++ vs) ∧ w.grownBy p.2.2.2 v.ownBlock ∧ (some p.1 = v.ownBlock ∨ p.1 = w.heap.size) := by
  obtain ⟨i, hi, hz, hsz, hby⟩ := info_parts Try.infoLr
  have hr : Reads w (g + 1) 65 (some ⟨g, 0, none⟩) 1 vs := ⟨by rw [hl.1], fun _ => ⟨_, rfl, Nat.lt_succ_self _, fun j u hu => by rw [Go.WideShapes.add_plain, Nat.zero_add]; exact hg.cellAt hu⟩⟩
  obtain ⟨v', w', hrun, h1, h2, h3⟩ := run_append_any (P := Try.prog) w base 27 27 35 i _ 65 72 Try.underlying27 hi hz hsz hby (by simp [Value.cells, wrV_length, zs64]) (by decide) v n xs hown (g + 1) (some ⟨g, 0, none⟩) 1 1 vs hr hl.2 (by unfold maxLen; omega) (by omega) hb
  obtain ⟨g', cap, rfl⟩ : ∃ g' cap, v' = .slice (some ⟨g', 0, none⟩) (n + 1) cap := by
    rcases h1.2 with ⟨rfl, h0⟩ | ⟨g', cap, cur, rfl, _⟩
    · omega
    · exact ⟨_, _, rfl⟩
  have hh : HasAppL w v (.slice (some ⟨g, 0, none⟩) 1 1) := ⟨(g', n + 1, cap, w'), hrun⟩
  refine ⟨hh, ?_⟩
  rintro p rfl
  have e := (appL_has hh).symm.trans (show (appL #[v, .slice (some ⟨g, 0, none⟩) 1 1]).run Try.prog w = .ok (.slice (some ⟨g', 0, none⟩) (n + 1) cap) w' from hrun)
  generalize appQ w v (.slice (some ⟨g, 0, none⟩) 1 1) = p at e
  obtain ⟨a, b, c, w2⟩ := p
  simp only [Result.ok.injEq, Value.slice.injEq, Option.some.injEq, Addr.mk.injEq, and_true] at e
  obtain ⟨⟨rfl, rfl, rfl⟩, rfl⟩ := e
  refine ⟨rfl, h1, h2, ?_⟩
  rcases h3 with h3 | h3
  · exact .inl h3
  · exact .inr (by simpa [Value.ownBlock] using h3)

/-! ### legateelaw06.Call -/
/-- A call: what kind, four numbers, bytes. -/
structure Cal where
  kind : Int
  at_ : Int
  n : Int
  mask : Int
  s : Sl
def callV (c : Cal) : List Value := [.int .i64 c.kind, .int .i64 c.at_, .int .i64 c.n, .int .i64 c.mask, .slice c.s.A c.s.n c.s.c]
def cal0 : Cal := ⟨0, 0, 0, 0, ⟨none, 0, 0, []⟩⟩
theorem callV_is (c : Cal) : Is 5 (callV c) := ⟨rfl, fun v hv => by simp [callV] at hv; rcases hv with rfl | rfl | rfl | rfl | rfl <;> rfl⟩
theorem Try.infoC5 : (Try.prog.info? 30).map (·.size) = some 5 := by kernel_rfl
def loadC (x : Value) : Sem Value := Instr.loadAt 30 x
theorem loadC_fold (x : Value) : Instr.loadAt 30 x = loadC x := rfl
theorem loadC_has {w : World} {b o : Nat} (h : HasRow w b o 5) : (loadC (.pointer (some ⟨b, o, none⟩))).run Try.prog w = .ok (.agg (rowAt w b o 5)) w := run_loadAt_has Try.underlying30 rfl Try.infoC5 h
def storeC (x v : Value) : Sem Unit := Instr.storeAt 30 x v
theorem storeC_fold (x v : Value) : Instr.storeAt 30 x v = storeC x v := rfl
theorem storeC_has {w : World} {b o : Nat} {vs : List Value} (h : Room w b o 5) (hl : Is 5 vs) : (storeC (.pointer (some ⟨b, o, none⟩)) (.agg vs.toArray)).run Try.prog w = .ok () (w.setCells b o vs) := run_storeAt_v Try.infoC5 h hl
def allocC (b : Bool) (x : Value) : Sem Value := Instr.alloc 30 b x
theorem allocC_fold (b : Bool) (x : Value) : Instr.alloc 30 b x = allocC b x := rfl
theorem allocC_run (w : World) : (allocC true (.tuple #[])).run Try.prog w = .ok (.pointer (some ⟨w.heap.size, 0, none⟩)) (w.alloc (.cells (callV cal0).toArray 30)) := by kernel_rfl
structure CalIn (w : World) (B : Nat) (c : Cal) : Prop where
  kind : Key c.kind
  at_ : Key c.at_
  n : Key c.n
  mask : Key c.mask
  s : SlIn w B c.s
theorem CalIn.keep {w w' : World} {B : Nat} {c : Cal} (h : CalIn w B c) (hb : Below B w w') : CalIn w' B c := ⟨h.kind, h.at_, h.n, h.mask, h.s.keep hb⟩
structure Cals (w : World) (B : Nat) (A : Option Addr) (n : Nat) (F : Nat → Cal) : Prop where
  at_ : 0 < n → ∃ b off, A = some ⟨b, off, none⟩ ∧ b < B ∧ ∀ i, i < n → ∀ j v, (callV (F i))[j]? = some v → w.cell? ⟨b, off + (i * 5 + j), none⟩ = some v
  each : ∀ i, i < n → CalIn w B (F i)
theorem Cals.keep {w w' : World} {B n : Nat} {A : Option Addr} {F : Nat → Cal} (h : Cals w B A n F) (hb : Below B w w') : Cals w' B A n F :=
  ⟨fun hn => by
    obtain ⟨b, off, e, hbl, hc⟩ := h.at_ hn
    exact ⟨b, off, e, hbl, fun i hi j v hv => (hb.cell (p := ⟨b, off + (i * 5 + j), none⟩) hbl).trans (hc i hi j v hv)⟩, fun i hi => (h.each i hi).keep hb⟩
theorem row_of {w : World} {b o n : Nat} {vs : List Value} (hl : vs.length = n) (h : ∀ j v, vs[j]? = some v → w.cell? ⟨b, o + j, none⟩ = some v) : rowAt w b o n = vs.toArray ∧ HasRow w b o n := by
  subst hl
  refine ⟨?_, fun j hj => by rw [h j _ (List.getElem?_eq_getElem hj)]; rfl⟩
  unfold rowAt
  congr 1
  apply List.ext_getElem
  · simp
  · intro j h1 h2
    simp only [List.getElem_map, List.getElem_range]
    rw [h j _ (List.getElem?_eq_getElem h2)]
    simp
theorem Cals.got {w : World} {B n : Nat} {A : Option Addr} {F : Nat → Cal} (h : Cals w B A n F) {i : Nat} (hi : i < n) : ∃ b off, A = some ⟨b, off, none⟩ ∧ rowAt w b (off + i * 5) 5 = (callV (F i)).toArray ∧ HasRow w b (off + i * 5) 5 := by
  obtain ⟨b, off, e, _, hc⟩ := h.at_ (by omega)
  obtain ⟨r1, r2⟩ := row_of (w := w) (b := b) (o := off + i * 5) (n := 5) (vs := callV (F i)) rfl (fun j v hv => by rw [Nat.add_assoc]; exact hc i hi j v hv)
  exact ⟨b, off, e, r1, r2⟩
end Go.Proofs.Ythafhmpbhhpfbaa
