/- A box in memory; New and Len. -/
import Derived.Test.YteiaiicdemmcoaaDoorSlOk
import Derived.Test.YteiaiicdemmcoaaDoorApp8
import Derived.Conc.LoneCalls
import Derived.Conc.LoneSelectN
namespace Go.Proofs.YteiaiicdemmcoaaDoor
open Go.RowKit Go.Conc

/-- An open channel, and what lies in it. -/
def ChanIs (w : World) (c N : Nat) (vs : List Value) : Prop := ∃ s r : Nat, w.heap[c]? = some (.chan N vs.toArray false s r false)
/-- A box of N places, and what waits in it. -/
structure BoxAt (w : World) (Q : Nat → Prop) (p c N : Nat) (Fs : List Sl) : Prop where
  ptr : VBlk w p 58 [.chan (some c)]
  chan : ChanIs w c N (Fs.map slV)
  le : Fs.length ≤ N
  each : ∀ s ∈ Fs, SlOk w Q s
section
variable {w w' : World} {Q Q' T : Nat → Prop} {p c N : Nat} {Fs : List Sl}
theorem ChanIs.lt {vs : List Value} (h : ChanIs w c N vs) : c < w.heap.size := by
  obtain ⟨s, r, h⟩ := h
  exact (Array.getElem?_eq_some_iff.1 h).1
theorem ChanIs.only {vs : List Value} (h : ChanIs w c N vs) (k : Only T w w') (hn : ¬ T c) : ChanIs w' c N vs := by
  have hl := h.lt
  obtain ⟨s, r, h⟩ := h
  exact ⟨s, r, (k.block c hl hn).trans h⟩
/-- No cell lies in a channel. -/
theorem ChanIs.nocell {vs : List Value} (h : ChanIs w c N vs) (a : Addr) (ha : a.block = c) : w.cell? a = none := by
  obtain ⟨s, r, h⟩ := h
  unfold World.cell?
  rw [ha, h]
theorem ChanIs.ne {vs : List Value} (h : ChanIs w c N vs) {g : Nat} {t : TypeId} {us : List Value} (hb : VBlk w g t us) : g ≠ c := by
  rintro rfl
  obtain ⟨s, r, h⟩ := h
  have hb : w.heap[g]? = some (.cells us.toArray t (0, 0)) := hb
  rw [h] at hb
  cases hb
theorem SlOk.noChan {vs : List Value} {s : Sl} (h : SlOk w Q s) (hc : ChanIs w c N vs) : 0 < s.n → ∀ ad, s.A = some ad → ad.block ≠ c := fun h0 ad ha e => by
  obtain ⟨ad', e', hlt, hcell⟩ := h.in_.reads.2 h0
  rw [ha] at e'
  injection e' with e'
  subst e'
  have hl : 0 < (u8V s.zs).length := by have := h.in_.reads.1; omega
  have := hcell 0 _ (List.getElem?_eq_getElem hl)
  rw [hc.nocell _ (by rw [block_of_add]; exact e)] at this
  cases this
/-- What changes a channel alone changes no bytes. -/
theorem SlOk.chan {vs : List Value} {s : Sl} (h : SlOk w Q s) (hc : ChanIs w c N vs) (k : Only (· = c) w w') : SlOk w' Q s :=
  ⟨⟨(reads_only h.in_.reads k (Nat.le_refl _) (fun h0 ad ha _ => h.noChan hc h0 ad ha)).more k.size, h.in_.n_le, h.in_.c_le, h.in_.wf⟩, h.at_⟩
theorem Reads.chan {vs xs : List Value} {A : Option Addr} {n B : Nat} (h : Reads w B 1 A n xs) (hc : ChanIs w c N vs) (hB : B ≤ w.heap.size) (k : Only (· = c) w w') : Reads w' B 1 A n xs :=
  reads_only h k hB fun h0 ad ha _ e => by
    obtain ⟨ad', e', hlt, hcell⟩ := h.2 h0
    rw [ha] at e'
    injection e' with e'
    subst e'
    have hl : 0 < xs.length := by have := h.1; omega
    have := hcell 0 _ (List.getElem?_eq_getElem hl)
    rw [hc.nocell _ (by rw [block_of_add]; exact e)] at this
    cases this
theorem BoxAt.lt (h : BoxAt w Q p c N Fs) : p < w.heap.size := VBlk.lt h.ptr
theorem BoxAt.only (h : BoxAt w Q p c N Fs) (k : Only T w w') (hp : ¬ T p) (hc : ¬ T c) (hQ : ∀ b, b < w.heap.size → Q b → ¬ T b) : BoxAt w' Q p c N Fs :=
  ⟨h.ptr.only k hp, h.chan.only k hc, h.le, fun s hs => (h.each s hs).only k hQ⟩
theorem BoxAt.below (h : BoxAt w Q p c N Fs) (k : Below w.heap.size w w') : BoxAt w' Q p c N Fs := h.only (only_of_below k fun _ => False) (fun e => e) (fun e => e) (fun _ _ _ e => e)
theorem BoxAt.mono (h : BoxAt w Q p c N Fs) (hQ : ∀ b, b < w.heap.size → Q b → Q' b) : BoxAt w Q' p c N Fs := ⟨h.ptr, h.chan, h.le, fun s hs => (h.each s hs).mono hQ⟩
end
theorem SlIn.drewN {w : World} {B : Nat} {s : Sl} (h : SlIn w B s) (k : Nat) : SlIn (w.drewN k) B s := ⟨h.reads.drewN k, h.n_le, h.c_le, h.wf⟩
theorem SlOk.drewN {w : World} {Q : Nat → Prop} {s : Sl} (h : SlOk w Q s) (k : Nat) : SlOk (w.drewN k) Q s := ⟨h.in_.drewN k, h.at_⟩
theorem BoxAt.drewN {w : World} {Q : Nat → Prop} {p c N : Nat} {Fs : List Sl} (h : BoxAt w Q p c N Fs) (k : Nat) : BoxAt (w.drewN k) Q p c N Fs := ⟨h.ptr, h.chan, h.le, fun s hs => (h.each s hs).drewN k⟩
theorem BoxAt.drew {w : World} {Q : Nat → Prop} {p c N : Nat} {Fs : List Sl} (h : BoxAt w Q p c N Fs) : BoxAt w.drew Q p c N Fs := h.drewN 1
theorem own_noChan {w : World} {c N base n size : Nat} {vs xs : List Value} {e : TypeId} {v : Value} (h : w.ownsRow base e size v n xs) (hc : ChanIs w c N vs) : ∀ g, v.ownBlock = some g → g ≠ c := by
  rintro g hg rfl
  obtain ⟨s, r, hc⟩ := hc
  rcases h.2 with ⟨rfl, _⟩ | ⟨g', cap, cur, rfl, _, hh, _⟩
  · simp [Value.ownBlock] at hg
  · have : g' = g := by simpa [Value.ownBlock] using hg
    subst this
    rw [hc] at hh
    cases hh
/-- Bytes lie in blocks that are there. -/
theorem BoxAt.lim {w : World} {Q : Nat → Prop} {p c N : Nat} {Fs : List Sl} (h : BoxAt w Q p c N Fs) : BoxAt w (fun b => Q b ∧ b < w.heap.size) p c N Fs :=
  ⟨h.ptr, h.chan, h.le, fun s hs => (h.each s hs).mono fun _ hb hq => ⟨hq, hb⟩⟩
theorem only_setChan (w : World) (c cap : Nat) (buf : Array Value) (cl : Bool) (s r : Nat) (tm : Bool) : Only (· = c) w (w.setChan c cap buf cl s r tm) :=
  ⟨rfl, rfl, rfl, by simp [World.setChan], fun k _ hk => by simp only [World.setChan]; rw [Array.getElem?_setIfInBounds_ne (fun e => hk e.symm)]⟩
theorem BoxAt.turn {w : World} {Q : Nat → Prop} {p c N : Nat} {Fs Gs : List Sl} (h : BoxAt w Q p c N Fs) (hl : Gs.length ≤ N) (hG : ∀ s ∈ Gs, SlOk w Q s) (sn rn : Nat) : BoxAt (w.setChan c N (Gs.map slV).toArray false sn rn false) Q p c N Gs :=
  ⟨h.ptr.only (only_setChan _ _ _ _ _ _ _ _) (h.chan.ne h.ptr), ⟨sn, rn, heap_setChan _ _ _ _ _ _ _ _ h.chan.lt⟩, hl, fun s hs => (hG s hs).chan h.chan (only_setChan _ _ _ _ _ _ _ _)⟩

/-- How many places a box has that is made with n. -/
def capOf (n : Int) : Nat := (min (max n 1) 64).toNat
theorem capOf_bd (n : Int) : 1 ≤ capOf n ∧ capOf n ≤ 64 := by unfold capOf; omega
theorem Tryd.sliceBytes : ∃ i, Tryd.prog.info? 23 = some i ∧ i.bytes = 24 := by
  have h : (Tryd.prog.info? 23).map (·.bytes) = some 24 := by kernel_rfl
  obtain ⟨i, hi, hb⟩ := Option.map_eq_some_iff.1 h
  exact ⟨i, hi, hb⟩
theorem mkChan (w : World) (k : Int) (h0 : 0 ≤ k) (h1 : k ≤ 64) : (Instr.makeChan 56 (.int .i64 k)).run Tryd.prog w = .ok (.chan (some w.heap.size)) (w.alloc (.chan k.toNat #[] false 0 0 false)) := by
  obtain ⟨i, hi, hb⟩ := Tryd.sliceBytes
  obtain ⟨n, rfl⟩ := Int.eq_ofNat_of_zero_le h0
  simpa using run_makeChan (P := Tryd.prog) (w := w) Tryd.underlying56 hi .i64 n (by omega) (by rw [hb]; omega)
set_option maxRecDepth 100000 in
theorem New_runs (w : World) (Q : Nat → Prop) (n : Int) : Calls Tryd.prog 19 #[.int .i64 n] w fun e w' =>
    ∃ p c, e = .returned (.pointer (some ⟨p, 0, none⟩)) ∧ w.heap.size ≤ p ∧ w.heap.size ≤ c ∧ BoxAt w' Q p c (capOf n) [] ∧ Below w.heap.size w w' := by
  have hb := capOf_bd n
  have hn : (if 64 < (if n < 1 then 1 else n) then 64 else (if n < 1 then 1 else n)) = (capOf n : Int) := by unfold capOf; split <;> split <;> omega
  have hm := mkChan w (capOf n) (by omega) (by omega)
  have hc : ChanIs ((w.alloc (.chan (capOf n) #[] false 0 0 false)).alloc (.cells #[.chan (some w.heap.size)] 58)) w.heap.size (capOf n) (([] : List Sl).map slV) := ⟨0, 0, by rw [Below.heap_alloc _ _ _ (by simp)]; exact heap_alloc_new w _⟩
  have hp := VBlk.new (w.alloc (.chan (capOf n) #[] false 0 0 false)) 58 [.chan (some w.heap.size)]
  rw [World.size_alloc] at hp
  have hB : Below w.heap.size w ((w.alloc (.chan (capOf n) #[] false 0 0 false)).alloc (.cells #[.chan (some w.heap.size)] 58)) := ((Below.refl _ w).alloc (Nat.le_refl _) _).alloc (by simp) _
  go_enter Tryd.func19, Tryd.ntmps19
  go_wp2_with fail
  all_goals
    go_ret
    exact ⟨w.heap.size + 1, rfl, Nat.le_succ _, w.heap.size, Nat.le_refl _, ⟨hp, hc, Nat.zero_le _, by simp⟩, hB⟩
theorem Len_runs (w : World) (Q : Nat → Prop) (p c N : Nat) (Fs : List Sl) (h : BoxAt w Q p c N Fs) : Calls Tryd.prog 23 #[.pointer (some ⟨p, 0, none⟩)] w fun e w' => e = .returned (.int .i64 (Fs.length : Int)) ∧ w = w' := by
  have c0 := h.ptr.cellAt (i := 0) rfl
  obtain ⟨s, r, hc⟩ := h.chan
  have hl := fun ty => run_len_chan (P := Tryd.prog) 56 ty Tryd.underlying56 hc
  go_enter Tryd.func23, Tryd.ntmps23
  go_wp2_with fail
  go_ret
  exact ⟨rfl, rfl⟩
end Go.Proofs.YteiaiicdemmcoaaDoor
