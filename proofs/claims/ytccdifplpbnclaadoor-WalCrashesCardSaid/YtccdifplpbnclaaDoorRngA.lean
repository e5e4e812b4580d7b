/- A range over a function whose round makes its own variables: a law for the statement. -/
import Derived.Test.YtccdifplpbnclaaDoorOnly
import Derived.RangeFuncFrom
import Derived.RangeFuncKeeps
namespace Go.Proofs.YtccdifplpbnclaaDoor
open Go.RowKit

section
variable {F : Fence} {n : Nat} {P : Program} {α : Type}
/-- The loop's record. -/
def recOf (fn : FuncId) (a : Act) (ps : Array Tmp) (assign body : Code) (D : Nat) (st : LoopState) (pe : Option Code) : Loop :=
  { state := st, pending := pe, fn := fn, tmps := a.tmps, params := ps, assign := assign, body := body, defers := D }
/-- What the loop's two blocks hold. -/
def Blocks (w : World) (r : Loop) (W : World) : Prop := W.heap[w.heap.size + 1]? = some (.loop r) ∧ W.heap[w.heap.size]? = some (.deferred (some []))
theorem Blocks.step {w W W' : World} {r : Loop} {row : Option Nat} (h : Blocks w r W) (hg : W.grownBy W' row) (hr : ∀ i, row = some i → ∃ o : Obj, W.heap[i]? = some o ∧ o.isWalk = true) : Blocks w r W' :=
  ⟨(grownBy_keeps hg hr h.1 rfl).trans h.1, (grownBy_keeps hg hr h.2 rfl).trans h.2⟩
theorem Blocks.put {w W : World} {r r' : Loop} (h : Blocks w r W) : Blocks w r' (W.putObj (w.heap.size + 1) (.loop r')) :=
  ⟨World.putObj_heap_same (Array.getElem?_eq_some_iff.1 h.1).1, (World.putObj_heap_other (by omega)).trans h.2⟩
theorem Blocks.keeps {w W W' : World} {r : Loop} (h : Blocks w r W) (k : KeepsOthers W W') : Blocks w r W' := ⟨k.same _ _ h.1 rfl, k.same _ _ h.2 rfl⟩

theorem range_own {g : Operand} {ps : Array Tmp} {assign body : Code} {Q : Exit → Act → World → Prop} {a : Act} {w : World}
    (hro : F.round = none) (h1 : 1 ≤ n) {gf : Nat} {lb : Array Value} (hg : a.eval g = .func (.func gf) #[] lb) (hF : F.fn gf) (eg : ∀ args w, (callFunc gf args).run P w = .ok (.enter gf args) w)
    {encs : α → Array Value} {Kp : World → World → Prop} {S Sp : List α → Prop} {N : Nat} (hseq : SeqStopsK F (n - 1) P gf lb encs Kp S Sp N w)
    (hKt : ∀ {A B C : World}, Kp A B → Kp B C → Kp A C) (hKb : ∀ (W : World) (o o' : Obj), W.heap[w.heap.size + 1]? = some o → Kp W (W.putObj (w.heap.size + 1) o')) (hps : ∀ x, (encs x).size = ps.size)
    (I : List α → World → Prop) (Ix : Code → List α → World → Prop) (hI : OwnFrom w.heap.size I) (hIx : ∀ c, OwnFrom w.heap.size (Ix c)) (h0 : I [] w)
    (hround : ∀ (l : Nat) (pre : List α) (x : α) (W : World), I pre W → pre.length < N →
      assign.wpIn (F.inRound l) (n - 1 - 1) P (Exit.then (fun a₁ w₁ => KeepsOthers W w₁ ∧ Kp W w₁ ∧ ∀ W₂, w₁.grownBy W₂ (some (w.heap.size + 1)) → (∃ o : Obj, w₁.heap[w.heap.size + 1]? = some o ∧ o.isCells = false) → body.wpIn (F.inRound l) (n - 1 - 1) P (ownPostK Kp I Ix (pre ++ [x]) W₂) a₁ W₂) (fun _ _ _ => False))
        { tmps := (ps.zip (encs x)).foldl (fun t (p, v) => t.setIfInBounds p v) a.tmps, defers := [] } W)
    (hdone : ∀ (xs : List α) (W : World), S xs → I xs W → W.heap[w.heap.size]? = some (.deferred (some [])) → Q .normal { a with defers := { target := .collected w.heap.size, args := #[] } :: a.defers } W)
    (hstop : ∀ (c : Code) (pre : List α) (W : World), Sp pre → Ix c pre W → W.heap[w.heap.size]? = some (.deferred (some [])) → c.wpIn F n P Q { a with defers := { target := .collected w.heap.size, args := #[] } :: a.defers } W) :
    (Code.rangeFunc g ps assign body).wpIn F n P Q a w := by
  refine wpIn_rangeFunc fun fn hfn => ?_
  rw [hro]
  have hnew := World.alloc_heap_new (w.alloc (.deferred (some []))) (.loop (recOf fn a ps assign body w.heap.size .ready none))
  rw [World.size_alloc] at hnew
  have hblk : Blocks w (recOf fn a ps assign body w.heap.size .ready none) ((w.alloc (.deferred (some []))).alloc (.loop (recOf fn a ps assign body w.heap.size .ready none))) :=
    ⟨hnew, (Below.heap_alloc _ _ _ (by simp)).trans (World.alloc_heap_new w _)⟩
  have hI1 : I [] ((w.alloc (.deferred (some []))).alloc (.loop (recOf fn a ps assign body w.heap.size .ready none))) := hI.alloc _ (hI.alloc _ h0)
  have hb1 : Below w.heap.size w ((w.alloc (.deferred (some []))).alloc (.loop (recOf fn a ps assign body w.heap.size .ready none))) := ((Below.refl _ w).alloc (Nat.le_refl _) _).alloc (by simp) _
  have hen : (Instr.enterLoop fn a.tmps ps assign body none).run P w = .ok (w.heap.size + 1, [{ target := .collected w.heap.size, args := #[] }]) ((w.alloc (.deferred (some []))).alloc (.loop (recOf fn a ps assign body w.heap.size .ready none))) := run_enterLoop_outer _ _ _ _ _
  have hsz : ((w.alloc (.deferred (some []))).alloc (.loop (recOf fn a ps assign body w.heap.size .ready none))).heap.size = w.heap.size + 2 := by simp
  generalize (w.alloc (.deferred (some []))).alloc (.loop (recOf fn a ps assign body w.heap.size .ready none)) = W1 at *
  refine ⟨w.heap.size + 1, _, W1, { target := .fn (.func gf) lb, args := #[.func (.yield (w.heap.size + 1)) #[] #[]] }, W1, gf, #[.func (.yield (w.heap.size + 1)) #[] #[]] ++ lb, W1, hen, ?_, ?_, ?_, fun _ => h1, ?_⟩
  · simp only [resolve, hg]
    simp [go_sem]
  · intro f' hf'
    simp [Target.leads] at hf'
    subst hf'
    exact hF
  · simp [invoke, go_sem, eg]
  · have walkRow : ∀ {A : World} {row : Option Nat}, (∀ r, row = some r → W1.heap.size ≤ r ∧ ∃ o : Obj, A.heap[r]? = some o ∧ o.isWalk = true) → ∀ r, row = some r → w.heap.size ≤ r ∧ ∃ o : Obj, A.heap[r]? = some o ∧ o.isCells = false := by
      intro A row hr r e
      obtain ⟨hB, o, ho, hw⟩ := hr r e
      exact ⟨by omega, o, ho, Obj.not_cells_of_walk hw⟩
    refine (hseq (w.heap.size + 1) (fun pre W => I pre W ∧ Blocks w (recOf fn a ps assign body w.heap.size .ready none) W) (fun pre W => ∃ c, Ix c pre W ∧ Blocks w (recOf fn a ps assign body w.heap.size .done (some c)) W) W1 hb1 ?_ ?_ ?_ ⟨hI1, hblk⟩).mono ?_
    · intro s A B row hs hgr hr
      exact ⟨hI s A B row hs.1 hgr (walkRow hr), hs.2.step hgr fun r e => (hr r e).2⟩
    · rintro s A B row ⟨c, hc, hs⟩ hgr hr
      exact ⟨c, hIx c s A B row hc hgr (walkRow hr), hs.step hgr fun r e => (hr r e).2⟩
    · rintro pre x W ⟨hi, hbk⟩ hlen
      refine ⟨fn, _, assign, body, run_yield hbk.1 (hps x), roundIn_of_wpIn hfn (wpIn_mono (hround (w.heap.size + 1) pre x W hi hlen) ?_)⟩
      rintro e a₁ w₁ hp
      cases e with
      | normal =>
        obtain ⟨hk, hkp, hbody⟩ := hp
        have hbk1 := hbk.keeps hk
        have hput : w₁.grownBy (w₁.putObj (w.heap.size + 1) (.loop (recOf fn a ps assign body w.heap.size .busy none))) (some (w.heap.size + 1)) := grownBy_putObj' _ _ _
        refine ⟨_, run_beginRound hbk1.1 rfl, wpIn_mono (hbody _ hput ⟨_, hbk1.1, rfl⟩) ?_⟩
        have hkb := hKb w₁ _ (.loop (recOf fn a ps assign body w.heap.size .busy none)) hbk1.1
        have hbk2 := hbk1.put (r' := recOf fn a ps assign body w.heap.size .busy none)
        have fin : ∀ (W3 : World) (j : Option Code), KeepsOthers (w₁.putObj (w.heap.size + 1) (.loop (recOf fn a ps assign body w.heap.size .busy none))) W3 →
            (Instr.endRound (w.heap.size + 1) j).run P W3 = .ok (.bool j.isNone) (W3.putObj (w.heap.size + 1) (.loop (recOf fn a ps assign body w.heap.size (if j.isNone then .ready else .done) j))) ∧ Blocks w (recOf fn a ps assign body w.heap.size .busy none) W3 ∧
            Blocks w (recOf fn a ps assign body w.heap.size (if j.isNone then .ready else .done) j) (W3.putObj (w.heap.size + 1) (.loop (recOf fn a ps assign body w.heap.size (if j.isNone then .ready else .done) j))) := fun W3 j k3 =>
          ⟨run_endRound j (hbk2.keeps k3).1, hbk2.keeps k3, (hbk2.keeps k3).put⟩
        rintro e a3 W3 hp3
        cases e with
        | normal =>
          obtain ⟨k3, kp3, i3⟩ := hp3
          obtain ⟨r1, r2, r3⟩ := fin W3 none k3
          exact ⟨_, _, r1, .inl ⟨rfl, ⟨hI.putObj _ i3 (by omega) r2.1 rfl, r3⟩, hKt (hKt (hKt hkp hkb) kp3) (hKb W3 _ _ r2.1)⟩⟩
        | ret =>
          obtain ⟨k3, i3⟩ := hp3
          obtain ⟨r1, r2, r3⟩ := fin W3 (some .ret) k3
          exact ⟨_, _, r1, .inr ⟨rfl, .ret, (hIx _).putObj _ i3 (by omega) r2.1 rfl, r3⟩⟩
        | exit id =>
          obtain ⟨k3, i3⟩ := hp3
          obtain ⟨r1, r2, r3⟩ := fin W3 (some (.exit id)) k3
          exact ⟨_, _, r1, .inr ⟨rfl, .exit id, (hIx _).putObj _ i3 (by omega) r2.1 rfl, r3⟩⟩
        | goto t =>
          obtain ⟨k3, i3⟩ := hp3
          obtain ⟨r1, r2, r3⟩ := fin W3 (some (.goto t)) k3
          exact ⟨_, _, r1, .inr ⟨rfl, .goto t, (hIx _).putObj _ i3 (by omega) r2.1 rfl, r3⟩⟩
        | panic ch => exact hp3.elim
        | outgrown => exact hp3.elim
      | ret => exact hp.elim
      | exit id => exact hp.elim
      | goto t => exact hp.elim
      | panic ch => exact hp.elim
      | outgrown => exact hp.elim
    · rintro e W2 ⟨⟨v, rfl⟩, hend⟩
      rcases hend with ⟨xs, hS, hi, hbk⟩ | ⟨pre, hSp, c, hi, hbk⟩
      · exact ⟨none, _, run_endLoop hbk.1 (by simp [recOf]), hdone xs _ hS (hI.putObj _ hi (by omega) hbk.1 rfl) ((World.putObj_heap_other (by omega)).trans hbk.2)⟩
      · exact ⟨some c, _, run_endLoop hbk.1 (by simp [recOf]), hstop c pre _ hSp ((hIx c).putObj _ hi (by omega) hbk.1 rfl) ((World.putObj_heap_other (by omega)).trans hbk.2)⟩
end
end Go.Proofs.YtccdifplpbnclaaDoor
