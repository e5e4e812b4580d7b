/- Law 12's own acceptors and its call, where its loops keep them. -/
import Derived.Test.YtfcoeopemgcjlaaBltF
import Derived.Test.YtfcoeopemgcjlaaCall12
namespace Go.Proofs.Ytfcoeopemgcjlaa
open Go.RowKit

def callL (tk : Bool) (ep r v k x j : Int) : List Value := [.bool tk, .int .i64 ep, .int .i64 r, .int .i64 v, .int .i64 k, .int .i64 x, .int .i64 j]
theorem callL_is (tk : Bool) (ep r v k x j : Int) : IsV 7 (callL tk ep r v k x j) := ⟨rfl, fun u hu => by simp [callL] at hu; rcases hu with rfl | rfl | rfl | rfl | rfl | rfl | rfl <;> rfl⟩
/-- Two acceptors and a call. -/
structure Rn (w0 : World) (p q g : Nat) (xa xm : List Int) (cs : List Value) (w : World) : Prop where
  a : IBlk w p 29 xa
  m : IBlk w q 29 xm
  c : VBlk w g 31 cs
  under : Below w0.heap.size w0 w
  p0 : w0.heap.size ≤ p
  q0 : w0.heap.size ≤ q
  pq : p ≠ q
  pg : p ≠ g
  qg : q ≠ g
section
variable {w0 w w' : World} {p q g : Nat} {xa xm : List Int} {cs : List Value}
theorem Rn.next (h : Rn w0 p q g xa xm cs w) (k : Below w.heap.size w w') : Rn w0 p q g xa xm cs w' :=
  ⟨h.a.below k h.a.lt, h.m.below k h.m.lt, h.c.below k h.c.lt, h.under.trans (k.mono h.under.size), h.p0, h.q0, h.pq, h.pg, h.qg⟩
theorem Rn.drew (h : Rn w0 p q g xa xm cs w) : Rn w0 p q g xa xm cs w.drew := ⟨h.a.drew, h.m.drew, h.c.drew, Below.drewR h.under, h.p0, h.q0, h.pq, h.pg, h.qg⟩
theorem Rn.fillA (h : Rn w0 p q g xa xm cs w) {bs : List Int} (hl : bs.length = xa.length) : Rn w0 p q g bs xm cs (w.setCells p 0 (iV bs)) :=
  ⟨h.a.fill hl, h.m.only (only_cells _ _ _ _) (fun e => h.pq e.symm), h.c.only (only_cells _ _ _ _) (fun e => h.pg e.symm), below_only h.under (only_cells w p 0 (iV bs)) (fun i (e : i = p) => by have := h.p0; omega) h.under.size, h.p0, h.q0, h.pq, h.pg, h.qg⟩
theorem Rn.setM (h : Rn w0 p q g xa xm cs w) {o : Nat} {xs : List Int} (hl : o + xs.length ≤ xm.length) : Rn w0 p q g xa (xm.take o ++ xs ++ xm.drop (o + xs.length)) cs (w.setCells q o (iV xs)) :=
  ⟨h.a.only (only_cells _ _ _ _) h.pq, h.m.setN hl, h.c.only (only_cells _ _ _ _) (fun e => h.qg e.symm), below_only h.under (only_cells w q o (iV xs)) (fun i (e : i = q) => by have := h.q0; omega) h.under.size, h.p0, h.q0, h.pq, h.pg, h.qg⟩
theorem Rn.fillM (h : Rn w0 p q g xa xm cs w) {bs : List Int} (hl : bs.length = xm.length) : Rn w0 p q g xa bs cs (w.setCells q 0 (iV bs)) :=
  ⟨h.a.only (only_cells _ _ _ _) h.pq, h.m.fill hl, h.c.only (only_cells _ _ _ _) (fun e => h.qg e.symm), below_only h.under (only_cells w q 0 (iV bs)) (fun i (e : i = q) => by have := h.q0; omega) h.under.size, h.p0, h.q0, h.pq, h.pg, h.qg⟩
end
/-- What the walk reads of a call. -/
theorem Rn.call {w0 w : World} {p q g : Nat} {xa xm : List Int} {tk : Bool} {ep r v k x j : Int} (h : Rn w0 p q g xa xm (callL tk ep r v k x j) w) :
    w.cell? ⟨g, 0, none⟩ = some (.bool tk) ∧ w.cell? ⟨g, 1, none⟩ = some (.int .i64 ep) ∧ w.cell? ⟨g, 2, none⟩ = some (.int .i64 r) ∧ w.cell? ⟨g, 3, none⟩ = some (.int .i64 v) ∧
      (rowAt w g 2 2 = iA [r, v] ∧ HasRow w g 2 2) ∧ (rowAt w g 4 3 = iA [k, x, j] ∧ HasRow w g 4 3) :=
  ⟨h.c.cellAt (i := 0) rfl, h.c.cellAt (i := 1) rfl, h.c.cellAt (i := 2) rfl, h.c.cellAt (i := 3) rfl, h.c.got 2 2 (by show 2 + 2 ≤ 7; decide), h.c.got 4 3 (by show 4 + 3 ≤ 7; decide)⟩
/-- What it reads of an acceptor. -/
theorem acc_got {w : World} {p : Nat} {t : TypeId} {a : Acc} (h : IBlk w p t (accL a)) :
    w.cell? ⟨p, 0, none⟩ = some (.int .i64 a.e) ∧ w.cell? ⟨p, 1, none⟩ = some (.int .i64 a.r) ∧ w.cell? ⟨p, 2, none⟩ = some (.int .i64 a.w) ∧
      (rowAt w p 0 8 = iA (accL a) ∧ HasRow w p 0 8) ∧ (rowAt w p 1 2 = iA [a.r, a.w] ∧ HasRow w p 1 2) ∧ (rowAt w p 3 2 = iA [a.hr, a.hw] ∧ HasRow w p 3 2) ∧ (rowAt w p 5 3 = iA [a.k, a.x, a.j] ∧ HasRow w p 5 3) :=
  ⟨h.cellAt 0 _ rfl, h.cellAt 1 _ rfl, h.cellAt 2 _ rfl, h.whole rfl, h.got 1 2 (by show 1 + 2 ≤ 8; decide), h.got 3 2 (by show 3 + 2 ≤ 8; decide), h.got 5 3 (by show 5 + 3 ≤ 8; decide)⟩
/-- What an acceptor has vowed is not less than what it took. -/
def Had (a : Acc) : Prop := lessB a.r a.w a.hr a.hw = false
theorem ask_had {a : Acc} (h : Had a) (e r v : Int) : Had (askA a e r v) := by
  unfold askA
  split
  · rename_i hh
    simp only [hearsB, Bool.and_eq_true, Bool.not_eq_true', lessB_false] at hh
    obtain ⟨_, h2⟩ := hh
    have h3 := lessB_false.1 h
    show lessB r v a.hr a.hw = false
    rw [lessB_false]
    omega
  · exact h
theorem put_had {a : Acc} (h : Had a) (e r v k x j : Int) : Had (putA a e r v k x j) := by
  unfold putA
  split
  · show lessB r v r v = false
    rw [lessB_false]
    omega
  · exact h
def wfA (a : Acc) : Prop := wf64 (accL a)
theorem ask_wf {a : Acc} (h : wfA a) {e r v : Int} (hr : (Lit.int .i64 r).wf = true) (hv : (Lit.int .i64 v).wf = true) : wfA (askA a e r v) := by
  unfold askA
  split
  · intro z hz
    simp only [wfA, wf64, accL, List.mem_cons, List.not_mem_nil, or_false] at h hz
    rcases hz with rfl | rfl | rfl | rfl | rfl | rfl | rfl | rfl
    · exact h _ (by simp)
    · exact hr
    · exact hv
    all_goals exact h _ (by simp)
  · exact h
theorem put_wf {a : Acc} (h : wfA a) {e r v k x j : Int} (hr : (Lit.int .i64 r).wf = true) (hv : (Lit.int .i64 v).wf = true) (hk : (Lit.int .i64 k).wf = true) (hx : (Lit.int .i64 x).wf = true) (hj : (Lit.int .i64 j).wf = true) : wfA (putA a e r v k x j) := by
  unfold putA
  split
  · intro z hz
    simp only [wfA, wf64, accL, List.mem_cons, List.not_mem_nil, or_false] at h hz
    rcases hz with rfl | rfl | rfl | rfl | rfl | rfl | rfl | rfl
    · exact h _ (by simp)
    all_goals assumption
  · exact h
theorem ask_e (a : Acc) (e r v : Int) : (askA a e r v).e = a.e := by unfold askA; split <;> rfl
theorem put_e (a : Acc) (e r v k x j : Int) : (putA a e r v k x j).e = a.e := by unfold putA; split <;> rfl
end Go.Proofs.Ytfcoeopemgcjlaa
