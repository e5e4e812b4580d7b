/- The contract of codec.Read: for whatever call, by its own contract. -/
import Derived.Test.YthacenajocchcaaCodR
import Derived.Test.YthacenajocchcaaAnch03
import Derived.Defers
import Derived.Recover
import Derived.Laws.Pointers
namespace Go.Proofs.Ythacenajocchcaa
open Go.RowKit

theorem assert_nil (w : World) : (Instr.typeAssert .nilIface 20 74 true).run Try.prog w = .ok (.tuple #[.agg #[], .bool false]) w := by kernel_rfl
theorem assert_ours (w : World) : (Instr.typeAssert (.iface 74 (.agg #[])) 20 74 true).run Try.prog w = .ok (.tuple #[.agg #[], .bool true]) w := by kernel_rfl
theorem store_none (w : World) (p : Addr) : (Instr.storeAt 74 (.pointer (some p)) (.agg #[])).run Try.prog w = .ok () w := by kernel_rfl

/-- The deferred function: the Reader is emptied; what it threw itself is taken back. -/
theorem catch_idle (p g : Nat) (x y : Value) (w : World) (hp : Blk w p 33 #[.pointer (some ⟨g, 0, none⟩)]) (hg : Blk w g 72 #[x, y]) :
    CallsD Try.prog 33 #[.pointer (some ⟨p, 0, none⟩)] .returning w fun e u' w' => e = .returned (.tuple #[]) ∧ u' = .returning ∧ Only (· = g) w w' := by
  have h1 : w.cell? ⟨p, 0, none⟩ = some (.pointer (some ⟨g, 0, none⟩)) := by rw [hp.cell]; rfl
  have h2 : w.cell? ⟨g, 0, none⟩ = some x := by rw [hg.cell]; rfl
  have h3 := hg.frozen 0
  have ha := assert_nil
  refine callsD_of_wpS Try.func33 rfl fun c₀ cs hu => ?_
  simp only [Try.ntmps33, List.size_toArray, List.length_cons, List.length_nil, Nat.reduceAdd, Nat.reduceSub, Array.replicate_succ, Array.replicate_zero, List.push_toArray, List.append_toArray, List.nil_append, List.cons_append]
  apply wpS_seq
  apply wpS_region
  simp [wpOpsS, go_sem, h1, h2, h3, Exit.thenS]
  apply wpS_seq
  apply wpS_region
  simp [wpOpsS, go_sem, recoverD, hu, Exit.thenS]
  refine wpS_of_wp ?_
  go_wp2
  simp [bodyPostS, results, Try.results33]
  refine ⟨.returning, ?_, rfl, (((Only.refl (· = g) w).setCell (p := ⟨g, 0, none⟩) (.inl rfl) _).alloc _)⟩
  cases c₀
  simp_all
theorem catch_ours (p g : Nat) (x y : Value) (w : World) (hp : Blk w p 33 #[.pointer (some ⟨g, 0, none⟩)]) (hg : Blk w g 72 #[x, y]) :
    CallsD Try.prog 33 #[.pointer (some ⟨p, 0, none⟩)] (.panicking thrown) w fun e u' w' => e = .returned (.tuple #[]) ∧ u' = .panicking [{ v := .iface 74 (.agg #[]), recovered := true }] ∧ Only (· = g) w w' := by
  have h1 : w.cell? ⟨p, 0, none⟩ = some (.pointer (some ⟨g, 0, none⟩)) := by rw [hp.cell]; rfl
  have h2 : w.cell? ⟨g, 0, none⟩ = some x := by rw [hg.cell]; rfl
  have h3 := hg.frozen 0
  have ha := assert_ours
  refine callsD_of_wpS Try.func33 rfl fun c₀ cs hu => ?_
  simp only [Try.ntmps33, List.size_toArray, List.length_cons, List.length_nil, Nat.reduceAdd, Nat.reduceSub, Array.replicate_succ, Array.replicate_zero, List.push_toArray, List.append_toArray, List.nil_append, List.cons_append]
  apply wpS_seq
  apply wpS_region
  simp [wpOpsS, go_sem, h1, h2, h3, Exit.thenS]
  apply wpS_seq
  apply wpS_region
  simp [wpOpsS, go_sem, recoverD, hu, thrown, Exit.thenS]
  refine wpS_of_wp ?_
  go_wp2
  simp [bodyPostS, results, Try.results33]
  exact (((Only.refl (· = g) w).setCell (p := ⟨g, 0, none⟩) (.inl rfl) _).alloc _)

theorem isnt_nil (F : Nat) (cap : Array Value) (w : World) : (binOp .eql 35 (.func (.func F) #[] cap) .nilFunc).run Try.prog w = .ok (.bool false) w := by kernel_rfl

/-- How a call that reads ends: it came to its end with r left, or gave up. -/
def Calling (g : Nat) (T : Nat → Prop) (Q : Option (List Int) → World → Prop) (w1 : World) (e : Ending) (w2 : World) : Prop :=
  Only (fun i => i = g ∨ T i) w1 w2 ∧ ((∃ r, e = .returned (.tuple #[]) ∧ Rd w2 g T r false ∧ Q (some r) w2) ∨ (e = .panicked thrown ∧ (∃ r, Rd w2 g T r true) ∧ Q none w2))
def endB : Option (List Int) → Bool
  | some [] => true
  | _ => false
/-- How Read ends. -/
def ReadEnd (T : Nat → Prop) (Q : Option (List Int) → World → Prop) (w : World) (e : Ending) (w' : World) : Prop :=
  ∃ x w2, Q x w2 ∧ Only (· = w.heap.size) w2 w' ∧ Only T w w' ∧ e = .returned (.bool (endB x))

set_option maxRecDepth 100000 in
set_option maxHeartbeats 1000000 in
theorem read_any (F : Nat) (cap : Array Value) (hF : ∀ (args : Array Value) (w : World), (callFunc F args).run Try.prog w = .ok (.enter F args) w) (A : Option Addr) (n c : Nat) (bs : List Int) (w : World) (hr : Reads w w.heap.size 1 A n (bs.map (Value.int .u8))) (hnc : n ≤ c) (hcm : c ≤ maxLen)
    (T : Nat → Prop) (Q : Option (List Int) → World → Prop) (hT : ∀ ad, 0 < n → A = some ad → ¬ T ad.block) (hS : ∀ i, T i → i < w.heap.size)
    (hcall : ∀ w1, Below w.heap.size w w1 → w.heap.size + 2 ≤ w1.heap.size → Rd w1 w.heap.size T bs false → Calls Try.prog F (#[.pointer (some ⟨w.heap.size, 0, none⟩)] ++ cap) w1 (Calling w.heap.size T Q w1)) :
    Calls Try.prog 12 #[.slice A n c, .func (.func F) #[] cap] w (ReadEnd T Q w) := by
  have hmf : ∀ (fn : Fn) (first cap : Array Value) (w : World), (Instr.makeFunc fn first cap).run Try.prog w = .ok (.func fn first cap) w := fun _ _ _ _ => rfl
  have hnf := isnt_nil F cap
  go_enter_defers Try.func12, Try.ntmps12
  go_wp2_with fail
  have hg : Blk ((w.alloc (.cells #[.slice A n c, .bool false] 72)).alloc (.cells #[.pointer (some ⟨w.heap.size, 0, none⟩)] 33)) w.heap.size 72 #[.slice A n c, .bool false] := (Blk.new w _ _).alloc _
  have hp : Blk ((w.alloc (.cells #[.slice A n c, .bool false] 72)).alloc (.cells #[.pointer (some ⟨w.heap.size, 0, none⟩)] 33)) (w.heap.size + 1) 33 #[.pointer (some ⟨w.heap.size, 0, none⟩)] := by
    have := Blk.new (w.alloc (.cells #[.slice A n c, .bool false] 72)) 33 #[.pointer (some ⟨w.heap.size, 0, none⟩)]
    simpa using this
  have hb1 : Below w.heap.size w ((w.alloc (.cells #[.slice A n c, .bool false] 72)).alloc (.cells #[.pointer (some ⟨w.heap.size, 0, none⟩)] 33)) := ((Below.refl _ _).alloc (Nat.le_refl _) _).alloc (by simp) _
  have hs1 : ((w.alloc (.cells #[.slice A n c, .bool false] 72)).alloc (.cells #[.pointer (some ⟨w.heap.size, 0, none⟩)] 33)).heap.size = w.heap.size + 2 := by simp
  refine (hcall _ hb1 (by omega) ⟨A, n, c, hg, hr.below hb1, hnc, hcm, hT⟩).mono ?_
  clear hcall
  generalize ((w.alloc (.cells #[.slice A n c, .bool false] 72)).alloc (.cells #[.pointer (some ⟨w.heap.size, 0, none⟩)] 33)) = w1 at hb1 hs1 hg hp
  rintro e w2 ⟨hO, hE⟩
  have hO2 : Only T w w2 := (only_of_below hb1 T).trans hO (fun i hi => hi.elim (fun e => .inr (by omega)) .inl)
  have hp2 := hp.only hO (fun e => e.elim (fun e => by omega) (fun e => by have := hS _ e; omega))
  have hs2 := hO.size
  rcases hE with ⟨r, rfl, hR, hQ⟩ | ⟨rfl, ⟨r, hR⟩, hQ⟩
  · obtain ⟨A2, n2, c2, hB, hr2, hnc2, hcm2, hT2⟩ := hR
    have hl2 : r.length = n2 := by have := hr2.1; simpa using this
    have c1 : w2.cell? ⟨w.heap.size + 1, 0, none⟩ = some (.pointer (some ⟨w.heap.size, 0, none⟩)) := by rw [hp2.cell]; rfl
    have c3 : w2.cell? ⟨w.heap.size, 0, none⟩ = some (.slice A2 n2 c2) := by rw [hB.cell]; rfl
    have c4 : w2.cell? ⟨w.heap.size, 1, none⟩ = some (.bool false) := by rw [hB.cell]; rfl
    have HL := hide hl2
    clear hl2
    go_wp2_with fail
    refine leaves_cons (f := 33) (args := #[.pointer (some ⟨w.heap.size + 1, 0, none⟩)]) (by simp) (by simp [go_sem]) ?_
    refine (catch_idle _ _ _ _ _ hp2 hB).mono ?_
    rintro e u' w3 ⟨rfl, rfl, hO3⟩
    have he : ((n2 : Int) == 0) = endB (some r) := by
      have := HL.out
      cases r with
      | nil => subst this; rfl
      | cons x r => simp at this; simp [endB]; omega
    have hO3' : Only T w w3 := hO2.trans hO3 (fun i hi => .inr (by omega))
    rw [he]
    simp only [Leaves, settle, results, Try.results12]
    exact ⟨_, by simp [go_sem], some r, w2, hQ, hO3, hO3', rfl⟩
  · obtain ⟨A2, n2, c2, hB, hr2, hnc2, hcm2, hT2⟩ := hR
    refine leaves_cons (f := 33) (args := #[.pointer (some ⟨w.heap.size + 1, 0, none⟩)]) (by simp [thrown]) (by simp [go_sem]) ?_
    refine (catch_ours _ _ _ _ _ hp2 hB).mono ?_
    rintro e u' w3 ⟨rfl, rfl, hO3⟩
    have hO3' : Only T w w3 := hO2.trans hO3 (fun i hi => .inr (by omega))
    show Leaves _ _ _ _ [] .returning _
    simp only [Leaves, results, Try.results12]
    exact ⟨_, by simp [go_sem, endB], none, w2, hQ, hO3, hO3', rfl⟩
end Go.Proofs.Ythacenajocchcaa
