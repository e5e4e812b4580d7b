/- Views in plain words: what joining and leaving make of one; what stays so. -/
import Derived.Test.YtoknodkgmeinmaaBits
import Derived.Test.YtoknodkgmeinmaaVwA
namespace Go.Proofs.Ytoknodkgmeinmaa
open Go.RowKit

structure V where
  e : Nat
  m : Nat
  h : List Nat
def V.heir (v : V) (i : Nat) : Nat := v.h.getD i 0
/-- Its cells. -/
def zH (h : List Nat) : List Int := h.map fun (n : Nat) => (n : Int)
def zV (v : V) : List Int := (v.e : Int) :: (v.m : Int) :: zH v.h
structure V.Ok (v : V) : Prop where
  len : v.h.length = 5
  e1 : 1 ≤ v.e
  m1 : 0 < v.m
  m2 : v.m < 32
  hs : ∀ i, i < 5 → v.heir i ≠ 0 → v.heir i ≤ 5 ∧ v.m.testBit i = false ∧ v.m.testBit (v.heir i - 1) = true
def firstV : V := ⟨1, 7, [0, 0, 0, 0, 0]⟩
def joinV (v : V) (k : Nat) : V := ⟨v.e + 1, v.m ||| 2 ^ k, v.h⟩
def leaveV (v : V) (k j : Nat) : V := ⟨v.e + 1, v.m ^^^ 2 ^ k, (List.range 5).map fun i => if v.heir i = k + 1 ∨ i = k then j + 1 else v.heir i⟩
/-- Is a machine a member? -/
def inV (m : Nat) (who : Int) : Bool := inK who 5 && m.testBit who.toNat
theorem inV_nat {m k : Nat} (hk : k < 5) : inV m (k : Int) = m.testBit k := by
  rw [inV, inK_true.2 ⟨by omega, by omega⟩, Bool.true_and]; rfl
theorem inV_out {m : Nat} {z : Int} (h : inK z 5 = false) : inV m z = false := by rw [inV, h]; rfl
theorem inK_nat {z : Int} (h : inK z 5 = true) : ∃ k : Nat, z = (k : Int) ∧ k < 5 := by
  have := inK_true.1 h
  exact ⟨z.toNat, by omega, by omega⟩
theorem inV_true {m : Nat} {z : Int} (h : inV m z = true) : ∃ k : Nat, z = (k : Int) ∧ k < 5 ∧ m.testBit k = true := by
  unfold inV at h
  rw [Bool.and_eq_true] at h
  obtain ⟨k, rfl, hk⟩ := inK_nat h.1
  exact ⟨k, rfl, hk, h.2⟩
def canJoin (v : V) (who : Int) : Bool := inK who 5 && !v.m.testBit who.toNat && v.heir who.toNat == 0
def canLeave (v : V) (who heir : Int) : Bool := inV v.m who && inV v.m heir && !(heir == who)
/-- What a change makes. -/
def nextV (v : V) (k who heir : Int) : Option V :=
  if k = 0 then (if canJoin v who = true then some (joinV v who.toNat) else none)
  else if k = 1 then (if canLeave v who heir = true then some (leaveV v who.toNat heir.toNat) else none)
  else none
/-- A change as its cells. -/
def nextL (v : V) (c : List Int) : Option V := nextV v (c.getD 0 0) (c.getD 1 0) (c.getD 2 0)
/-- What is answered: the cells of a view, and an error. -/
def resVw : Option V → List Int
  | none => zeros 7
  | some v => zV v
def resE : Option V → Int
  | none => 5
  | some _ => 0
theorem canJoin_true {v : V} {who : Int} (h : canJoin v who = true) : ∃ k : Nat, who = (k : Int) ∧ k < 5 ∧ v.m.testBit k = false ∧ v.heir k = 0 := by
  simp only [canJoin, Bool.and_eq_true, Bool.not_eq_true', beq_iff_eq] at h
  obtain ⟨k, rfl, hk⟩ := inK_nat h.1.1
  exact ⟨k, rfl, hk, h.1.2, h.2⟩
theorem canLeave_true {v : V} {who heir : Int} (h : canLeave v who heir = true) : ∃ k j : Nat, who = (k : Int) ∧ heir = (j : Int) ∧ k < 5 ∧ j < 5 ∧ v.m.testBit k = true ∧ v.m.testBit j = true ∧ j ≠ k := by
  simp only [canLeave, Bool.and_eq_true, Bool.not_eq_true', beq_eq_false_iff_ne] at h
  obtain ⟨k, rfl, hk, h1⟩ := inV_true h.1.1
  obtain ⟨j, rfl, hj, h2⟩ := inV_true h.1.2
  exact ⟨k, j, rfl, rfl, hk, hj, h1, h2, fun e => h.2 (by rw [e])⟩
/-- Of what a change makes: it is of a member that joins, or that leaves. -/
theorem nextV_some {v u : V} {k who heir : Int} (h : nextV v k who heir = some u) :
    (k = 0 ∧ ∃ q : Nat, who = (q : Int) ∧ q < 5 ∧ v.m.testBit q = false ∧ v.heir q = 0 ∧ u = joinV v q) ∨
    (k = 1 ∧ ∃ q j : Nat, who = (q : Int) ∧ heir = (j : Int) ∧ q < 5 ∧ j < 5 ∧ v.m.testBit q = true ∧ v.m.testBit j = true ∧ j ≠ q ∧ u = leaveV v q j) := by
  unfold nextV at h
  split at h
  · rename_i hk
    split at h
    · rename_i hc
      obtain ⟨q, rfl, hq, h1, h2⟩ := canJoin_true hc
      injection h with h
      exact .inl ⟨hk, q, rfl, hq, h1, h2, h.symm⟩
    · cases h
  · split at h
    · rename_i hk
      split at h
      · rename_i hc
        obtain ⟨q, j, rfl, rfl, hq, hj, h1, h2, h3⟩ := canLeave_true hc
        injection h with h
        exact .inr ⟨hk, q, j, rfl, rfl, hq, hj, h1, h2, h3, h.symm⟩
      · cases h
    · cases h
theorem leaveV_heir (v : V) (k j : Nat) {i : Nat} (hi : i < 5) : (leaveV v k j).heir i = if v.heir i = k + 1 ∨ i = k then j + 1 else v.heir i := by
  have e : (leaveV v k j).h = (List.range 5).map fun i => if v.heir i = k + 1 ∨ i = k then j + 1 else v.heir i := rfl
  rw [show (leaveV v k j).heir i = (leaveV v k j).h.getD i 0 from rfl, e]
  simp [hi]
theorem joinV_heir (v : V) (k i : Nat) : (joinV v k).heir i = v.heir i := rfl
theorem joinV_bit (v : V) (k i : Nat) : (joinV v k).m.testBit i = (v.m.testBit i || decide (k = i)) := by
  simp [joinV, Nat.testBit_or, Nat.testBit_two_pow]
theorem leaveV_bit (v : V) (k j i : Nat) : (leaveV v k j).m.testBit i = (v.m.testBit i ^^ decide (k = i)) := by
  simp [leaveV, Nat.testBit_xor, Nat.testBit_two_pow]
theorem pos_of_bit {m i : Nat} (h : m.testBit i = true) : 0 < m := by
  rcases Nat.eq_zero_or_pos m with rfl | h0
  · simp at h
  · exact h0
theorem firstV_ok : firstV.Ok := ⟨rfl, by decide, by decide, by decide, fun i hi h => by
  exfalso
  match i, hi with
  | 0, _ => exact h rfl
  | 1, _ => exact h rfl
  | 2, _ => exact h rfl
  | 3, _ => exact h rfl
  | 4, _ => exact h rfl⟩
theorem pow_lt32 {k : Nat} (hk : k < 5) : 2 ^ k < 2 ^ 5 := Nat.pow_lt_pow_right (by omega) hk
theorem V.Ok.join {v : V} (h : v.Ok) {k : Nat} (hk : k < 5) (h0 : v.heir k = 0) : (joinV v k).Ok := by
  refine ⟨h.len, Nat.le_add_left _ _, pos_of_bit (i := k) (by rw [joinV_bit]; simp), Nat.or_lt_two_pow h.m2 (pow_lt32 hk), fun i hi hn => ?_⟩
  rw [joinV_heir] at hn ⊢
  obtain ⟨h1, h2, h3⟩ := h.hs i hi hn
  refine ⟨h1, ?_, ?_⟩
  · rw [joinV_bit, h2, decide_eq_false (fun e => hn (by rw [← e]; exact h0))]; rfl
  · rw [joinV_bit, h3]; rfl
theorem V.Ok.leave {v : V} (h : v.Ok) {k j : Nat} (hk : k < 5) (hj : j < 5) (hbk : v.m.testBit k = true) (hbj : v.m.testBit j = true) (hne : j ≠ k) : (leaveV v k j).Ok := by
  have bj : (leaveV v k j).m.testBit j = true := by rw [leaveV_bit, hbj, decide_eq_false (fun e => hne e.symm)]; rfl
  refine ⟨by simp [leaveV], Nat.le_add_left _ _, pos_of_bit bj, Nat.xor_lt_two_pow h.m2 (pow_lt32 hk), fun i hi hn => ?_⟩
  rw [leaveV_heir v k j hi] at hn ⊢
  split at hn
  · rename_i hc
    rw [if_pos hc]
    refine ⟨by omega, ?_, by simpa using bj⟩
    rw [leaveV_bit]
    by_cases e : i = k
    · subst e; rw [hbk]; simp
    · obtain ⟨_, h2, _⟩ := h.hs i hi (by rcases hc with hc | hc; rw [hc]; omega; exact (e hc).elim)
      rw [h2, decide_eq_false (fun e' => e e'.symm)]; rfl
  · rename_i hc
    rw [if_neg hc]
    obtain ⟨h1, h2, h3⟩ := h.hs i hi hn
    refine ⟨h1, ?_, ?_⟩
    · rw [leaveV_bit, h2, decide_eq_false (fun e => hc (.inr e.symm))]; rfl
    · rw [leaveV_bit, h3, decide_eq_false (fun e => hc (.inl (by omega)))]; rfl
theorem nextV_ok {v u : V} (h : v.Ok) {k who heir : Int} (hn : nextV v k who heir = some u) : u.Ok ∧ u.e = v.e + 1 := by
  rcases nextV_some hn with ⟨_, q, _, hq, _, h2, rfl⟩ | ⟨_, q, j, _, _, hq, hj, h1, h2, h3, rfl⟩
  · exact ⟨h.join hq h2, rfl⟩
  · exact ⟨h.leave hq hj h1 h2 h3, rfl⟩
theorem zH_length (h : List Nat) : (zH h).length = h.length := by simp [zH]
theorem zV_length {v : V} (h : v.h.length = 5) : (zV v).length = 7 := by simp [zV, zH, h]
theorem zH_getD (h : List Nat) (k : Nat) : (zH h).getD k 0 = ((h.getD k 0 : Nat) : Int) := by
  simp only [zH, List.getD, List.getElem?_map]
  cases h[k]? <;> rfl
theorem V.Ok.heir_le {v : V} (h : v.Ok) {i : Nat} (hi : i < 5) : v.heir i ≤ 5 := by
  by_cases h0 : v.heir i = 0
  · omega
  · exact (h.hs i hi h0).1
theorem V.Ok.wf {v : V} (h : v.Ok) (he : v.e < 1000000) : wf64 (zV v) := by
  intro z hz
  have key : ∀ n : Nat, n < 1000000 → (Lit.int .i64 (n : Int)).wf = true := fun n hn => by
    simp only [Lit.wf, Bool.and_eq_true, decide_eq_true_eq]
    exact ⟨Int.le_trans (show IntKind.i64.min ≤ 0 by decide) (by omega), Int.le_trans (show (n : Int) ≤ 1000000 by omega) (by decide)⟩
  unfold zV at hz
  rcases List.mem_cons.1 hz with rfl | hz
  · exact key _ he
  rcases List.mem_cons.1 hz with rfl | hz
  · exact key _ (by have := h.m2; omega)
  · obtain ⟨n, hn, rfl⟩ := List.mem_map.1 hz
    obtain ⟨i, hi, rfl⟩ := List.mem_iff_getElem.1 hn
    have := h.heir_le (i := i) (by rw [h.len] at hi; exact hi)
    have e : v.heir i = v.h[i] := by simp [V.heir, hi]
    exact key _ (by omega)
/-! ### the bits -/
theorem hasB_nat (m k : Nat) : hasB (m : Int) k = m.testBit k := by
  rw [hasB_eq, Nat.testBit_eq_decide_div_mod_eq]
  apply decide_eq_decide.2
  rw [show ((2 : Int) ^ k) = ((2 ^ k : Nat) : Int) by push_cast; rfl]
  omega
theorem or_bits : ∀ m : Fin 32, ∀ k : Fin 5, bits .or .i64 (m.val : Int) ((2 ^ k.val : Nat) : Int) = ((m.val ||| 2 ^ k.val : Nat) : Int) := by decide +kernel
theorem xor_bits : ∀ m : Fin 32, ∀ k : Fin 5, bits .xor .i64 (m.val : Int) ((2 ^ k.val : Nat) : Int) = ((m.val ^^^ 2 ^ k.val : Nat) : Int) := by decide +kernel
theorem andNot_bits : ∀ m : Fin 32, ∀ k : Fin 5, m.val.testBit k.val = true → bits .andNot .i64 (m.val : Int) ((2 ^ k.val : Nat) : Int) = ((m.val ^^^ 2 ^ k.val : Nat) : Int) := by decide +kernel
theorem wrap_pow {k : Nat} (hk : k < 5) : wrap64 ((2 : Int) ^ k) = ((2 ^ k : Nat) : Int) := by
  match k, hk with
  | 0, _ => decide +kernel
  | 1, _ => decide +kernel
  | 2, _ => decide +kernel
  | 3, _ => decide +kernel
  | 4, _ => decide +kernel
theorem or_is {m k : Nat} (hm : m < 32) (hk : k < 5) : bits .or .i64 (m : Int) (wrap64 (2 ^ k)) = ((m ||| 2 ^ k : Nat) : Int) := by
  rw [wrap_pow hk]; exact or_bits ⟨m, hm⟩ ⟨k, hk⟩
theorem xor_is {m k : Nat} (hm : m < 32) (hk : k < 5) : bits .xor .i64 (m : Int) (wrap64 (2 ^ k)) = ((m ^^^ 2 ^ k : Nat) : Int) := by
  rw [wrap_pow hk]; exact xor_bits ⟨m, hm⟩ ⟨k, hk⟩
theorem andNot_is {m k : Nat} (hm : m < 32) (hk : k < 5) (hb : m.testBit k = true) : bits .andNot .i64 (m : Int) (wrap64 (2 ^ k)) = ((m ^^^ 2 ^ k : Nat) : Int) := by
  rw [wrap_pow hk]; exact andNot_bits ⟨m, hm⟩ ⟨k, hk⟩ hb
end Go.Proofs.Ytoknodkgmeinmaa
