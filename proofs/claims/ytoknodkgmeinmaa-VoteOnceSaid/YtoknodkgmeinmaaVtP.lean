/- Votes in plain words: who vowed, what was told, who took. -/
import Derived.Test.YtoknodkgmeinmaaVwP
import Derived.Test.YtoknodkgmeinmaaBltP
namespace Go.Proofs.Ytoknodkgmeinmaa
open Go.RowKit

structure Vt where
  v : V
  r : Int
  w : Int
  c : List Int
  hr : Int
  hw : Int
  vo : Nat
  tk : Nat
def vtL (x : Vt) : List Int := zV x.v ++ ([x.r, x.w] ++ x.c ++ [x.hr, x.hw, (x.vo : Int), (x.tk : Int)])
structure Vt.Ok (x : Vt) : Prop where
  v : x.v.Ok
  c : x.c.length = 3
  vo : x.vo < 32
  tk : x.tk < 32
theorem vtL_length {x : Vt} (h : x.Ok) : (vtL x).length = 16 := by simp [vtL, zV_length h.v.len, h.c]
/-- Does it put? -/
def putsB (x : Vt) : Bool := mostB (x.vo : Int) (x.v.m : Int)
def cntB (x : Vt) (who r w : Int) : Bool := decide ([r, w] = [x.r, x.w]) && inV x.v.m who
/-- Is what it is told later than all before? -/
def laterB (x : Vt) (hr hw : Int) : Bool := decide (0 < hr) && lessB x.hr x.hw hr hw
def heardV (x : Vt) (hr hw : Int) (c : List Int) : Vt := if laterB x hr hw = true then { x with hr := hr, hw := hw, c := c } else x
def vowV (x : Vt) (who r w hr hw : Int) (c : List Int) : Vt :=
  if (putsB x = false ∧ cntB x who r w = true) then heardV { x with vo := x.vo ||| 2 ^ who.toNat } hr hw c else x
def vowB (x : Vt) (who r w hr hw : Int) (c : List Int) : Bool := !putsB x && (cntB x who r w && putsB (vowV x who r w hr hw c))
def takV (x : Vt) (who r w : Int) : Vt :=
  if (putsB x = true ∧ cntB x who r w = true) then { x with tk := x.tk ||| 2 ^ who.toNat } else x
def takB (x : Vt) (who r w : Int) : Bool := putsB x && (cntB x who r w && mostB ((takV x who r w).tk : Int) (x.v.m : Int))
section
variable {x : Vt} {who r w hr hw : Int} {c : List Int}
theorem cnt_who (h : cntB x who r w = true) : r = x.r ∧ w = x.w ∧ ∃ k : Nat, who = (k : Int) ∧ k < 5 ∧ x.v.m.testBit k = true := by
  simp only [cntB, Bool.and_eq_true, decide_eq_true_eq] at h
  obtain ⟨h1, h2⟩ := h
  injection h1 with e1 h1
  injection h1 with e2 _
  exact ⟨e1, e2, inV_true h2⟩
theorem heard_v (x : Vt) (hr hw : Int) (c : List Int) : (heardV x hr hw c).v = x.v ∧ (heardV x hr hw c).r = x.r ∧ (heardV x hr hw c).w = x.w ∧ (heardV x hr hw c).vo = x.vo ∧ (heardV x hr hw c).tk = x.tk := by
  unfold heardV; split <;> exact ⟨rfl, rfl, rfl, rfl, rfl⟩
theorem heard_puts (x : Vt) (hr hw : Int) (c : List Int) : putsB (heardV x hr hw c) = putsB x := by
  obtain ⟨h1, _, _, h2, _⟩ := heard_v x hr hw c
  rw [putsB, h1, h2]; rfl
theorem bit_lt {m k : Nat} (hm : m < 32) (hk : k < 5) : m ||| 2 ^ k < 32 := Nat.or_lt_two_pow hm (pow_lt32 hk)
theorem Vt.Ok.heard (h : x.Ok) (hc : c.length = 3) : (heardV x hr hw c).Ok := by
  unfold heardV; split
  · exact ⟨h.v, hc, h.vo, h.tk⟩
  · exact h
theorem Vt.Ok.vow (h : x.Ok) (hc : c.length = 3) : (vowV x who r w hr hw c).Ok := by
  unfold vowV; split
  · rename_i hh
    obtain ⟨_, _, k, rfl, hk, _⟩ := cnt_who hh.2
    exact Vt.Ok.heard ⟨h.v, h.c, bit_lt h.vo hk, h.tk⟩ hc
  · exact h
theorem Vt.Ok.tak (h : x.Ok) : (takV x who r w).Ok := by
  unfold takV; split
  · rename_i hh
    obtain ⟨_, _, k, rfl, hk, _⟩ := cnt_who hh.2
    exact ⟨h.v, h.c, h.vo, bit_lt h.tk hk⟩
  · exact h
theorem vow_v (x : Vt) (who r w hr hw : Int) (c : List Int) : (vowV x who r w hr hw c).v = x.v ∧ (vowV x who r w hr hw c).r = x.r ∧ (vowV x who r w hr hw c).w = x.w ∧ (vowV x who r w hr hw c).tk = x.tk := by
  unfold vowV; split
  · obtain ⟨h1, h2, h3, _, h5⟩ := heard_v { x with vo := x.vo ||| 2 ^ who.toNat } hr hw c
    exact ⟨h1, h2, h3, h5⟩
  · exact ⟨rfl, rfl, rfl, rfl⟩
theorem tak_v (x : Vt) (who r w : Int) : (takV x who r w).v = x.v ∧ (takV x who r w).r = x.r ∧ (takV x who r w).w = x.w ∧ (takV x who r w).c = x.c ∧ (takV x who r w).hr = x.hr ∧ (takV x who r w).hw = x.hw ∧ (takV x who r w).vo = x.vo := by
  unfold takV; split <;> exact ⟨rfl, rfl, rfl, rfl, rfl, rfl, rfl⟩
end
end Go.Proofs.Ytoknodkgmeinmaa
