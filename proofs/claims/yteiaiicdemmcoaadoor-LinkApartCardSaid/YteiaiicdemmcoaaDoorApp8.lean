/- append of bytes, as a function of the world. -/
import Derived.Test.YteiaiicdemmcoaaDoorCell
import Derived.Test.YteiaiicdemmcoaaDoorInfo8
namespace Go.Proofs.YteiaiicdemmcoaaDoor
open Go.RowKit

def app8F (x : Array Value) : Sem Value := Builtin.append_ #[23, 23] 23 x
theorem app8F_fold (x : Array Value) : Builtin.append_ #[23, 23] 23 x = app8F x := rfl
def HasApp8 (w : World) (v x : Value) : Prop := ∃ p : Value × World, (app8F #[v, x]).run Tryd.prog w = .ok p.1 p.2
open Classical in
noncomputable def app8P (w : World) (v x : Value) : Value × World := if h : HasApp8 w v x then Classical.choose h else (v, w)
theorem app8F_has {w : World} {v x : Value} (h : HasApp8 w v x) : (app8F #[v, x]).run Tryd.prog w = .ok (app8P w v x).1 (app8P w v x).2 := by
  unfold app8P
  rw [dif_pos h]
  exact Classical.choose_spec h
theorem app8_any {w : World} {base n : Nat} {v : Value} {xs : List Value} (hown : w.ownsRow base 5 1 v n xs) {B : Nat} {A : Option Addr} {m c : Nat} {zs : List Int} (hr : Reads w B 1 A m (u8V zs)) (h1 : n + m ≤ 100000) (hb : base ≤ w.heap.size) :
    HasApp8 w v (.slice A m c) ∧ ∀ p, app8P w v (.slice A m c) = p → p.2.ownsRow base 5 1 p.1 (n + m) (xs ++ u8V zs) ∧ w.grownBy p.2 v.ownBlock := by
  obtain ⟨i, hi, hz, hsz, hby⟩ := info_parts Tryd.infoByte
  obtain ⟨v', w', hrun, h2, h3, _⟩ := run_append_any (P := Tryd.prog) w base 23 23 5 i _ 1 1 Tryd.underlying23 hi hz hsz hby rfl (by decide) v n xs hown B A m c (u8V zs) hr (u8V_one zs) (by unfold maxLen; omega) (by omega) hb
  have hh : HasApp8 w v (.slice A m c) := ⟨(v', w'), hrun⟩
  refine ⟨hh, ?_⟩
  rintro p rfl
  have e := (app8F_has hh).symm.trans (show (app8F #[v, .slice A m c]).run Tryd.prog w = .ok v' w' from hrun)
  generalize app8P w v (.slice A m c) = p at e
  obtain ⟨a, w2⟩ := p
  simp only [Result.ok.injEq] at e
  obtain ⟨rfl, rfl⟩ := e
  exact ⟨h2, h3⟩
end Go.Proofs.YteiaiicdemmcoaaDoor
