/- Plain facts of rows: what a change leaves, and takes back. -/
import Derived.Test.YtmcanjijpdgfeaaRowGA
namespace Go.Proofs.Ytmcanjijpdgfeaa
open Go.RowKit

theorem growV_in {zs : List Int} {k : Nat} {n : Int} (f : Nat) (hk : k < 4) (h1 : 1 ≤ n) (h2 : n ≤ 1099511627776) :
    growV zs (k : Int) n f = if okC (cellOf (chg zs k f n) k) = true then (bump (chg zs k f n) (zs.getD 0 0), 0) else (zeros 174, 6) := by
  rw [growV, if_pos ⟨inK_true.2 ⟨by omega, by omega⟩, h1, inN_true.2 ⟨by omega, h2⟩⟩]
  rfl
theorem set_self {zs : List Int} {i : Nat} (hi : i < zs.length) : zs.set i (zs.getD i 0) = zs := by
  apply List.ext_getElem (by simp)
  intro j h1 h2
  rw [List.getElem_set]
  split
  · subst_vars; simp [List.getD, hi]
  · rfl
/-- What was changed is taken back. -/
theorem unchg {zs : List Int} (hl : zs.length = 174) {k f : Nat} (hk : k < 4) (hf : f < 7) (n : Int) :
    ((bump (chg zs k f n) (zs.getD 0 0)).set 0 (zs.getD 0 0)).set (1 + k * 7 + f) (zs.getD (1 + k * 7 + f) 0) = zs := by
  have e0 : zs.set 0 (zs.getD 0 0) = zs := set_self (by omega)
  rw [bump, List.set_set, chg, List.set_comm _ _ (show 1 + k * 7 + f ≠ 0 by omega), e0, List.set_set]
  exact set_self (by omega)
end Go.Proofs.Ytmcanjijpdgfeaa
