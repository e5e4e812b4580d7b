/- Law 13's vows, folded; slices of one. -/
import Derived.Test.YtoknodkgmeinmaaVtM
namespace Go.Proofs.Ytoknodkgmeinmaa.vx
open Go.RowKit

def vowL : Option (Int × Int × List Int) → List Value
  | none => iV [0, 0, 0, 0, 0] ++ [.bool false]
  | some (hr, hw, c) => iV ([hr, hw] ++ c) ++ [.bool true]
def vowF (s : Ps) (m : Nat) : List Value := vowL (s.vow (m / 5) (m % 5))
def tokF (s : Ps) (m : Nat) : List Value := [.bool (s.tk (m / 5) (m % 5))]
def accF (s : Ps) (q : Nat) : List Int := accL (s.acc q)
theorem accF_len (s : Ps) : ∀ i, i < 5 → (accF s i).length = 8 := fun _ _ => rfl
theorem tokF_len (s : Ps) (n : Nat) : ∀ i, i < n → (tokF s i).length = 1 := fun _ _ => rfl
theorem vowL_is {o : Option (Int × Int × List Int)} (h : ∀ hr hw c, o = some (hr, hw, c) → c.length = 3) : IsV 6 (vowL o) := by
  match o, h with
  | none, _ => exact ⟨rfl, fun u hu => by simp [vowL, iV] at hu; rcases hu with rfl | rfl <;> rfl⟩
  | some (hr, hw, c), h =>
    obtain ⟨a, b, d, rfl⟩ := lit3 (h hr hw c rfl)
    exact ⟨rfl, fun u hu => by simp [vowL, iV] at hu; rcases hu with rfl | rfl | rfl | rfl | rfl | rfl <;> rfl⟩
theorem Inv.vow_len {v : V} {e : Int} {s : Ps} {ch : List (List Int)} (h : Inv v e s ch) : ∀ m, m < s.n * 5 → (vowF s m).length = 6 := fun m hm =>
  (vowL_is fun hr hw c ho => (h.vows (m / 5) (m % 5) hr hw c (by omega) (Nat.mod_lt _ (by decide)) ho).2.1).1
/-- Five zero vows; five that took nothing. -/
def zvows : List Value := fl 5 fun _ => vowL none
def ztoks : List Value := fl 5 fun _ => [Value.bool false]
theorem zvows_is : IsV 30 zvows := ⟨rfl, fun u hu => by
  simp only [zvows, fl, List.mem_flatMap] at hu
  obtain ⟨_, _, hu⟩ := hu
  simp [vowL, iV] at hu; rcases hu with rfl | rfl <;> rfl⟩
theorem ztoks_is : IsV 5 ztoks := ⟨rfl, fun u hu => by
  simp only [ztoks, fl, List.mem_flatMap] at hu
  obtain ⟨_, _, hu⟩ := hu
  simp at hu; subst hu; rfl⟩
theorem Try.infoVow : (Try.prog.info? 48).map (·.size) = some 6 := by kernel_rfl
def loadVowF (x : Value) : Sem Value := Instr.loadAt 48 x
theorem loadVowF_fold (x : Value) : Instr.loadAt 48 x = loadVowF x := rfl
theorem loadVowF_has {w : World} {b o : Nat} (h : HasRow w b o 6) : (loadVowF (.pointer (some ⟨b, o, none⟩))).run Try.prog w = .ok (.agg (rowAt w b o 6)) w := run_loadAt_has Try.underlying48 rfl Try.infoVow h
def storeVowF (x v : Value) : Sem Unit := Instr.storeAt 48 x v
theorem storeVowF_fold (x v : Value) : Instr.storeAt 48 x v = storeVowF x v := rfl
theorem storeVowF_has {w : World} {b o : Nat} {vs : List Value} (h : Room w b o 6) (hl : IsV 6 vs) : (storeVowF (.pointer (some ⟨b, o, none⟩)) (.agg vs.toArray)).run Try.prog w = .ok () (w.setCells b o vs) := run_storeAt_v Try.infoVow h hl
def allocVowF (b : Bool) (x : Value) : Sem Value := Instr.alloc 48 b x
theorem allocVowF_fold (b : Bool) (x : Value) : Instr.alloc 48 b x = allocVowF b x := rfl
theorem allocVowF_run (w : World) : (allocVowF true (.tuple #[])).run Try.prog w = .ok (.pointer (some ⟨w.heap.size, 0, none⟩)) (w.alloc (.cells (vowL none).toArray 48)) := by kernel_rfl
def buildVowF (x : Array (Nat × Value)) : Sem Value := Instr.build 48 x
theorem buildVowF_fold (x : Array (Nat × Value)) : Instr.build 48 x = buildVowF x := rfl
theorem buildVowF_is {hs c : List Int} (hh : Is 2 hs) (hc : Is 3 c) (w : World) :
    (buildVowF #[(0, .agg (iA hs)), (1, .agg (iA c)), (2, .bool true)]).run Try.prog w = .ok (.agg (iV (hs ++ c) ++ [Value.bool true]).toArray) w := by
  obtain ⟨a, b, rfl⟩ := lit2 hh
  obtain ⟨x, y, z, rfl⟩ := lit3 hc
  exact run_build w _ _ _ (by kernel_rfl)
def buildVsF (x : Array (Nat × Value)) : Sem Value := Instr.build 49 x
theorem buildVsF_fold (x : Array (Nat × Value)) : Instr.build 49 x = buildVsF x := rfl
theorem buildVsF_none (w : World) : (buildVsF #[]).run Try.prog w = .ok (.agg zvows.toArray) w := run_build w _ _ _ (by kernel_rfl)
def buildTsF (x : Array (Nat × Value)) : Sem Value := Instr.build 50 x
theorem buildTsF_fold (x : Array (Nat × Value)) : Instr.build 50 x = buildTsF x := rfl
theorem buildTsF_none (w : World) : (buildTsF #[]).run Try.prog w = .ok (.agg ztoks.toArray) w := run_build w _ _ _ (by kernel_rfl)
def oneF (s : TypeId) (x : Array (Nat × Value)) : Sem Value := Instr.buildSlice s 1 x
theorem oneF_fold (s : TypeId) (x : Array (Nat × Value)) : Instr.buildSlice s 1 x = oneF s x := rfl
theorem oneF_ptr (g : Nat) (w : World) : (oneF 37 #[(0, .pointer (some ⟨g, 0, none⟩))]).run Try.prog w = .ok (.slice (some ⟨w.heap.size, 0, none⟩) 1 1) (w.alloc (.cells #[.pointer (some ⟨g, 0, none⟩)] 45)) := by kernel_rfl
theorem oneF_vs (w : World) : (oneF 38 #[(0, .agg zvows.toArray)]).run Try.prog w = .ok (.slice (some ⟨w.heap.size, 0, none⟩) 1 1) (w.alloc (.cells zvows.toArray 49)) := by kernel_rfl
theorem oneF_ts (w : World) : (oneF 39 #[(0, .agg ztoks.toArray)]).run Try.prog w = .ok (.slice (some ⟨w.heap.size, 0, none⟩) 1 1) (w.alloc (.cells ztoks.toArray 50)) := by kernel_rfl
theorem oneF_chg {c : List Int} (hc : Is 3 c) (w : World) : (oneF 22 #[(0, .agg (iA c))]).run Try.prog w = .ok (.slice (some ⟨w.heap.size, 0, none⟩) 1 1) (w.alloc (.cells (iA c) 33)) := by
  obtain ⟨x, y, z, rfl⟩ := lit3 hc
  kernel_rfl
end Go.Proofs.Ytoknodkgmeinmaa.vx
