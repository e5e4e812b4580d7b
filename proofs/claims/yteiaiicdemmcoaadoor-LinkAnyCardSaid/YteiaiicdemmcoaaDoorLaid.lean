/- The listed table: what the row's condition gives a walk; a start that meets it. -/
import Derived.Test.YteiaiicdemmcoaaDoorLawStep
import Derived.Test.YteiaiicdemmcoaaDoorSumOf
import Derived.Lib.LaidTab
import Derived.LaidMore
import Derived.Stop.Joined
namespace Go.Proofs.YteiaiicdemmcoaaDoor
open Go.ChangeShapes Go.WideShapes Go.ChangeAt Go.RowKit

def crcTabZ : List Int := [0, 498536548, 997073096, 651767980, 1994146192, 1802195444, 1303535960, 1342533948, 3988292384, 4027552580, 3604390888, 3412177804, 2607071920, 2262029012, 2685067896, 3183342108]
theorem crcTabZ_at : ∀ k : Fin 16, crcTabZ.getD k.val 0 = ((crcTab k.val : Nat) : Int) := by decide +kernel
theorem gHalves : Tryd.prog.globalNamed "legatee/sum.halves" = some 0 := by kernel_rfl
theorem tHalves : (Tryd.prog.globals[0]?).map (·.type) = some 54 := by kernel_rfl
theorem laid_of {W : World} (h : laidMetH Tryd.prog [("legatee/sum.halves", Rows.laid_legatee_sum_halves)] W) : Laid W := by
  rw [MakeChecks.laidMetH_plain _ _ _ (by kernel_rfl)] at h
  have ht : Lib.TabIs Tryd.prog W "legatee/sum.halves" .u32 crcTabZ := Lib.tabIs_of_head (rest := []) gHalves tHalves Tryd.underlying54 Tryd.underlying40 (by kernel_rfl) (by kernel_rfl) h
  intro k hk
  rw [ht.cell gHalves k (by simpa [crcTabZ] using hk), crcTabZ_at ⟨k, hk⟩]
theorem door_met (os : Os) (args : Array Value) : laidMetH Tryd.prog [("legatee/sum.halves", Rows.laid_legatee_sum_halves)] ((World.doorLaid Tryd.prog 400 os).forCall (fun _ _ => 0) ⟨#[], args, []⟩).memory :=
  laidMetH_of_parts3 (fuel := 8) (laidMet_of_run' 8 (by kernel_rfl) (by kernel_rfl)) (by kernel_rfl) (by kernel_rfl)
end Go.Proofs.YteiaiicdemmcoaaDoor
