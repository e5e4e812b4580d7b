/- What a law knows of a network. -/
import Derived.Test.YteiaiicdemmcoaaDoorNetN
import Derived.Test.YteiaiicdemmcoaaDoorNetW
import Derived.Test.YteiaiicdemmcoaaDoorNetL
import Derived.Test.YteiaiicdemmcoaaDoorBoxC
namespace Go.Proofs.YteiaiicdemmcoaaDoor
open Go.RowKit Go.Conc

/-- Nothing is on any way. -/
def noneF : Nat → List Sl := fun _ => []
theorem nil_slIn (w : World) (B : Nat) : SlIn w B ⟨none, 0, 0, []⟩ := ⟨Reads.none_, Nat.le_refl _, Nat.zero_le _, by simp⟩
theorem below_net {w0 w w' : World} {Q : Nat → Prop} {b k : Nat} {P C : Nat → Nat} {Fs : Nat → List Sl} {l : Nat} (h : NetAt w Q w0.heap.size b P C k Fs) (hB : Below w0.heap.size w0 w) (hl : l < k) (hd : l % 6 ≠ 0) (k1 : Only (· = C l) w w') : Below w0.heap.size w0 w' :=
  below_all hB (h.low l hl hd) k1
end Go.Proofs.YteiaiicdemmcoaaDoor
