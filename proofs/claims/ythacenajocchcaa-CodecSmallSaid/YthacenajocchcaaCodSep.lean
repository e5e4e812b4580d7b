/- A Writer apart from other blocks, by their types; what the laws' walks share. -/
import Derived.Test.YthacenajocchcaaCodB
import Derived.Test.YthacenajocchcaaCodRead
import Derived.Test.YthacenajocchcaaBitsI
import Derived.Test.YthacenajocchcaaStr
import Derived.RegionTactic
import Derived.Deep.Draws
import Derived.Deep.RegionWith
namespace Go.Proofs.Ythacenajocchcaa
open Go.RowKit

section
variable {w : World} {g : Nat} {v : Value} {bs : List Int}
theorem Wr.far (h : Wr w g v bs) {p : Nat} {t : TypeId} {cs : Array Value} (hp : Blk w p t cs) (h1 : t ≠ 28) (h2 : t ≠ 5) : ¬ WrS g v p := by
  rintro (rfl | hv)
  · exact Blk.ne_ hp h.1 h1 rfl
  · exact own_blk_ne h.2 hp (Ne.symm h2) hv
theorem own_own_ne {b1 b2 s1 s2 n1 n2 : Nat} {t1 t2 : TypeId} {u1 u2 : Value} {x1 x2 : List Value} (h1 : w.ownsRow b1 t1 s1 u1 n1 x1) (h2 : w.ownsRow b2 t2 s2 u2 n2 x2) (hne : t1 ≠ t2) : ∀ i, u1.ownBlock = some i → u2.ownBlock ≠ some i := by
  intro i hi
  rcases h1.2 with ⟨rfl, _⟩ | ⟨g', cap, cur, rfl, _, hh, _⟩
  · simp [Value.ownBlock] at hi
  · have : g' = i := by simpa [Value.ownBlock] using hi
    subst this
    exact own_blk_ne h2 (g := g') hh (Ne.symm hne)
theorem Wr.farOwn (h : Wr w g v bs) {b s n : Nat} {t : TypeId} {u : Value} {xs : List Value} (hu : w.ownsRow b t s u n xs) (h1 : t ≠ 28) (h2 : t ≠ 5) : ∀ i, u.ownBlock = some i → ¬ WrS g v i := by
  intro i hi
  rintro (rfl | hv)
  · exact own_blk_ne hu h.1 h1 hi
  · exact own_own_ne hu h.2 h2 i hi hv
end
theorem Try.infoInt : (Try.prog.info? 3).map (fun i => (i.zero, i.size, i.bytes)) = some (some (.int .i64 0), 1, 8) := by kernel_rfl
theorem mask62 (n : Int) : bits .and .i64 n 4611686018427387903 = n % 4611686018427387904 := i64_and_mask n 62 (by omega)
theorem mask62_bd (n : Int) : 0 ≤ n % 4611686018427387904 ∧ n % 4611686018427387904 < 4611686018427387904 := ⟨Int.emod_nonneg _ (by omega), Int.emod_lt_of_pos _ (by omega)⟩
def low62 (n : Int) : Int := n % 4611686018427387904
theorem and62 (n : Int) : bits .and .i64 n 4611686018427387903 = low62 n := mask62 n
theorem low62_bd (n : Int) : 0 ≤ low62 n ∧ low62 n < 4611686018427387904 := mask62_bd n
theorem Try.makeFunc : ∀ (fn : Fn) (first cap : Array Value) (w : World), (Instr.makeFunc fn first cap).run Try.prog w = .ok (.func fn first cap) w := fun _ _ _ _ => rfl
theorem encL_drop {ms : List Int} {k : Nat} (hk : k < ms.length) : encL (ms.drop k) = enc ms[k] ++ encL (ms.drop (k + 1)) := by
  rw [List.drop_eq_getElem_cons hk, encL_cons]
theorem own_caps {w : World} {base : Nat} {e : TypeId} {size : Nat} {A : Option Addr} {n m c : Nat} {xs : List Value} (h : w.ownsRow base e size (.slice A m c) n xs) : m ≤ c ∧ c ≤ maxLen := by
  rcases h.2 with ⟨h1, rfl⟩ | ⟨g, cap, cur, h1, _, _, hnc, hcm, _⟩
  · injection h1 with _ h2 h3; subst h2 h3; exact ⟨Nat.le_refl _, Nat.zero_le _⟩
  · injection h1 with _ h2 h3; omega
theorem own_at {w : World} {base : Nat} {e : TypeId} {size : Nat} {A : Option Addr} {n m c : Nat} {xs : List Value} (h : w.ownsRow base e size (.slice A m c) n xs) : ∀ ad, A = some ad → base ≤ ad.block ∧ ad.block < w.heap.size := by
  intro ad e
  subst e
  exact h.lt ad.block rfl

/-- Two Writers whose slices are apart. -/
def Sep (v1 v2 : Value) : Prop := ∀ i, v1.ownBlock = some i → v2.ownBlock ≠ some i
theorem Sep.symm {v1 v2 : Value} (h : Sep v1 v2) : Sep v2 v1 := fun i hi e => h i e hi
theorem Wr.step {w w' : World} {g1 g2 : Nat} {v1 v1' v2 : Value} {b1 b2 : List Int} (h1 : Wr w g1 v1 b1) (h2 : Wr w g2 v2 b2) (hg : g1 ≠ g2) (hs : Sep v1 v2) (k : Wrote w w' g1 v1 v1') : Wr w' g2 v2 b2 ∧ Sep v1' v2 := by
  refine ⟨h2.only k.only ?_ ?_, fun i hi e => ?_⟩
  · rintro (e | e)
    · exact hg e.symm
    · exact own_blk_ne h1.2 h2.1 (by decide) e
  · rintro i hi (e | e)
    · exact own_blk_ne h2.2 h1.1 (by decide) (by rw [hi, e])
    · exact hs i e hi
  · rcases k.own i hi with h | h
    · exact hs i h e
    · have := h2.ownLt e; omega
end Go.Proofs.Ythacenajocchcaa
