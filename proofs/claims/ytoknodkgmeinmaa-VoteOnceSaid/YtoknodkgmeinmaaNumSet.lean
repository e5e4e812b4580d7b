/- Contracts of package num: Set and Most, for all arguments. -/
import Derived.Test.YtoknodkgmeinmaaBase
import Derived.WalkKit
import Derived.WalkSpells
import Derived.WalkLawsBesides
import Derived.Deep.DeepMust
namespace Go.Proofs.Ytoknodkgmeinmaa
open Go.RowKit

/-- Is the bit at place k of a set? In the walk's own spelling. -/
def hasB (a : Int) (k : Nat) : Bool := bits .and .i64 (a / 2 ^ k) 1 == 1
def setTo (a : Int) (k : Nat) : List Nat := (List.range k).filter (hasB a)
def setL (a : Int) : List Nat := setTo a 5
theorem setTo_zero (a : Int) : setTo a 0 = [] := rfl
theorem setTo_yes {a : Int} {k : Nat} (h : hasB a k = true) : setTo a (k + 1) = setTo a k ++ [k] := by
  simp [setTo, List.range_succ, List.filter_append, h]
theorem setTo_no {a : Int} {k : Nat} (h : hasB a k = false) : setTo a (k + 1) = setTo a k := by
  simp [setTo, List.range_succ, List.filter_append, h]
theorem setTo_le (a : Int) (k : Nat) : (setTo a k).length ≤ k := by
  have := List.length_filter_le (hasB a) (List.range k); simpa [setTo] using this
theorem setL_le (a : Int) : (setL a).length ≤ 5 := setTo_le a 5
def natV (n : Nat) : Value := .int .i64 (n : Int)
theorem oneCell_natV (l : List Nat) : ∀ u ∈ l.map natV, u.oneCell' = true := by
  intro u hu
  obtain ⟨n, _, rfl⟩ := List.mem_map.1 hu
  rfl

theorem Try.info3 : (Try.prog.info? 3).map (fun i => (i.zero, i.size, i.bytes)) = some (some (.int .i64 0), 1, 8) := by kernel_rfl

set_option maxRecDepth 100000 in
set_option maxHeartbeats 400000 in
theorem set_any (a : Int) (w : World) :
    Calls Try.prog 28 #[.int .i64 a] w fun e w' => ∃ v, e = .returned v ∧ w'.ownsRow w.heap.size 3 1 v (setL a).length ((setL a).map natV) ∧ Below w.heap.size w w' := by
  obtain ⟨i0, hi, hz0, hz1, hz2⟩ := info_parts Try.info3
  go_enter Try.func28, Try.ntmps28
  go_wp2
  go_loopw [3, 4, 5] (fun s _ i wr => ∃ (k : Nat), k ≤ 5 ∧ i = .int .i64 k ∧ wr.ownsRow w.heap.size 3 1 s (setTo a k).length ((setTo a k).map natV) ∧ Below w.heap.size w wr) (fun _ _ i _ => 5 - (intOf i).toNat)
  case atStart => exact ⟨0, Nat.zero_le _, rfl, ⟨by simp [setTo_zero], .inl ⟨rfl, by simp [setTo_zero]⟩⟩, Below.refl _ _⟩
  case round =>
    obtain ⟨k, hk, rfl, hown, hb⟩ := hrel
    by_cases hlt : k < 5
    · have hle := setTo_le a k
      have hsz := hb.size
      cases ht : hasB a k
      · have ht' : (bits BinOp.and IntKind.i64 (a / 2 ^ k) 1 == 1) = false := ht
        have HT := hide ht
        clear ht
        go_wp2
        go_roundw
        case rel => exact ⟨k + 1, by omega, by go_num, by rw [setTo_no (unhide HT)]; exact hown, hb⟩
        case measure => simp [intOf]; omega
      · have ht' : (bits BinOp.and IntKind.i64 (a / 2 ^ k) 1 == 1) = true := ht
        have HT := hide ht
        clear ht
        go_wp2_with (at_builtin; go_must (refine wpList_append_any _ rfl (.tmp 13) (.tmp 15) 75 rfl w.heap.size 3 i0 (.int .i64 0) 1 8 Try.underlying75 hi hz0 hz1 hz2 rfl (by decide) _ _ _ rfl (hown.alloc _) (wr.heap.size + 1) (some ⟨wr.heap.size, 0, none⟩) 1 1 [natV k] rfl (reads_one _ _ _) (oneCell_natV [k]) (by unfold maxLen; omega) (by omega) (by simp; omega) ?_; intro v' w1 hown' hgrow _))
        have hb1 : Below w.heap.size w w1 := (hb.alloc hsz _).grown hgrow (by simp; omega) (own_base hown)
        go_roundw
        case rel => exact ⟨k + 1, by omega, by go_num, by rw [setTo_yes (unhide HT)]; simpa using hown', hb1⟩
        case measure => simp [intOf]; omega
    · obtain rfl : k = 5 := by omega
      go_wp2
      go_ret
      exact ⟨_, rfl, hown, hb⟩

theorem set_slice (a : Int) (w : World) :
    Calls Try.prog 28 #[.int .i64 a] w fun e w' => ∃ A c, e = .returned (.slice A (setL a).length c) ∧ Reads w' w'.heap.size 1 A (setL a).length ((setL a).map natV) ∧ Below w.heap.size w w' :=
  (set_any a w).mono fun e w' ⟨v, he, hown, hb⟩ => by
    obtain ⟨A, c, rfl⟩ := own_slice hown
    exact ⟨A, c, he, Reads.of_own hown, hb⟩

def mostB (p a : Int) : Bool := decide ((setL a).length < 2 * (setL (bits .and .i64 p a)).length)

set_option maxHeartbeats 400000 in
theorem most_any (p a : Int) (w : World) :
    Calls Try.prog 27 #[.int .i64 p, .int .i64 a] w fun e w' => e = .returned (.bool (mostB p a)) ∧ Below w.heap.size w w' := by
  have l1 := setL_le a
  have l2 := setL_le (bits .and .i64 p a)
  go_enter Try.func27, Try.ntmps27
  go_wp2_with fail
  refine (set_slice (bits .and .i64 p a) _).mono ?_
  rintro e w1 ⟨A1, c1, rfl, _, hb1⟩
  go_wp2_with fail
  refine (set_slice a _).mono ?_
  rintro e w2 ⟨A2, c2, rfl, _, hb2⟩
  go_wp2_with fail
  go_ret
  exact ⟨ret_bool (decide_eq_decide.2 (by omega)), hb1.trans (hb2.mono hb1.size)⟩
theorem most_yes (p a : Int) (w : World) (h : mostB p a = true) :
    Calls Try.prog 27 #[.int .i64 p, .int .i64 a] w fun e w' => e = .returned (.bool true) ∧ Below w.heap.size w w' :=
  (most_any p a w).mono fun e w' ⟨he, hb⟩ => ⟨by rw [he, h], hb⟩
theorem most_no (p a : Int) (w : World) (h : mostB p a = false) :
    Calls Try.prog 27 #[.int .i64 p, .int .i64 a] w fun e w' => e = .returned (.bool false) ∧ Below w.heap.size w w' :=
  (most_any p a w).mono fun e w' ⟨he, hb⟩ => ⟨by rw [he, h], hb⟩
end Go.Proofs.Ytoknodkgmeinmaa
