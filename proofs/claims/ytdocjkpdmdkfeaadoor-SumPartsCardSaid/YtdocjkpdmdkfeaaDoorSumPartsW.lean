/- The walk of SumParts: it returns true at all arguments and leaves what was there as it was. -/
import Derived.Test.YtdocjkpdmdkfeaaDoorSum02
import Derived.OpenShut
namespace Go.Proofs.YtdocjkpdmdkfeaaDoor
open Go.RowKit
namespace sumParts
set_option maxHeartbeats 1600000 in
theorem walk (w : World) (hL : Laid w) (A : Option Addr) (n c : Nat) (xs : List Int) (hr : Reads w w.heap.size 1 A n (xs.map (Value.int .u8))) (_ : n ≤ c) (_ : c ≤ maxLen) (hm : c * 1 ≤ 140737488351232) (hwf : ∀ z ∈ xs, (Lit.int .u8 z).wf = true)
    (B : Option Addr) (m d : Nat) (ys : List Int) (hr2 : Reads w w.heap.size 1 B m (ys.map (Value.int .u8))) (_ : m ≤ d) (_ : d ≤ maxLen) (hm2 : d * 1 ≤ 140737488351232) (hwf2 : ∀ z ∈ ys, (Lit.int .u8 z).wf = true)
    (C : Option Addr) (k f : Nat) (zs : List Int) (hr3 : Reads w w.heap.size 1 C k (zs.map (Value.int .u8))) (_ : k ≤ f) (_ : f ≤ maxLen) (hm3 : f * 1 ≤ 140737488351232) (hwf3 : ∀ z ∈ zs, (Lit.int .u8 z).wf = true) :
    Calls Tryd.prog 3 #[.slice A n c, .slice B m d, .slice C k f] w fun e w' => e = .returned (.bool true) ∧ Below w.heap.size w w' := by
  obtain ⟨i0, hi, hz0, hz1, hz2⟩ := info_parts Tryd.infoByte
  have l1 : xs.length = n := by have := hr.1; simpa using this
  have l2 : ys.length = m := by have := hr2.1; simpa using this
  have l3 : zs.length = k := by have := hr3.1; simpa using this
  have L1 := hide l1
  have L2 := hide l2
  have L3 := hide l3
  clear l1 l2 l3
  have b1 := bytes_bd hwf
  have b2 := bytes_bd hwf2
  have b3 := bytes_bd hwf3
  clear hwf hwf2 hwf3
  go_enter Tryd.func3, Tryd.ntmps3
  go_wp2_with fail
  refine (fit_any _ hL).mono ?_
  rintro e w1 ⟨rfl, hb1⟩
  have hL1 := hL.below hb1 hL.lt
  have p1 : Part.Fit w1 ⟨A, n, c, xs⟩ := Part.Fit.below (w := w) ⟨hr, by show n ≤ _; omega, b1⟩ hb1
  have p2 : Part.Fit w1 ⟨B, m, d, ys⟩ := Part.Fit.below (w := w) ⟨hr2, by show m ≤ _; omega, b2⟩ hb1
  have p3 : Part.Fit w1 ⟨C, k, f, zs⟩ := Part.Fit.below (w := w) ⟨hr3, by show k ≤ _; omega, b3⟩ hb1
  by_cases hbig : 1000 < n + m + k
  · have d1 : decide (1000 < (n : Int) + m + k) = true := by simp; omega
    go_wp2_with fail
    go_ret
    exact ⟨rfl, hb1⟩
  · have d1 : decide (1000 < (n : Int) + m + k) = false := by simp; omega
    go_wp2_with (first
      | (at_builtin; refine wpList_append_any _ rfl (.const (.slice none 0 0)) (.tmp 19) 22 rfl w1.heap.size 5 i0 (.int .u8 0) 1 1 Tryd.underlying22 hi hz0 hz1 hz2 rfl (by decide) (.slice none 0 0) 0 [] rfl (own_nil _ _ _ _) w1.heap.size A n c (xs.map (Value.int .u8)) rfl p1.1 (oneCell_ints _) (by unfold maxLen; omega) (by omega) (by omega) ?_; intro v2 w2 hown2 hgrow2 _; simp only [Nat.zero_add, List.nil_append] at hown2; have hb2 : Below w1.heap.size w1 w2 := (Below.refl _ _).grown hgrow2 (by omega) (fun g hg => by cases hg); have p2' := p2.below hb2; have hs2 := hb2.size)
      | (at_builtin; refine wpList_append_any _ rfl (.tmp 20) (.tmp 21) 22 rfl w1.heap.size 5 i0 (.int .u8 0) 1 1 Tryd.underlying22 hi hz0 hz1 hz2 rfl (by decide) _ _ _ rfl hown2 w2.heap.size B m d (ys.map (Value.int .u8)) rfl p2'.1 (oneCell_ints _) (by unfold maxLen; omega) (by omega) (by omega) ?_; intro v3 w3 hown3 hgrow3 _; have hb3 : Below w1.heap.size w1 w3 := hb2.grown hgrow3 (by omega) (own_base hown2); have p3' := p3.below hb3; have hs3 := hb3.size)
      | (at_builtin; refine wpList_append_any _ rfl (.tmp 22) (.tmp 23) 22 rfl w1.heap.size 5 i0 (.int .u8 0) 1 1 Tryd.underlying22 hi hz0 hz1 hz2 rfl (by decide) _ _ _ rfl hown3 w3.heap.size C k f (zs.map (Value.int .u8)) rfl p3'.1 (oneCell_ints _) (by unfold maxLen; omega) (by omega) (by omega) ?_; intro v4 w4 hown4 hgrow4 _; have hb4 : Below w1.heap.size w1 w4 := hb3.grown hgrow4 (by omega) (own_base hown3); have hs4 := hb4.size))
    clear p2' p3'
    have hB4 := hb1.trans (hb4.mono hb1.size)
    have hL4 := hL1.below hb4 hL1.lt
    obtain ⟨A4, c4, rfl⟩ := own_slice hown4
    have p1 := p1.below hb4
    have p2 := p2.below hb4
    have p3 := p3.below hb4
    have p4 : Part.Fit w4 ⟨A4, n + m + k, c4, xs ++ (ys ++ zs)⟩ := by
      refine ⟨by simpa using Reads.of_own hown4, by show n + m + k ≤ _; omega, fun z hz => ?_⟩
      simp only [List.mem_append] at hz
      rcases hz with hz | hz | hz
      · exact b1 z hz
      · exact b2 z hz
      · exact b3 z hz
    clear hown2 hown3 hown4 hgrow2 hgrow3 hgrow4 hb2 hb3 hr hr2 hr3
    go_wp2_with fail
    refine (of_three _ A B C n m k c d f xs ys zs w4 rfl hL4 p1 p2 p3).mono ?_
    rintro e w' ⟨rfl, rfl⟩
    go_wp2_with fail
    refine (of_one (w4.heap.size + 1) A4 _ c4 (xs ++ (ys ++ zs)) _ (by simp) (hL4.alloc _) (p4.alloc _)).mono ?_
    rintro e w' ⟨rfl, rfl⟩
    go_wp2_with fail
    refine (of_none _ ((hL4.alloc _).alloc _)).mono ?_
    rintro e w' ⟨rfl, rfl⟩
    go_wp2_with fail
    go_ret
    exact ⟨by simp, (hB4.alloc hB4.size _).alloc (by have := hB4.size; simp; omega) _⟩
end sumParts
end Go.Proofs.YtdocjkpdmdkfeaaDoor
