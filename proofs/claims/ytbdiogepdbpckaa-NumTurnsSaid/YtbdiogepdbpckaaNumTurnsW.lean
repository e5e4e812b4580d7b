/- The walk of NumTurns: it returns true at all arguments and leaves what was there as it was. -/
import Derived.Test.YtbdiogepdbpckaaFit01
import Derived.Test.YtbdiogepdbpckaaBits
import Derived.OpenShut
import Derived.Deep.RegionHeld3
import Derived.Deep.DeepMust
namespace Go.Proofs.Ytbdiogepdbpckaa.numTurns
open Go.RowKit

def Fine (z : Int) : Prop := 0 ≤ z ∧ z ≤ 1099511627776
theorem addF_all (zs : List Int) : ∀ s : Int, 0 ≤ s → s ≤ 1099511627776 → (∀ z ∈ zs, Fine z) → addF s zs = if s + zs.sum ≤ 1099511627776 then (s + zs.sum, 0) else (0, 6) := by
  induction zs with
  | nil => intro s _ h _; rw [addF, if_pos (by simpa using h)]; simp
  | cons z zs ih =>
    intro s h0 h1 h
    obtain ⟨z0, z1⟩ := h z (by simp)
    have hs : 0 ≤ zs.sum := by
      clear ih
      induction zs with
      | nil => simp
      | cons y ys ih2 =>
        have := ih2 (fun q hq => h q (by simp at hq ⊢; rcases hq with rfl | hq <;> simp_all))
        have hy := (h y (by simp)).1
        simp; omega
    by_cases hov : 1099511627776 < s + z
    · rw [addF_over _ _ _ z0 z1 hov, if_neg (by simp; omega)]
    · rw [addF_step _ _ _ z0 z1 (by omega), ih _ (by omega) (by omega) (fun q hq => h q (by simp [hq]))]
      rw [List.sum_cons, Int.add_assoc]
theorem addF_turn (zs : List Int) (t : Nat) (h : ∀ z ∈ zs, Fine z) : addF 0 (zs.drop t ++ zs.take t) = addF 0 zs := by
  rw [addF_all zs 0 (by omega) (by omega) h, addF_all _ 0 (by omega) (by omega)]
  · have : (zs.drop t ++ zs.take t).sum = zs.sum := by
      rw [List.sum_append_int, Int.add_comm, ← List.sum_append_int, List.take_append_drop]
    rw [this]
  · intro z hz
    rw [List.mem_append] at hz
    rcases hz with hz | hz
    · exact h z (List.mem_of_mem_drop hz)
    · exact h z (List.mem_of_mem_take hz)
theorem addF_err (zs : List Int) (h : ∀ z ∈ zs, Fine z) : (addF 0 zs).2 = 0 ∨ (addF 0 zs).2 = 6 := by
  rw [addF_all zs 0 (by omega) (by omega) h]
  split
  · exact .inl rfl
  · exact .inr rfl
theorem and_mask (x : Int) : 0 ≤ bits .and .i64 x 65535 ∧ bits .and .i64 x 65535 ≤ 65535 := by
  have e : bits .and .i64 x 65535 = IntKind.i64.wrap (((x % 18446744073709551616).toNat % 65536 : Nat) : Int) := by
    show IntKind.i64.wrap ((BitVec.ofInt 64 x &&& BitVec.ofInt 64 65535).toNat : Int) = _
    rw [BitVec.toNat_and, show (BitVec.ofInt 64 65535).toNat = 65535 from rfl, nat_mask16, BitVec.toNat_ofInt]; rfl
  rw [e, IntKind.wrap_i64]; omega

theorem joined {w : World} {B k t : Nat} {e : TypeId} {v : Value} {zs : List Int} (ht : t ≤ k) (h : w.ownsRow B e 1 v (0 + (k - t) + t) (([] ++ (zs.drop t).map (Value.int .i64)) ++ (zs.take t).map (Value.int .i64))) :
    ∃ A c, v = .slice A k c ∧ Reads w w.heap.size 1 A k ((zs.drop t ++ zs.take t).map (Value.int .i64)) := by
  rw [show 0 + (k - t) + t = k by omega, List.nil_append, ← List.map_append] at h
  obtain ⟨A, c, rfl⟩ := own_slice h
  exact ⟨A, c, rfl, Reads.of_own h⟩

set_option maxHeartbeats 1600000 in
theorem walk (w : World) (A : Option Addr) (n c : Nat) (zs : List Int) (hr : Reads w w.heap.size 1 A n (zs.map (Value.int .i64))) (hnc : n ≤ c) (hm : c ≤ maxLen) (hwf : ∀ z ∈ zs, (Lit.int .i64 z).wf = true)
    (q : Int) (_ : -9223372036854775808 ≤ q) (_ : q ≤ 9223372036854775807) :
    Calls Try.prog 6 #[.slice A n c, .int .i64 q] w fun e w' => e = .returned (.bool true) ∧ Below w.heap.size w w' := by
  have hlen : zs.length = n := by have := hr.1; simpa using this
  have hn : n ≤ 9223372036854775807 := by unfold maxLen at hm; omega
  have hc : c ≤ 9223372036854775807 := by unfold maxLen at hm; omega
  have HL := hide hlen
  clear hlen
  by_cases h0 : n = 0
  · subst h0
    go_enter Try.func6, Try.ntmps6
    go_wp2_with fail
    refine (fit_any _).mono ?_
    rintro e w1 ⟨rfl, hb1⟩
    go_wp2_with fail
    go_ret
    exact ⟨rfl, hb1⟩
  have hpos : 0 < n := by omega
  have d0 : ((n : Int) == 0) = false := by simp; omega
  obtain ⟨b, off, rfl, hlt, hc0⟩ := hr.ints hpos
  by_cases hbig : 60 < n
  · have d1 : decide (60 < n) = true := by simpa using hbig
    go_enter Try.func6, Try.ntmps6
    go_wp2_with fail
    refine (fit_any _).mono ?_
    rintro e w1 ⟨rfl, hb1⟩
    go_wp2_with fail
    go_ret
    exact ⟨rfl, hb1⟩
  have d1 : decide (60 < n) = false := by simpa using hbig
  go_enter Try.func6, Try.ntmps6
  go_wp2_with fail
  refine (fit_any _).mono ?_
  rintro e w1 ⟨rfl, hb1⟩
  go_wp2_with fail
  go_loop [23] (fun i => ∃ k : Nat, k ≤ n ∧ i = .int .i64 k ∧ ∀ j, j < k → Fine (zs.getD j 0)) (fun i => n - (intOf i).toNat)
  case atStart => exact ⟨0, Nat.zero_le _, rfl, fun j hj => absurd hj (by omega)⟩
  case round =>
    obtain ⟨k, hk, rfl, hf⟩ := hrel
    by_cases hkn : k < n
    · have hck : w1.cell? ⟨b, off + k, none⟩ = some (.int .i64 (zs.getD k 0)) := (hb1.cell (by exact hlt)).trans (hc0 k hkn)
      have hbd := range_i64 hwf k
      rw [← List.getD_eq_getElem?_getD] at hbd
      have hf' : Fine (zs.getD k 0) → ∀ j, j < k + 1 → Fine (zs.getD j 0) := fun h j hj => by
        by_cases hjk : j = k
        · rw [hjk]; exact h
        · exact hf j (by omega)
      clear hf hc0 hr hwf
      generalize zs.getD k 0 = x at hck hbd hf'
      obtain ⟨x0, x1⟩ := hbd
      have HF := hide hf'
      clear hf'
      by_cases hx : x < 0
      · have e1 : decide (x < 0) = true := by simpa using hx
        go_wp2
        go_ret
        exact ⟨rfl, hb1⟩
      · have e1 : decide (x < 0) = false := by simpa using hx
        by_cases hx2 : 1099511627776 < x
        · have e2 : decide (1099511627776 < x) = true := by simpa using hx2
          go_wp2
          go_ret
          exact ⟨rfl, hb1⟩
        · have e2 : decide (1099511627776 < x) = false := by simpa using hx2
          go_wp2
          go_round
          case rel => exact ⟨k + 1, by omega, by go_num, unhide HF ⟨by omega, by omega⟩⟩
          case measure => simp [intOf]; omega
    · obtain rfl : k = n := by omega
      have hfine : ∀ z ∈ zs, Fine z := by
        intro z hz
        obtain ⟨j, hj, rfl⟩ := List.mem_iff_getElem.1 hz
        have := hf j (by rw [← unhide HL]; exact hj)
        simpa [List.getD, hj] using this
      have HFI := hide hfine
      clear hfine hf hwf hc0
      obtain ⟨m0, m1⟩ := and_mask q
      go_wp2_with fail
      refine (add_any _ _ _ zs _ ((hr.below hb1).more hb1.size) hn).mono ?_
      rintro e w2 ⟨rfl, rfl⟩
      have q0 : 0 ≤ bits .and .i64 q 65535 % (k : Int) := Int.emod_nonneg _ (by omega)
      have q1 : bits .and .i64 q 65535 % (k : Int) < k := Int.emod_lt_of_pos _ (by omega)
      generalize bits .and .i64 q 65535 % (k : Int) = t' at q0 q1
      obtain ⟨t, rfl⟩ := Int.eq_ofNat_of_zero_le q0
      go_wp2_with fail
      have htk : (t : Int) < (c : Int) := by omega
      have htk' : t ≤ k := by omega
      have hct : ¬ c = t := by omega
      have b2 : (t : Int) ≤ (k : Int) := by omega
      have b3 : (t : Int) ≤ (c : Int) := by omega
      have hrd : Reads w1 w1.heap.size 1 (some ⟨b, off + t, none⟩) (k - t) ((zs.drop t).map (Value.int .i64)) := by
        have h1 := (((hr.below hb1).more hb1.size).cut (k := t) htk' hnc)
        rw [if_neg (by omega)] at h1
        simpa [Go.WideShapes.add_plain, List.map_drop] using h1
      have hrt : Reads w1 w1.heap.size 1 (some ⟨b, off, none⟩) t ((zs.take t).map (Value.int .i64)) := by
        have h1 := ((hr.below hb1).more hb1.size)
        refine ⟨by simp; have := unhide HL; omega, fun h => ?_⟩
        obtain ⟨ad, e, hb, hcc⟩ := h1.2 (by omega)
        refine ⟨ad, e, hb, fun j u hu => hcc j u ?_⟩
        rw [List.map_take, List.getElem?_take] at hu
        split at hu
        · exact hu
        · simp at hu
      obtain ⟨i0, hi, hz0, hz1, hz2⟩ := info_parts Try.info3
      have hbase : ∀ g, (Value.slice none 0 0).ownBlock = some g → w1.heap.size ≤ g := by simp [Value.ownBlock]
      go_region_held3 (fun _ => True) (trivial) (first
        | ((refine step_append_any _ (by rfl) (.const (.slice none 0 0)) (.tmp 47) 22 (by rfl) w1.heap.size 3 i0 (.int .i64 0) 1 8 Try.underlying22 hi hz0 hz1 hz2 (by rfl) (by decide) (.slice none 0 0) 0 [] (by rfl) ⟨by simp, .inl ⟨rfl, rfl⟩⟩ w1.heap.size (some ⟨b, off + t, none⟩) (k - t) (c - t) ((zs.drop t).map (Value.int .i64)) (by rfl) (by exact hrd.drew) (oneCell_ints _) (by unfold maxLen; omega) (by omega) (by simp) ?_); intro v2 w2 hown2 hg2 hat2; have hb2 : Below w1.heap.size w1 w2 := Below.grown (Below.refl _ _).drew hg2 (by simp) hbase)
        | ((refine step_append_any _ (by rfl) (.tmp 48) (.tmp 51) 22 (by rfl) w1.heap.size 3 i0 (.int .i64 0) 1 8 Try.underlying22 hi hz0 hz1 hz2 (by rfl) (by decide) v2 (0 + (k - t)) ([] ++ (zs.drop t).map (Value.int .i64)) (by rfl) (by exact hown2) w1.heap.size (some ⟨b, off, none⟩) t c ((zs.take t).map (Value.int .i64)) (by rfl) (by exact hrt.below hb2) (oneCell_ints _) (by unfold maxLen; omega) (by omega) (by exact hb2.size) ?_); intro v3 w3 hown3 hg3 hat3; have hb3 : Below w1.heap.size w1 w3 := Below.grown hb2 hg3 hb2.size (own_base hown2); obtain ⟨A3, c3, rfl, hr3⟩ := joined htk' hown3; clear hown3 hat3 hg3)
        | (go_at_call 9; go_must (refine (add_any A3 k c3 (zs.drop t ++ zs.take t) _ (by first | exact hr3 | exact hr3.drew) hn).mono ?_); rintro e w4 ⟨rfl, rfl⟩))
      rw [addF_turn zs t (unhide HFI)]
      have he := addF_err zs (unhide HFI)
      have hB3 : Below w.heap.size w w3 := hb1.trans (hb3.mono hb1.size)
      clear HFI hr3 hrd hrt hr
      generalize addF 0 zs = r at he
      obtain ⟨s, e⟩ := r
      simp only at he
      rcases he with rfl | rfl
      · go_wp2
        go_ret
        exact ⟨by simp, hB3⟩
      · go_wp2
        go_ret
        exact ⟨by simp, hB3⟩
end Go.Proofs.Ytbdiogepdbpckaa.numTurns
