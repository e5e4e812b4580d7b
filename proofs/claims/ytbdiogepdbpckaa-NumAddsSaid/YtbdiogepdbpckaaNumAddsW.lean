/- The walk of NumAdds: it returns true at all arguments and leaves what was there as it was. -/
import Derived.Test.YtbdiogepdbpckaaFit01
import Derived.OpenShut
namespace Go.Proofs.Ytbdiogepdbpckaa.numAdds
open Go.RowKit

/-- What the law's own loop knows after k numbers. -/
def St (zs : List Int) (k : Nat) (t er : Int) : Prop :=
  (er = 0 ∧ 0 ≤ t ∧ t ≤ 1099511627776 ∧ addF 0 zs = addF t (zs.drop k)) ∨ (t = 0 ∧ (er = 5 ∨ er = 6) ∧ addF 0 zs = (0, er))
theorem St.start (zs : List Int) : St zs 0 0 0 := .inl ⟨rfl, by omega, by omega, rfl⟩
theorem St.bad {zs : List Int} {k : Nat} {t : Int} (hk : k < zs.length) (h : addF 0 zs = addF t (zs.drop k)) (hb : zs.getD k 0 < 0 ∨ 1099511627776 < zs.getD k 0) : St zs (k + 1) 0 5 :=
  .inr ⟨rfl, .inl rfl, by rw [h, addF_drop t zs k hk, addF_bad _ _ _ hb]⟩
theorem St.over {zs : List Int} {k : Nat} {t : Int} (hk : k < zs.length) (h : addF 0 zs = addF t (zs.drop k)) (h0 : 0 ≤ zs.getD k 0) (h1 : zs.getD k 0 ≤ 1099511627776) (h2 : 1099511627776 < t + zs.getD k 0) : St zs (k + 1) 0 6 :=
  .inr ⟨rfl, .inr rfl, by rw [h, addF_drop t zs k hk, addF_over _ _ _ h0 h1 h2]⟩
theorem St.step {zs : List Int} {k : Nat} {t : Int} (hk : k < zs.length) (ht : 0 ≤ t) (h : addF 0 zs = addF t (zs.drop k)) (h0 : 0 ≤ zs.getD k 0) (h1 : zs.getD k 0 ≤ 1099511627776) (h2 : t + zs.getD k 0 ≤ 1099511627776) : St zs (k + 1) (t + zs.getD k 0) 0 :=
  .inl ⟨rfl, by omega, h2, by rw [h, addF_drop t zs k hk, addF_step _ _ _ h0 h1 h2]⟩
theorem St.stay {zs : List Int} {k : Nat} {er : Int} (he : er = 5 ∨ er = 6) (h : addF 0 zs = (0, er)) : St zs (k + 1) 0 er := .inr ⟨rfl, he, h⟩
theorem St.done {zs : List Int} {t er : Int} (h : St zs zs.length t er) : addF 0 zs = (t, er) := by
  rcases h with ⟨rfl, _, _, h⟩ | ⟨rfl, _, h⟩
  · rw [h, List.drop_of_length_le (Nat.le_refl _), addF]
  · exact h

set_option maxHeartbeats 1600000 in
theorem walk (w : World) (A : Option Addr) (n c : Nat) (zs : List Int) (hr : Reads w w.heap.size 1 A n (zs.map (Value.int .i64))) (_ : n ≤ c) (hm : c ≤ maxLen) (hwf : ∀ z ∈ zs, (Lit.int .i64 z).wf = true) :
    Calls Try.prog 3 #[.slice A n c] w fun e w' => e = .returned (.bool true) ∧ Below w.heap.size w w' := by
  have hlen : zs.length = n := by have := hr.1; simpa using this
  have hn : n ≤ 9223372036854775807 := by unfold maxLen at hm; omega
  have HL := hide hlen
  clear hlen hm
  go_enter Try.func3, Try.ntmps3
  go_wp2_with fail
  refine (fit_any _).mono ?_
  rintro e w1 ⟨rfl, hb1⟩
  have hr1 := (hr.below hb1).more hb1.size
  by_cases hbig : 100 < n
  · go_wp2_with fail
    go_ret
    exact ⟨rfl, hb1⟩
  · go_wp2_with fail
    go_loop [3, 4, 16] (fun s er i => ∃ (k : Nat) (t q : Int), k ≤ n ∧ i = .int .i64 k ∧ s = .int .i64 t ∧ er = .int .i64 q ∧ St zs k t q) (fun _ _ i => n - (intOf i).toNat)
    case atStart => exact ⟨0, 0, 0, Nat.zero_le _, rfl, rfl, rfl, St.start zs⟩
    case round =>
      obtain ⟨k, t, q, hk, rfl, rfl, rfl, HS⟩ := hrel
      by_cases hlt : k < n
      · obtain ⟨b, off, rfl, _, hc0⟩ := hr1.ints (by omega)
        have hc := hc0 k hlt
        have hkz : k < zs.length := by rw [unhide HL]; exact hlt
        have hbd := range_i64 hwf k
        rw [← List.getD_eq_getElem?_getD] at hbd
        obtain ⟨hbd0, hbd1⟩ := hbd
        clear hc0 hr hr1 hwf
        rcases HS with ⟨rfl, ht0, ht1, hs⟩ | ⟨rfl, hq, hs⟩
        · by_cases hbad : zs.getD k 0 < 0 ∨ 1099511627776 < zs.getD k 0
          · have HS := St.bad hkz hs hbad
            clear hs
            generalize zs.getD k 0 = x at hc hbad hbd0 hbd1
            by_cases hx : x < 0
            · have d1 : decide (x < 0) = true := by simpa using hx
              go_wp2
              go_round
              case rel => exact ⟨k + 1, 0, 5, by omega, by go_num, rfl, rfl, HS⟩
              case measure => simp [intOf]; omega
            · have d1 : decide (x < 0) = false := by simpa using hx
              have d2 : decide (1099511627776 < x) = true := by simp; omega
              go_wp2
              go_round
              case rel => exact ⟨k + 1, 0, 5, by omega, by go_num, rfl, rfl, HS⟩
              case measure => simp [intOf]; omega
          · by_cases hov : 1099511627776 < t + zs.getD k 0
            · have HS := St.over hkz hs (by omega) (by omega) hov
              clear hs
              generalize zs.getD k 0 = x at hc hbad hov
              have d1 : decide (x < 0) = false := by simp; omega
              have d2 : decide (1099511627776 < x) = false := by simp; omega
              have x0 : 0 ≤ x := by omega
              have x1 : x ≤ 1099511627776 := by omega
              go_wp2
              go_round
              case rel => exact ⟨k + 1, 0, 6, by omega, by go_num, rfl, rfl, HS⟩
              case measure => simp [intOf]; omega
            · have HS := St.step hkz ht0 hs (by omega) (by omega) (by omega)
              clear hs
              generalize zs.getD k 0 = x at hc hbad hov HS
              have d1 : decide (x < 0) = false := by simp; omega
              have d2 : decide (1099511627776 < x) = false := by simp; omega
              have x0 : 0 ≤ x := by omega
              have x1 : x ≤ 1099511627776 := by omega
              go_wp2
              go_round
              case rel => exact ⟨k + 1, t + x, 0, by omega, by go_num, rfl, rfl, HS⟩
              case measure => simp [intOf]; omega
        · have HS : St zs (k + 1) 0 q := St.stay hq hs
          clear hs
          rcases hq with rfl | rfl
          · go_wp2
            go_round
            case rel => exact ⟨k + 1, 0, 5, by omega, by go_num, rfl, rfl, HS⟩
            case measure => simp [intOf]; omega
          · go_wp2
            go_round
            case rel => exact ⟨k + 1, 0, 6, by omega, by go_num, rfl, rfl, HS⟩
            case measure => simp [intOf]; omega
      · have HF : Hid (addF 0 zs = (t, q)) := St.done (by rw [unhide HL, show n = k by omega]; exact HS)
        clear HS
        go_wp2_with fail
        refine (add_any _ _ _ _ _ hr1 hn).mono ?_
        rintro e w' ⟨rfl, rfl⟩
        rw [HF.out]
        go_wp2_with fail
        go_ret
        exact ⟨by simp, hb1⟩
end Go.Proofs.Ytbdiogepdbpckaa.numAdds
