/- The walk of LinkTakes. -/
import Derived.Test.YteiaiicdemmcoaaDoorLnkF
import Derived.Test.YteiaiicdemmcoaaDoorLnkN
import Derived.Test.YteiaiicdemmcoaaDoorNetL
import Derived.Test.YteiaiicdemmcoaaDoorNetP
import Derived.Test.YteiaiicdemmcoaaDoorBoxC
import Derived.Test.YteiaiicdemmcoaaDoorBitsI
namespace Go.Proofs.YteiaiicdemmcoaaDoor.linkTakes
open Go.RowKit Go.Conc

theorem mask3 (x : Int) : ∃ i : Nat, bits .and .i64 x 7 = (i : Int) ∧ i < 8 := by
  refine ⟨(x % 8).toNat, ?_, by omega⟩
  rw [show bits .and .i64 x 7 = x % 8 from i64_and_mask x 3 (by omega)]; omega
/-- What is sent: in a frame, but one. -/
def sentL (Q : Nat) (F : Nat → Sl) (m : Nat) : List Int := if m = Q then (F m).zs else frL 2 3 (F m).zs
def sents (Q : Nat) (F : Nat → Sl) (i : Nat) : List (List Int) := (List.range i).map (sentL Q F)
theorem sents_succ (Q : Nat) (F : Nat → Sl) (i : Nat) : sents Q F (i + 1) = sents Q F i ++ [sentL Q F i] := by simp [sents, List.range_succ]
theorem sents_len (Q : Nat) (F : Nat → Sl) (i : Nat) : (sents Q F i).length = i := by simp [sents]
theorem sents_drop (Q : Nat) (F : Nat → Sl) {i n : Nat} (h : i < n) : (sents Q F n).drop i = sentL Q F i :: (sents Q F n).drop (i + 1) := by
  rw [List.drop_eq_getElem_cons (by rw [sents_len]; exact h)]
  simp [sents]
theorem zs_cons {Gs : List Sl} {z : List Int} {l : List (List Int)} (h : zsOf Gs = z :: l) : ∃ s Hs, Gs = s :: Hs ∧ s.zs = z ∧ zsOf Hs = l := by
  cases Gs with
  | nil => simp [zsOf] at h
  | cons s Hs =>
    simp only [zsOf, List.map_cons, List.cons.injEq] at h
    exact ⟨s, Hs, rfl, h.1, h.2⟩
theorem upd_none (k : Nat) : upd noneF k [] = noneF := by funext l; unfold upd noneF; split <;> rfl
/-- How far the first loop is. -/
def Sent (w : World) (Q : Nat) (F : Nat → Sl) (b : Nat) (P C : Nat → Nat) (i : Nat) (wr : World) : Prop :=
  ∃ Gs : List Sl, zsOf Gs = sents Q F i ∧ (∀ m, m < i → (F m).n ≤ 2000) ∧ NetAt wr allQ w.heap.size b P C 25 (upd noneF (2 * 5 + 3) Gs) ∧ Below w.heap.size w wr
theorem Sent.len {Q : Nat} {F : Nat → Sl} {i : Nat} {Gs : List Sl} (h : zsOf Gs = sents Q F i) : Gs.length = i := by
  rw [← zsOf_len, h, sents_len]
theorem Sent.next {w : World} {Q : Nat} {F : Nat → Sl} {b : Nat} {P C : Nat → Nat} {i : Nat} {wr wx : World} {Gs : List Sl} {t : Sl} (hz : zsOf Gs = sents Q F i) (hm : ∀ m, m < i → (F m).n ≤ 2000) (hi : (F i).n ≤ 2000) (hN : NetAt wr allQ w.heap.size b P C 25 (upd noneF (2 * 5 + 3) Gs)) (hB : Below w.heap.size w wr)
    (ht : t.zs = sentL Q F i) (h2 : NetAt wx allQ w.heap.size b P C 25 (upd (upd noneF (2 * 5 + 3) Gs) (2 * 5 + 3) (upd noneF (2 * 5 + 3) Gs (2 * 5 + 3) ++ [t]))) (k2 : Only (· = C (2 * 5 + 3)) wr wx) : Sent w Q F b P C (i + 1) wx := by
  rw [upd_upd, upd_at] at h2
  refine ⟨Gs ++ [t], by rw [zsOf_snoc, hz, ht, sents_succ], fun m h => ?_, h2, below_net hN hB (by omega) (by omega) k2⟩
  by_cases e : m = i
  · subst e; exact hi
  · exact hm m (by omega)
/-- How far the second loop is. -/
def Left (w : World) (Q : Nat) (F : Nat → Sl) (b : Nat) (P C : Nat → Nat) (n i : Nat) (wr : World) : Prop :=
  ∃ Gs : List Sl, zsOf Gs = (sents Q F n).drop i ∧ NetAt wr allQ w.heap.size b P C 25 (upd noneF (2 * 5 + 3) Gs) ∧ Below w.heap.size w wr
theorem Left.below {w wr wx : World} {Q : Nat} {F : Nat → Sl} {b : Nat} {P C : Nat → Nat} {n i : Nat} (h : Left w Q F b P C n i wr) (hb : Below wr.heap.size wr wx) : Left w Q F b P C n i wx := by
  obtain ⟨Gs, hz, hN, hB⟩ := h
  exact ⟨Gs, hz, hN.below hb, hB.trans (hb.mono hB.size)⟩
set_option maxRecDepth 100000 in
set_option maxHeartbeats 8000000 in
theorem walk (w : World) (hL : Laid w) (A : Option Addr) (n c : Nat) (F : Nat → Sl) (hS : Sls w w.heap.size A n F) (hnc : n ≤ c) (hcm : c ≤ maxLen)
    (x : Int) (_ : -9223372036854775808 ≤ x) (_ : x ≤ 9223372036854775807) :
    Calls Tryd.prog 4 #[.slice A n c, .int .i64 x] w fun e w' => e = .returned (.bool true) ∧ Below w.heap.size w w' := by
  have hn63 : n ≤ 9223372036854775807 := Nat.le_trans hnc hcm
  obtain ⟨Q, hQ, q8⟩ := mask3 x
  go_enter Tryd.func4, Tryd.ntmps4
  go_wp2_with fail
  (with_reducible refine (fit_runs w hL).mono ?_)
  rintro z w1 ⟨rfl, B1⟩
  by_cases h8 : 8 < n
  · have d8 : (8 : Int) < (n : Int) := by omega
    go_wp2_with fail
    go_ret
    exact ⟨rfl, B1⟩
  · have d8 : ¬ (8 : Int) < (n : Int) := by omega
    go_wp2_with fail
    (with_reducible refine (newN_runs w1 allQ).mono ?_)
    rintro z w2 ⟨b, P, C, rfl, hb, h2, B2⟩
    have B2 := B1.trans (B2.mono B1.size)
    have h2 := h2.lower B1.size
    clear B1 hb
    go_wp2_with fail
    go_loopw [26] (fun s26 wr => ∃ i : Nat, i ≤ n ∧ s26 = .int .i64 i ∧ Sent w Q F b P C i wr) (fun s26 _ => n - (intOf s26).toNat)
    case atStart => exact ⟨0, Nat.zero_le _, rfl, [], rfl, fun m h => absurd h (by omega), by rw [upd_none]; exact h2, B2⟩
    case round =>
      clear h2 B2
      obtain ⟨i, hi, rfl, Gs, hz, hm, hN, hB⟩ := hrel
      by_cases hlt : i < n
      · have dl : (i : Int) < (n : Int) := by omega
        obtain ⟨b', off, rfl, hbb, hcc⟩ := (hS.keep hB).at_ (by omega)
        have k1 := hcc i hlt
        have hin := (hS.each i hlt).go hB hB.size
        have HL := hide (Sent.len hz)
        have hX : Hid (∀ (wx : World) (t : Sl), t.zs = sentL Q F i → (F i).n ≤ 2000 → NetAt wx allQ w.heap.size b P C 25 (upd (upd noneF (2 * 5 + 3) Gs) (2 * 5 + 3) (upd noneF (2 * 5 + 3) Gs (2 * 5 + 3) ++ [t])) → Only (· = C (2 * 5 + 3)) wr wx → Sent w Q F b P C (i + 1) wx) := hide fun wx t ht h2000 h2 k2 => Sent.next hz hm h2000 hN hB ht h2 k2
        have hE : Hid (sentL Q F i = if i = Q then (F i).zs else frL 2 3 (F i).zs) := hide rfl
        have hLr := hL.below hB hL.lt
        clear hcc hm hz
        generalize F i = s at k1 hin hX hE
        obtain ⟨sA, sn, sc, sz⟩ := s
        simp only at k1
        by_cases h2000 : 2000 < sn
        · have d2 : (2000 : Int) < (sn : Int) := by omega
          go_wp2_with fail
          go_ret
          exact ⟨rfl, hB⟩
        · have d2 : ¬ (2000 : Int) < (sn : Int) := by omega
          by_cases hiQ : i = Q
          · have dq : ((i : Int) == (Q : Int)) = true := by simp; omega
            have hE2 : Hid (sentL Q F i = sz) := hide (by rw [hE.out, if_pos hiQ])
            have HS := hide (send_at hN (x := 2) (y := 3) (i := 2) (j := 3) rfl rfl (by omega) (by omega) (by omega) sA sn sc sz hin (Nat.le_refl _) (by omega) (fun _ _ => trivial))
            clear hN hLr hin hiQ
            go_wp2_with fail
            (with_reducible refine HS.out.mono ?_)
            rintro z w3 hx
            unfold SendIs at hx
            rw [if_pos (by rw [upd_at]; have := HL.out; omega)] at hx
            obtain ⟨rfl, ⟨t, ht, h3⟩, k3⟩ := hx
            have hR := hide (hX.out w3 t (by rw [ht, hE2.out]) (by show sn ≤ _; omega) h3 k3)
            clear HS hX h3 k3 hB
            go_wp2_with fail
            go_roundw
            case rel => go_light; exact ⟨i + 1, by omega, by go_num, hR.out⟩
            case measure => go_light; simp [intOf]; omega
          · have dq : ((i : Int) == (Q : Int)) = false := by simp; omega
            have hE2 : Hid (sentL Q F i = frL 2 3 sz) := hide (by rw [hE.out, if_neg hiQ])
            have HS := hide (sendL_some hLr hN (x := 2) (y := 3) (i := 2) (j := 3) rfl rfl (by omega) (by omega) (by omega) sA sn sc sz hin (by omega) (fun _ _ => trivial))
            clear hN hLr hin hiQ
            go_wp2_with fail
            (with_reducible refine HS.out.mono ?_)
            rintro z w3 hx
            unfold SendIs at hx
            rw [if_pos (by rw [upd_at]; have := HL.out; omega)] at hx
            obtain ⟨rfl, ⟨t, ht, h3⟩, k3⟩ := hx
            have hR := hide (hX.out w3 t (by rw [ht, hE2.out]) (by show sn ≤ _; omega) h3 k3)
            clear HS hX h3 k3 hB
            go_wp2_with fail
            go_roundw
            case rel => go_light; exact ⟨i + 1, by omega, by go_num, hR.out⟩
            case measure => go_light; simp [intOf]; omega
      · obtain rfl : i = n := by omega
        have HM := hide hm
        have hz0 : zsOf Gs = (sents Q F i).drop 0 := hz
        clear hm hz
        rename World => wb
        go_wp2_with fail
        go_loopw [49] (fun s49 wr => ∃ (j : Nat), j ≤ i ∧ s49 = .int .i64 j ∧ Left w Q F b P C i j wr) (fun s49 _ => i - (intOf s49).toNat)
        case atStart => exact ⟨0, Nat.zero_le _, rfl, Gs, hz0, hN, hB⟩
        case round =>
          clear hz0 hN hB
          obtain ⟨j, hj, rfl, Gs, hz, hN, hB⟩ := hrel
          by_cases hlt : j < i
          · have dl : (j : Int) < (i : Int) := by omega
            obtain ⟨b', off, rfl, hbb, hcc⟩ := (hS.keep hB).at_ (by omega)
            have k1 := hcc j hlt
            have hin0 := hS.each j hlt
            have h2000 := HM.out j hlt
            rw [sents_drop Q F hlt] at hz
            obtain ⟨s, Hs, rfl, hs, hz'⟩ := zs_cons hz
            have hsn : s.n ≤ 2006 := by
              have h1 := ((hN.box (2 * 5 + 3) (by omega) (by omega)).each s (by rw [upd_at]; simp)).in_.len
              have h2 := hin0.len
              rw [← h1, hs, sentL]
              split
              · omega
              · rw [frL_length]; omega
            have hLr := hL.below hB hL.lt
            have hT := hide (takeL_some hLr hN hL.lt (x := 2) (y := 3) (i := 2) (j := 3) rfl rfl (by omega) (by omega) (by omega) (s := s) (Gs := Hs) (by rw [upd_at]) (by omega))
            rw [upd_upd, hs] at hT
            have hX : Hid (∀ wx, NetAt wx allQ w.heap.size b P C 25 (upd noneF (2 * 5 + 3) Hs) → Only (· = C (2 * 5 + 3)) wr wx → Below w.heap.size w wx ∧ Left w Q F b P C i (j + 1) wx) := hide fun wx h3 k3 => by
              have hB3 := below_net hN hB (l := 2 * 5 + 3) (by omega) (by omega) k3
              exact ⟨hB3, Hs, hz', h3, hB3⟩
            have hE : Hid (sentL Q F j = if j = Q then (F j).zs else frL 2 3 (F j).zs) := hide rfl
            clear hcc hz hz' hs hsn hN hB
            generalize F j = f at k1 hin0 hE h2000
            obtain ⟨fA, fn, fc, fz⟩ := f
            simp only at k1 h2000 hE
            by_cases hiQ : j = Q
            · have dq : ((j : Int) == (Q : Int)) = true := by simp; omega
              have hE2 : sentL Q F j = fz := by rw [hE.out, if_pos hiQ]
              rw [hE2] at hT
              clear hE hE2 hiQ
              go_wp2_with fail
              (with_reducible refine hT.out.mono ?_)
              rintro z w3 ⟨h3, k3, ho⟩
              obtain ⟨hB3, hR⟩ := hX.out w3 h3 k3
              have hO := hide (Open_at w3 (hL.below hB3 hL.lt) (x := 2) (y := 3) (i := 2) (j := 3) rfl rfl fA fn fc fz (hin0.go hB3 hB3.size) (by omega))
              clear hT hX h3 k3
              rcases ho with ⟨ht, t, rfl, _⟩ | ⟨ht, rfl⟩
              · rw [ht] at hO
                clear ht
                go_wp2_with fail
                (with_reducible refine hO.out.mono ?_)
                rintro z w4 ⟨hb4, ⟨_, t', rfl, _⟩ | ⟨h, _⟩⟩
                rotate_left
                · cases h
                have hR := hide (hR.below hb4)
                clear hO hb4
                go_wp2_with fail
                go_roundw
                case rel => go_light; exact ⟨j + 1, by omega, by go_num, hR.out⟩
                case measure => go_light; simp [intOf]; omega
              · rw [ht] at hO
                clear ht
                go_wp2_with fail
                (with_reducible refine hO.out.mono ?_)
                rintro z w4 ⟨hb4, ⟨h, _⟩ | ⟨_, rfl⟩⟩
                · cases h
                have hR := hide (hR.below hb4)
                clear hO hb4
                go_wp2_with fail
                go_roundw
                case rel => go_light; exact ⟨j + 1, by omega, by go_num, hR.out⟩
                case measure => go_light; simp [intOf]; omega
            · have dq : ((j : Int) == (Q : Int)) = false := by simp; omega
              have hE2 : sentL Q F j = frL 2 3 fz := by rw [hE.out, if_neg hiQ]
              rw [hE2, opB_frL, body_frL] at hT
              clear hE hE2 hiQ
              go_wp2_with fail
              (with_reducible refine hT.out.mono ?_)
              rintro z w3 ⟨h3, k3, ⟨_, ⟨tA, tn, tc, tz⟩, hz2, ez, en, ht⟩ | ⟨h, _⟩⟩
              rotate_left
              · simp at h
              obtain rfl : z = .returned (.tuple #[.slice tA tn tc, .bool true]) := hz2
              obtain ⟨hB3, hR⟩ := hX.out w3 h3 k3
              have s1 := reads_string ht.in_.reads tc
              have s2 := reads_string (hin0.go hB3 hB3.size).reads fc
              simp only at s1 s2 ez
              clear en
              rw [ez] at s1
              have hq : ((strOfNums fz).toList != (strOfNums fz).toList) = false := by simp
              generalize strOfNums fz = st at s1 s2 hq
              have hR := hide hR
              clear hT hX h3 k3 ht ez hin0
              go_wp2_with fail
              go_roundw
              case rel => go_light; exact ⟨j + 1, by omega, by go_num, hR.out⟩
              case measure => go_light; simp [intOf]; omega
          · obtain rfl : j = i := by omega
            obtain rfl : Gs = [] := by
              rw [List.drop_eq_nil_of_le (by rw [sents_len]; omega)] at hz
              cases Gs with
              | nil => rfl
              | cons s l => cases hz
            rw [upd_none] at hN
            have hT := takeL_none hN (x := 2) (y := 3) (i := 2) (j := 3) rfl rfl (by omega) (by omega) (by omega) rfl
            have hT2 := takeL_off hN 2 2 (by rintro ⟨_, _, h⟩; exact h rfl)
            clear hz
            go_wp2_with fail
            (with_reducible refine hT.mono ?_)
            rintro z w3 ⟨rfl, rfl⟩
            clear hT
            go_wp2_with fail
            (with_reducible refine hT2.mono ?_)
            rintro z w3 ⟨rfl, rfl⟩
            clear hT2
            obtain ⟨i0, hi0, hz0, hz1, hz2⟩ := info_parts Tryd.infoByte
            obtain ⟨wm, hmk, _, hgr⟩ := run_make_full (P := Tryd.prog) wr w.heap.size 23 5 i0 (.int .u8 0) 1 Tryd.underlying23 hi0 hz0 hz1 .i64 .i64 3001 (by rw [hz2]; omega) (by unfold maxLen; omega) hB.size
            have hmk : (Instr.makeSlice 23 (.int .i64 3001) (.int .i64 3001)).run Tryd.prog wr = .ok (.slice (some ⟨wr.heap.size, 0, none⟩) 3001 3001) wm := hmk
            have hBm := hB.grown hgr hB.size (fun g h => by cases h)
            have hS1 := sendL_long wm b 2 3 (some ⟨wr.heap.size, 0, none⟩) 3001 3001 (by omega) (by omega)
            have hN1 := lenN_any (hN.below ((Below.refl wr.heap.size wr).grown hgr (Nat.le_refl _) (fun g h => by cases h)))
            rw [show sumL noneF 25 = 0 from sumL_none 25] at hN1
            clear hgr hN hB hi0 hz0 hz1 hz2
            go_wp2_with fail
            (with_reducible refine hS1.mono ?_)
            rintro z w4 ⟨rfl, rfl⟩
            clear hS1 hmk
            go_wp2_with fail
            (with_reducible refine hN1.mono ?_)
            rintro z w5 ⟨rfl, hb5⟩
            have hB5 := hBm.trans (hb5.mono hBm.size)
            clear hN1 hb5
            go_wp2_with fail
            go_ret
            exact ⟨rfl, hB5⟩
end Go.Proofs.YteiaiicdemmcoaaDoor.linkTakes
