/- The walk of BallotLess. -/
import Derived.Test.YtfcoeopemgcjlaaBltF
import Derived.Test.YtfcoeopemgcjlaaBltO
import Derived.BigQuiet
import Derived.Deep.RegionHeld3
namespace Go.Proofs.Ytfcoeopemgcjlaa.ballotLess
open Go.RowKit

theorem less_self (r v : Int) : lessB r v r v = false := by rw [lessB_false]; omega
theorem less_one {r1 v1 r2 v2 : Int} (h : lessB r1 v1 r2 v2 = true) : lessB r2 v2 r1 v1 = false := by
  rw [lessB_true] at h
  rw [lessB_false]
  omega
theorem less_none {r1 v1 r2 v2 : Int} (h : lessB r1 v1 r2 v2 = false) (k : lessB r2 v2 r1 v1 = false) : [r1, v1] = [r2, v2] := by
  rw [lessB_false] at h k
  have h1 : r1 = r2 := by omega
  have h2 : v1 = v2 := by omega
  rw [h1, h2]
theorem less_unlike {r1 v1 r2 v2 : Int} (h : lessB r1 v1 r2 v2 = true) : [r1, v1] ≠ [r2, v2] := by
  rw [lessB_true] at h
  intro e
  simp at e
  omega
theorem less_trans {r1 v1 r2 v2 r3 v3 : Int} (h : lessB r1 v1 r2 v2 = true) (k : lessB r2 v2 r3 v3 = true) : lessB r1 v1 r3 v3 = true := by
  rw [lessB_true] at *
  omega
/-- The three ballots, where the law keeps them. -/
structure Tri (w0 : World) (p : Nat) (a b c : List Int) (w : World) : Prop where
  a : IBlk w p 25 a
  b : IBlk w (p + 1) 25 b
  c : IBlk w (p + 2) 25 c
  under : Below w0.heap.size w0 w
theorem Tri.next {w0 w w' : World} {p : Nat} {a b c : List Int} (h : Tri w0 p a b c w) (k : Below w.heap.size w w') : Tri w0 p a b c w' :=
  ⟨h.a.below k h.a.lt, h.b.below k h.b.lt, h.c.below k h.c.lt, h.under.trans (k.mono h.under.size)⟩
theorem Tri.drew {w0 w : World} {p : Nat} {a b c : List Int} (h : Tri w0 p a b c w) : Tri w0 p a b c w.drew := ⟨h.a.drew, h.b.drew, h.c.drew, Below.drewR h.under⟩
theorem Tri.got {w0 w : World} {p : Nat} {a b c : List Int} (h : Tri w0 p a b c w) (la : a.length = 2) (lb : b.length = 2) (lc : c.length = 2) :
    (rowAt w p 0 2 = iA a ∧ HasRow w p 0 2) ∧ (rowAt w (p + 1) 0 2 = iA b ∧ HasRow w (p + 1) 0 2) ∧ (rowAt w (p + 1 + 1) 0 2 = iA c ∧ HasRow w (p + 1 + 1) 0 2) :=
  ⟨h.a.whole la, h.b.whole lb, h.c.whole lc⟩
attribute [local go_sem ↓] loadBltF_fold storeBltF_fold allocBltF_fold buildBltF_fold
attribute [local go_sem] loadBltF_has storeBltF_has allocBltF_run buildBltF_none buildBltF_0 buildBltF_0_1
set_option maxRecDepth 100000 in
set_option maxHeartbeats 3200000 in
theorem walk (w : World) (a : List Int) (la : a.length = 2) (wa : wf64 a) (b : List Int) (lb : b.length = 2) (wb : wf64 b) (c : List Int) (lc : c.length = 2) (wc : wf64 c) :
    Calls Try.prog 4 #[.agg (iA a), .agg (iA b), .agg (iA c)] w fun e w' => e = .returned (.bool true) ∧ Below w.heap.size w w' := by
  obtain ⟨r1, v1, rfl⟩ : ∃ r v, a = [r, v] := by
    match a, la with
    | [r, v], _ => exact ⟨_, _, rfl⟩
  obtain ⟨r2, v2, rfl⟩ : ∃ r v, b = [r, v] := by
    match b, lb with
    | [r, v], _ => exact ⟨_, _, rfl⟩
  obtain ⟨r3, v3, rfl⟩ : ∃ r v, c = [r, v] := by
    match c, lc with
    | [r, v], _ => exact ⟨_, _, rfl⟩
  clear la lb lc wc
  have hI : IBlk (((w.alloc (.cells (iA [r1, v1]) 25)).alloc (.cells (iA [r2, v2]) 25)).alloc (.cells (iA [r3, v3]) 25)) w.heap.size 25 [r1, v1] := ((IBlk.new _ _ _).alloc _).alloc _
  have hJ : IBlk (((w.alloc (.cells (iA [r1, v1]) 25)).alloc (.cells (iA [r2, v2]) 25)).alloc (.cells (iA [r3, v3]) 25)) (w.heap.size + 1) 25 [r2, v2] := by
    have := (IBlk.new (w.alloc (.cells (iA [r1, v1]) 25)) 25 [r2, v2]).alloc (.cells (iA [r3, v3]) 25)
    simpa using this
  have hK : IBlk (((w.alloc (.cells (iA [r1, v1]) 25)).alloc (.cells (iA [r2, v2]) 25)).alloc (.cells (iA [r3, v3]) 25)) (w.heap.size + 2) 25 [r3, v3] := by
    have := IBlk.new ((w.alloc (.cells (iA [r1, v1]) 25)).alloc (.cells (iA [r2, v2]) 25)) 25 [r3, v3]
    simpa using this
  have hB : Below w.heap.size w (((w.alloc (.cells (iA [r1, v1]) 25)).alloc (.cells (iA [r2, v2]) 25)).alloc (.cells (iA [r3, v3]) 25)) := (((Below.refl _ _).alloc (Nat.le_refl _) _).alloc (by simp) _).alloc (by simp; omega) _
  go_enter Try.func4, Try.ntmps4
  go_upto_region 1 with fail
  generalize ((w.alloc (.cells (iA [r1, v1]) 25)).alloc (.cells (iA [r2, v2]) 25)).alloc (.cells (iA [r3, v3]) 25) = wz at hI hJ hK hB
  go_wp2_with fail
  (with_reducible refine (fit12_any wz).mono ?_)
  rintro e w1 ⟨rfl, hb⟩
  have hT : Tri w w.heap.size [r1, v1] [r2, v2] [r3, v3] w1 := (Tri.mk hI hJ hK hB).next hb
  clear hI hJ hK hB hb
  generalize hp : w.heap.size = p at hT
  have HL1 := fun w => less_any r1 v1 r2 v2 w
  have HL2 := fun w => less_any r2 v2 r1 v1 w
  have HL3 := fun w => less_any r1 v1 r1 v1 w
  have HL4 := fun w => less_any r2 v2 r3 v3 w
  have HL5 := fun w => less_any r1 v1 r3 v3 w
  go_upto_region 3 with fail
  go_cut [7, 8] (fun s7 s8 wx => s7 = .bool (lessB r1 v1 r2 v2) ∧ s8 = .bool (lessB r2 v2 r1 v1) ∧ Tri w p [r1, v1] [r2, v2] [r3, v3] wx)
  case first =>
    refine wp_region_noPanic ?_
    refine wp_region_held_drew (S := (Tri w p [r1, v1] [r2, v2] [r3, v3])) (by kernel_rfl) ?_ (fun hHeld => ?_)
    · exact hT.drew
    refine wpAnyH_take (i := 0) (oi := _) (v := ?_) (by simp only [List.getElem?_toArray, List.getElem?_cons_zero]; rfl) (by kernel_rfl) (by kernel_rfl) (by kernel_rfl) (by exact fun _ _ _ h => h) (Or.inl ⟨by rfl, ?_⟩) (by assumption) ?_
    rotate_left
    · intro w hSw
      try dsimp only at hSw
      obtain ⟨⟨q1, h1⟩, ⟨q2, h2⟩, -⟩ := hSw.got rfl rfl rfl
      clear hSw
      go_simp
      try with_reducible rfl
    try simp only [Act.put, List.setIfInBounds_toArray, List.set_cons_zero, List.set_cons_succ]
    refine wpAnyH_take (i := 1) (oi := _) (v := ?_) (by simp only [List.getElem?_toArray, List.getElem?_cons_succ, List.getElem?_cons_zero]; rfl) (by kernel_rfl) (by kernel_rfl) (by kernel_rfl) (by exact fun _ _ _ h => h) (Or.inl ⟨by rfl, ?_⟩) (by assumption) ?_
    rotate_left
    · intro w hSw
      try dsimp only at hSw
      obtain ⟨⟨q1, h1⟩, ⟨q2, h2⟩, -⟩ := hSw.got rfl rfl rfl
      clear hSw
      go_simp
      try with_reducible rfl
    try simp only [Act.put, List.setIfInBounds_toArray, List.set_cons_zero, List.set_cons_succ]
    refine wpAnyH_take (i := 3) (oi := _) (v := ?_) (by simp only [List.getElem?_toArray, List.getElem?_cons_succ, List.getElem?_cons_zero]; rfl) (by kernel_rfl) (by kernel_rfl) (by kernel_rfl) (by exact fun _ _ _ h => h) (Or.inl ⟨by rfl, ?_⟩) (by assumption) ?_
    rotate_left
    · intro w hSw
      try dsimp only at hSw
      obtain ⟨⟨q1, h1⟩, ⟨q2, h2⟩, -⟩ := hSw.got rfl rfl rfl
      clear hSw
      go_simp
      try with_reducible rfl
    try simp only [Act.put, List.setIfInBounds_toArray, List.set_cons_zero, List.set_cons_succ]
    refine wpAnyH_take (i := 4) (oi := _) (v := ?_) (by simp only [List.getElem?_toArray, List.getElem?_cons_succ, List.getElem?_cons_zero]; rfl) (by kernel_rfl) (by kernel_rfl) (by kernel_rfl) (by exact fun _ _ _ h => h) (Or.inl ⟨by rfl, ?_⟩) (by assumption) ?_
    rotate_left
    · intro w hSw
      try dsimp only at hSw
      obtain ⟨⟨q1, h1⟩, ⟨q2, h2⟩, -⟩ := hSw.got rfl rfl rfl
      clear hSw
      go_simp
      try with_reducible rfl
    try simp only [Act.put, List.setIfInBounds_toArray, List.set_cons_zero, List.set_cons_succ]
    refine wpAnyH_ready (rs := [2]) (by kernel_rfl) (by simp) ?_
    refine AllReadyH.cons (o := _) (by simp only [List.getElem?_toArray, List.getElem?_cons_succ, List.getElem?_cons_zero]; rfl) (fun K hK => ?_) AllReadyH.nil
    go_simp
    try dsimp only at hHeld
    go_at_call 9
    (with_reducible refine (HL1 _).mono ?_)
    rintro x w5 ⟨rfl, hx⟩
    have hh5 := hHeld.next hx
    try go_wp2_with fail
    refine hK.out _ _ ?_ (fun hHeld => ?_)
    · exact hh5
    clear hK K
    try simp only [Act.put, List.setIfInBounds_toArray, List.set_cons_zero, List.set_cons_succ]
    refine wpAnyH_ready (rs := [5]) (by kernel_rfl) (by simp) ?_
    refine AllReadyH.cons (o := _) (by simp only [List.getElem?_toArray, List.getElem?_cons_succ, List.getElem?_cons_zero]; rfl) (fun K hK => ?_) AllReadyH.nil
    go_simp
    try dsimp only at hHeld
    go_at_call 9
    (with_reducible refine (HL2 _).mono ?_)
    rintro x w5 ⟨rfl, hx⟩
    have hh5 := hHeld.next hx
    try go_wp2_with fail
    refine hK.out _ _ ?_ (fun hHeld => ?_)
    · exact hh5
    clear hK K
    try simp only [Act.put, List.setIfInBounds_toArray, List.set_cons_zero, List.set_cons_succ]
    refine wpAnyH_take (i := 6) (oi := _) (v := ?_) (by simp only [List.getElem?_toArray, List.getElem?_cons_succ, List.getElem?_cons_zero]; rfl) (by kernel_rfl) (by kernel_rfl) (by kernel_rfl) (by exact fun _ _ _ h => h) (Or.inl ⟨by rfl, ?_⟩) (by assumption) ?_
    rotate_left
    · intro w hSw
      try dsimp only at hSw
      obtain ⟨⟨q1, h1⟩, ⟨q2, h2⟩, -⟩ := hSw.got rfl rfl rfl
      clear hSw
      go_simp
      try with_reducible rfl
    try simp only [Act.put, List.setIfInBounds_toArray, List.set_cons_zero, List.set_cons_succ]
    refine wpAnyH_take (i := 7) (oi := _) (v := ?_) (by simp only [List.getElem?_toArray, List.getElem?_cons_succ, List.getElem?_cons_zero]; rfl) (by kernel_rfl) (by kernel_rfl) (by kernel_rfl) (by exact fun _ _ _ h => h) (Or.inl ⟨by rfl, ?_⟩) (by assumption) ?_
    rotate_left
    · intro w hSw
      try dsimp only at hSw
      obtain ⟨⟨q1, h1⟩, ⟨q2, h2⟩, -⟩ := hSw.got rfl rfl rfl
      clear hSw
      go_simp
      try with_reducible rfl
    try simp only [Act.put, List.setIfInBounds_toArray, List.set_cons_zero, List.set_cons_succ]
    refine wpAnyH_done (by kernel_rfl) ?_ _
    refine NoPanic.normal ?_
    go_wp2_with fail
    go_meet
    exact ⟨rfl, rfl, hHeld⟩
  case rest =>
    obtain ⟨rfl, rfl, hT⟩ := hcut
    have hq := fun w => Try.eqBlt (xs := [r1, v1]) (ys := [r2, v2]) rfl rfl wa wb w
    rw [less_self] at HL3
    clear wa wb HL1 HL2
    obtain ⟨⟨q1, h1⟩, ⟨q2, h2⟩, -⟩ := hT.got rfl rfl rfl
    have htr : lessB r1 v1 r2 v2 = true → lessB r2 v2 r3 v3 = true → lessB r1 v1 r3 v3 = true := less_trans
    cases hx : lessB r1 v1 r2 v2 with
    | true =>
      rw [less_one hx]
      rw [show decide ([r1, v1] = [r2, v2]) = false from decide_eq_false (less_unlike hx)] at hq
      have htr := htr hx
      clear hx
      go_wp2_with fail
      (with_reducible refine (HL3 wc).mono ?_)
      rintro e w2 ⟨rfl, hb⟩
      replace hT := hT.next hb
      clear hb HL3 hq q1 h1 q2 h2
      obtain ⟨⟨q1, h1⟩, ⟨q2, h2⟩, ⟨q3, h3⟩⟩ := hT.got rfl rfl rfl
      go_wp2_with fail
      (with_reducible refine (HL4 w2).mono ?_)
      rintro e w3 ⟨rfl, hb⟩
      replace hT := hT.next hb
      clear hb HL4 q1 h1 q2 h2 q3 h3
      obtain ⟨⟨q1, h1⟩, ⟨q2, h2⟩, ⟨q3, h3⟩⟩ := hT.got rfl rfl rfl
      cases hy : lessB r2 v2 r3 v3 with
      | false =>
        clear htr
        go_wp2_with fail
        go_ret
        exact ⟨rfl, hT.under⟩
      | true =>
        rw [htr hy] at HL5
        clear htr hy
        go_wp2_with fail
        (with_reducible refine (HL5 w3).mono ?_)
        rintro e w4 ⟨rfl, hb⟩
        go_wp2_with fail
        go_ret
        exact ⟨rfl, (hT.next hb).under⟩
    | false =>
      clear htr
      cases hy : lessB r2 v2 r1 v1 with
      | true =>
        rw [show decide ([r1, v1] = [r2, v2]) = false from decide_eq_false (fun e => less_unlike hy e.symm)] at hq
        clear hx hy
        go_wp2_with fail
        (with_reducible refine (HL3 wc).mono ?_)
        rintro e w2 ⟨rfl, hb⟩
        go_wp2_with fail
        go_ret
        exact ⟨rfl, (hT.next hb).under⟩
      | false =>
        rw [show decide ([r1, v1] = [r2, v2]) = true from decide_eq_true (less_none hx hy)] at hq
        clear hx hy
        go_wp2_with fail
        (with_reducible refine (HL3 wc).mono ?_)
        rintro e w2 ⟨rfl, hb⟩
        go_wp2_with fail
        go_ret
        exact ⟨rfl, (hT.next hb).under⟩
end Go.Proofs.Ytfcoeopemgcjlaa.ballotLess
