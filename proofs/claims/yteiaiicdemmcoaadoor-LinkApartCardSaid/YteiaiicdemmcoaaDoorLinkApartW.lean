/- The walk of LinkApart. -/
import Derived.Test.YteiaiicdemmcoaaDoorLnkF
import Derived.Test.YteiaiicdemmcoaaDoorBitsI
import Derived.Test.YteiaiicdemmcoaaDoorLnkP
import Derived.Deep.RegionHeld3
import Derived.Deep.RegionWith
import Derived.RegionTactic
namespace Go.Proofs.YteiaiicdemmcoaaDoor.linkApart
open Go.RowKit

attribute [local go_sem ↓] loadP_fold
attribute [local go_sem] loadP_has
theorem mask8 (x : Int) : ∃ i : Nat, bits .and .i64 x 255 = (i : Int) ∧ i < 256 := by
  refine ⟨(x % 256).toNat, ?_, by omega⟩
  rw [show bits .and .i64 x 255 = x % 256 from i64_and_mask x 8 (by omega)]; omega
/-- A pair of which the first so many are laid anew. -/
def pairK (a b x y : Int) : Nat → List Int
  | 0 => [a, b]
  | 1 => [x, b]
  | _ => [x, y]
/-- Two pairs in two blocks, and what a round of the loop does with them. -/
theorem pair_step {w0 w : World} {g h : Nat} {t : TypeId} {xs ys : List Int} {k : Nat} {u v x y : Int} (hg : IBlk w g t xs) (hh : IBlk w h t ys) (hne : g ≠ h) (hB : Below w0.heap.size w0 w) (lg : w0.heap.size ≤ g) (lh : w0.heap.size ≤ h) (hx : xs[k]? = some u) (hy : ys[k]? = some v) :
    w.drew.cell? ⟨g, k, none⟩ = some (.int .i64 u) ∧ w.drew.cell? ⟨h, k, none⟩ = some (.int .i64 v) ∧ (w.setCell ⟨g, k, none⟩ (.int .i64 x)).drew.cell? ⟨h, k, none⟩ = some (.int .i64 v) ∧ w.drew.frozen? ⟨g, k, none⟩ = false ∧ w.drew.frozen? ⟨h, k, none⟩ = false ∧ (w.setCell ⟨g, k, none⟩ (.int .i64 x)).drew.frozen? ⟨h, k, none⟩ = false ∧
    IBlk ((w.setCell ⟨g, k, none⟩ (.int .i64 x)).setCell ⟨h, k, none⟩ (.int .i64 y)) g t (xs.set k x) ∧ IBlk ((w.setCell ⟨g, k, none⟩ (.int .i64 x)).setCell ⟨h, k, none⟩ (.int .i64 y)) h t (ys.set k y) ∧ Below w0.heap.size w0 ((w.setCell ⟨g, k, none⟩ (.int .i64 x)).setCell ⟨h, k, none⟩ (.int .i64 y)) := by
  have h1 : IBlk (w.setCell ⟨g, k, none⟩ (.int .i64 x)) h t ys := hh.only ((Only.refl (fun i => i = g) w).setCell (.inl rfl) _) (fun e => hne e.symm)
  have g1 := hg.set k x
  have h2 := h1.set k y
  have g2 : IBlk ((w.setCell ⟨g, k, none⟩ (.int .i64 x)).setCell ⟨h, k, none⟩ (.int .i64 y)) g t (xs.set k x) := g1.only ((Only.refl (fun i => i = h) _).setCell (.inl rfl) _) hne
  exact ⟨hg.cellAt k u hx, hh.cellAt k v hy, h1.cellAt k v hy, hg.frozen k, hh.frozen k, h1.frozen k, g2, h2, (hB.setCell lg _).setCell lh _⟩
set_option maxRecDepth 100000 in
set_option maxHeartbeats 8000000 in
theorem walk (w : World) (hL : Laid w) (av : List Int) (hla : av.length = 2) (_ : wf64 av) (bs : List Int) (hlb : bs.length = 2) (_ : wf64 bs) (A : Option Addr) (n c : Nat) (zs : List Int) (hr : Reads w w.heap.size 1 A n (u8V zs)) (hnc : n ≤ c) (hcm : c ≤ maxLen) (_ : c * 1 ≤ 140737488351232) (hwf : ∀ z ∈ zs, (Lit.int .u8 z).wf = true) :
    Calls Tryd.prog 5 #[.agg (iA av), .agg (iA bs), .slice A n c] w fun e w' => e = .returned (.bool true) ∧ Below w.heap.size w w' := by
  obtain ⟨a, a', rfl⟩ : ∃ a d, av = [a, d] := by
    match av, hla with
    | [a, d], _ => exact ⟨_, _, rfl⟩
  obtain ⟨b, b', rfl⟩ : ∃ a d, bs = [a, d] := by
    match bs, hlb with
    | [a, d], _ => exact ⟨_, _, rfl⟩
  have hs : SlIn w w.heap.size ⟨A, n, c, zs⟩ := ⟨hr, hnc, hcm, hwf⟩
  obtain ⟨i, hi, i8⟩ := mask8 a
  obtain ⟨j, hj, j8⟩ := mask8 a'
  obtain ⟨k, hk, k8⟩ := mask8 b
  obtain ⟨l, hl, l8⟩ := mask8 b'
  have hbd := hide (bytes_bd hwf)
  clear hr hwf hla hlb
  have hI0 : IBlk ((w.alloc (.cells (iA [a, a']) 22)).alloc (.cells (iA [b, b']) 22)) w.heap.size 22 [a, a'] := (IBlk.new _ _ _).alloc _
  have hJ0 : IBlk ((w.alloc (.cells (iA [a, a']) 22)).alloc (.cells (iA [b, b']) 22)) (w.heap.size + 1) 22 [b, b'] := by
    have := IBlk.new (w.alloc (.cells (iA [a, a']) 22)) 22 [b, b']
    simpa using this
  have hB0 : Below w.heap.size w ((w.alloc (.cells (iA [a, a']) 22)).alloc (.cells (iA [b, b']) 22)) := ((Below.refl _ _).alloc (Nat.le_refl _) _).alloc (by simp) _
  have hL0 : Laid ((w.alloc (.cells (iA [a, a']) 22)).alloc (.cells (iA [b, b']) 22)) := (hL.alloc _).alloc _
  go_enter Tryd.func5, Tryd.ntmps5
  go_wp2_with fail
  generalize (w.alloc (.cells (iA [a, a']) 22)).alloc (.cells (iA [b, b']) 22) = w0 at *
  (with_reducible refine (fit_runs _ hL0).mono ?_)
  rintro e w1 ⟨rfl, hb0⟩
  have hI := hI0.below hb0 hI0.lt
  have hJ := hJ0.below hb0 hJ0.lt
  have hB := hB0.trans (hb0.mono hB0.size)
  clear hI0 hJ0 hb0 hL0 hB0
  by_cases hbig : 500 < n
  · have d0 : (500 : Int) < (n : Int) := by omega
    go_wp2_with fail
    go_ret
    exact ⟨rfl, hB⟩
  · have d0 : ¬ (500 : Int) < (n : Int) := by omega
    go_wp2_with fail
    go_loopw [7, 17] (fun s7 s17 wr => ∃ p : Nat, p ≤ 2 ∧ s17 = .int .i64 p ∧ IBlk wr w.heap.size 22 (pairK a a' i j p) ∧ IBlk wr (w.heap.size + 1) 22 (pairK b b' k l p) ∧ Below w.heap.size w wr) (fun _ s17 _ => 2 - (intOf s17).toNat)
    case atStart => exact ⟨0, by omega, rfl, hI, hJ, hB⟩
    case round =>
      clear hI hJ hB
      obtain ⟨p, hp, rfl, hI, hJ, hB⟩ := hrel
      rcases (by omega : p = 0 ∨ p = 1 ∨ p = 2) with rfl | rfl | rfl
      · obtain ⟨f1, f2, f3, f4, f5, f6, f7, f8, f9⟩ := pair_step (k := 0) (x := i) (y := k) hI hJ (by omega) hB (Nat.le_refl _) (by omega) rfl rfl
        clear hI hJ hB
        go_wp2_with fail
        go_region
        go_wp2_with fail
        go_roundw
        case rel => exact ⟨1, by omega, by go_num, f7.drew, f8.drew, f9.drew⟩
        case measure => simp [intOf]
      · obtain ⟨f1, f2, f3, f4, f5, f6, f7, f8, f9⟩ := pair_step (k := 1) (x := j) (y := l) hI hJ (by omega) hB (Nat.le_refl _) (by omega) rfl rfl
        clear hI hJ hB
        go_wp2_with fail
        go_region
        go_wp2_with fail
        go_roundw
        case rel => exact ⟨2, by omega, by go_num, f7.drew, f8.drew, f9.drew⟩
        case measure => simp [intOf]
      · have hI : IBlk wr w.heap.size 22 [(i : Int), (j : Int)] := hI
        have hJ : IBlk wr (w.heap.size + 1) 22 [(k : Int), (l : Int)] := hJ
        have hL1 := hL.below hB hL.lt
        have hs1 := hs.next hB
        have HF : Hid (∀ W, Below wr.heap.size wr W → Calls Tryd.prog 8 #[.int .i64 i, .int .i64 j, .slice A n c] W fun e w' => ∃ t : Sl, e = .returned (slV t) ∧ t.zs = frL i j zs ∧ SlIn w' w'.heap.size t ∧ Below W.heap.size W w') := hide fun W hW => Frame_in W (hL1.below hW hL1.lt) i8 j8 A n c zs (hs1.next hW) (by omega)
        have HG : Hid (∀ W, Below wr.heap.size wr W → Calls Tryd.prog 8 #[.int .i64 k, .int .i64 l, .slice A n c] W fun e w' => ∃ t : Sl, e = .returned (slV t) ∧ t.zs = frL k l zs ∧ SlIn w' w'.heap.size t ∧ Below W.heap.size W w') := hide fun W hW => Frame_in W (hL1.below hW hL1.lt) k8 l8 A n c zs (hs1.next hW) (by omega)
        go_upto_region 10 with fail
        go_cut [8, 9] (fun s8 s9 wx => ∃ f g : Sl, s8 = slV f ∧ s9 = slV g ∧ f.zs = frL i j zs ∧ g.zs = frL k l zs ∧ f.n = n + 6 ∧ SlIn wx wx.heap.size f ∧ SlIn wx wx.heap.size g ∧ Below wr.heap.size wr wx)
        case first =>
          refine wp_region_noPanic ?_
          refine wp_region_held_drew (S := (fun W => Below wr.heap.size wr W)) (by kernel_rfl) ?_ (fun hHeld => ?_)
          · exact (Below.refl wr.heap.size wr).drew
          refine wpAnyH_take (i := 0) (oi := _) (v := ?_) (by simp only [List.getElem?_toArray, List.getElem?_cons_zero]; rfl) (by kernel_rfl) (by kernel_rfl) (by kernel_rfl) (by exact fun _ _ _ h => h) (Or.inl ⟨by rfl, ?_⟩) (by assumption) ?_
          rotate_left
          · intro w hSw
            try dsimp only at hSw
            have s1 := hI.below hSw hI.lt
            have s2 := hJ.below hSw hJ.lt
            have k1 := s1.cellAt 0 _ rfl
            have k2 := s1.cellAt 1 _ rfl
            have k3 := s2.cellAt 0 _ rfl
            have k4 := s2.cellAt 1 _ rfl
            clear s1 s2 hSw
            go_simp
            try with_reducible rfl
          try simp only [Act.put, List.setIfInBounds_toArray, List.set_cons_zero, List.set_cons_succ]
          refine wpAnyH_take (i := 1) (oi := _) (v := ?_) (by simp only [List.getElem?_toArray, List.getElem?_cons_succ, List.getElem?_cons_zero]; rfl) (by kernel_rfl) (by kernel_rfl) (by kernel_rfl) (by exact fun _ _ _ h => h) (Or.inl ⟨by rfl, ?_⟩) (by assumption) ?_
          rotate_left
          · intro w hSw
            try dsimp only at hSw
            have s1 := hI.below hSw hI.lt
            have s2 := hJ.below hSw hJ.lt
            have k1 := s1.cellAt 0 _ rfl
            have k2 := s1.cellAt 1 _ rfl
            have k3 := s2.cellAt 0 _ rfl
            have k4 := s2.cellAt 1 _ rfl
            clear s1 s2 hSw
            go_simp
            try with_reducible rfl
          try simp only [Act.put, List.setIfInBounds_toArray, List.set_cons_zero, List.set_cons_succ]
          refine wpAnyH_take (i := 2) (oi := _) (v := ?_) (by simp only [List.getElem?_toArray, List.getElem?_cons_succ, List.getElem?_cons_zero]; rfl) (by kernel_rfl) (by kernel_rfl) (by kernel_rfl) (by exact fun _ _ _ h => h) (Or.inl ⟨by rfl, ?_⟩) (by assumption) ?_
          rotate_left
          · intro w hSw
            try dsimp only at hSw
            have s1 := hI.below hSw hI.lt
            have s2 := hJ.below hSw hJ.lt
            have k1 := s1.cellAt 0 _ rfl
            have k2 := s1.cellAt 1 _ rfl
            have k3 := s2.cellAt 0 _ rfl
            have k4 := s2.cellAt 1 _ rfl
            clear s1 s2 hSw
            go_simp
            try with_reducible rfl
          try simp only [Act.put, List.setIfInBounds_toArray, List.set_cons_zero, List.set_cons_succ]
          refine wpAnyH_take (i := 3) (oi := _) (v := ?_) (by simp only [List.getElem?_toArray, List.getElem?_cons_succ, List.getElem?_cons_zero]; rfl) (by kernel_rfl) (by kernel_rfl) (by kernel_rfl) (by exact fun _ _ _ h => h) (Or.inl ⟨by rfl, ?_⟩) (by assumption) ?_
          rotate_left
          · intro w hSw
            try dsimp only at hSw
            have s1 := hI.below hSw hI.lt
            have s2 := hJ.below hSw hJ.lt
            have k1 := s1.cellAt 0 _ rfl
            have k2 := s1.cellAt 1 _ rfl
            have k3 := s2.cellAt 0 _ rfl
            have k4 := s2.cellAt 1 _ rfl
            clear s1 s2 hSw
            go_simp
            try with_reducible rfl
          try simp only [Act.put, List.setIfInBounds_toArray, List.set_cons_zero, List.set_cons_succ]
          refine wpAnyH_take (i := 4) (oi := _) (v := ?_) (by simp only [List.getElem?_toArray, List.getElem?_cons_succ, List.getElem?_cons_zero]; rfl) (by kernel_rfl) (by kernel_rfl) (by kernel_rfl) (by exact fun _ _ _ h => h) (Or.inl ⟨by rfl, ?_⟩) (by assumption) ?_
          rotate_left
          · intro w hSw
            try dsimp only at hSw
            have s1 := hI.below hSw hI.lt
            have s2 := hJ.below hSw hJ.lt
            have k1 := s1.cellAt 0 _ rfl
            have k2 := s1.cellAt 1 _ rfl
            have k3 := s2.cellAt 0 _ rfl
            have k4 := s2.cellAt 1 _ rfl
            clear s1 s2 hSw
            go_simp
            try with_reducible rfl
          try simp only [Act.put, List.setIfInBounds_toArray, List.set_cons_zero, List.set_cons_succ]
          refine wpAnyH_take (i := 6) (oi := _) (v := ?_) (by simp only [List.getElem?_toArray, List.getElem?_cons_succ, List.getElem?_cons_zero]; rfl) (by kernel_rfl) (by kernel_rfl) (by kernel_rfl) (by exact fun _ _ _ h => h) (Or.inl ⟨by rfl, ?_⟩) (by assumption) ?_
          rotate_left
          · intro w hSw
            try dsimp only at hSw
            have s1 := hI.below hSw hI.lt
            have s2 := hJ.below hSw hJ.lt
            have k1 := s1.cellAt 0 _ rfl
            have k2 := s1.cellAt 1 _ rfl
            have k3 := s2.cellAt 0 _ rfl
            have k4 := s2.cellAt 1 _ rfl
            clear s1 s2 hSw
            go_simp
            try with_reducible rfl
          try simp only [Act.put, List.setIfInBounds_toArray, List.set_cons_zero, List.set_cons_succ]
          refine wpAnyH_take (i := 7) (oi := _) (v := ?_) (by simp only [List.getElem?_toArray, List.getElem?_cons_succ, List.getElem?_cons_zero]; rfl) (by kernel_rfl) (by kernel_rfl) (by kernel_rfl) (by exact fun _ _ _ h => h) (Or.inl ⟨by rfl, ?_⟩) (by assumption) ?_
          rotate_left
          · intro w hSw
            try dsimp only at hSw
            have s1 := hI.below hSw hI.lt
            have s2 := hJ.below hSw hJ.lt
            have k1 := s1.cellAt 0 _ rfl
            have k2 := s1.cellAt 1 _ rfl
            have k3 := s2.cellAt 0 _ rfl
            have k4 := s2.cellAt 1 _ rfl
            clear s1 s2 hSw
            go_simp
            try with_reducible rfl
          try simp only [Act.put, List.setIfInBounds_toArray, List.set_cons_zero, List.set_cons_succ]
          refine wpAnyH_take (i := 8) (oi := _) (v := ?_) (by simp only [List.getElem?_toArray, List.getElem?_cons_succ, List.getElem?_cons_zero]; rfl) (by kernel_rfl) (by kernel_rfl) (by kernel_rfl) (by exact fun _ _ _ h => h) (Or.inl ⟨by rfl, ?_⟩) (by assumption) ?_
          rotate_left
          · intro w hSw
            try dsimp only at hSw
            have s1 := hI.below hSw hI.lt
            have s2 := hJ.below hSw hJ.lt
            have k1 := s1.cellAt 0 _ rfl
            have k2 := s1.cellAt 1 _ rfl
            have k3 := s2.cellAt 0 _ rfl
            have k4 := s2.cellAt 1 _ rfl
            clear s1 s2 hSw
            go_simp
            try with_reducible rfl
          try simp only [Act.put, List.setIfInBounds_toArray, List.set_cons_zero, List.set_cons_succ]
          refine wpAnyH_take (i := 9) (oi := _) (v := ?_) (by simp only [List.getElem?_toArray, List.getElem?_cons_succ, List.getElem?_cons_zero]; rfl) (by kernel_rfl) (by kernel_rfl) (by kernel_rfl) (by exact fun _ _ _ h => h) (Or.inl ⟨by rfl, ?_⟩) (by assumption) ?_
          rotate_left
          · intro w hSw
            try dsimp only at hSw
            have s1 := hI.below hSw hI.lt
            have s2 := hJ.below hSw hJ.lt
            have k1 := s1.cellAt 0 _ rfl
            have k2 := s1.cellAt 1 _ rfl
            have k3 := s2.cellAt 0 _ rfl
            have k4 := s2.cellAt 1 _ rfl
            clear s1 s2 hSw
            go_simp
            try with_reducible rfl
          try simp only [Act.put, List.setIfInBounds_toArray, List.set_cons_zero, List.set_cons_succ]
          refine wpAnyH_take (i := 10) (oi := _) (v := ?_) (by simp only [List.getElem?_toArray, List.getElem?_cons_succ, List.getElem?_cons_zero]; rfl) (by kernel_rfl) (by kernel_rfl) (by kernel_rfl) (by exact fun _ _ _ h => h) (Or.inl ⟨by rfl, ?_⟩) (by assumption) ?_
          rotate_left
          · intro w hSw
            try dsimp only at hSw
            have s1 := hI.below hSw hI.lt
            have s2 := hJ.below hSw hJ.lt
            have k1 := s1.cellAt 0 _ rfl
            have k2 := s1.cellAt 1 _ rfl
            have k3 := s2.cellAt 0 _ rfl
            have k4 := s2.cellAt 1 _ rfl
            clear s1 s2 hSw
            go_simp
            try with_reducible rfl
          try simp only [Act.put, List.setIfInBounds_toArray, List.set_cons_zero, List.set_cons_succ]
          refine wpAnyH_ready (rs := [5]) (by kernel_rfl) (by simp) ?_
          refine AllReadyH.cons (o := _) (by simp only [List.getElem?_toArray, List.getElem?_cons_succ, List.getElem?_cons_zero]; rfl) (fun K hK => ?_) AllReadyH.nil
          go_simp
          try dsimp only at hHeld
          go_at_call 8
          (with_reducible refine (HF.out _ hHeld).mono ?_)
          rintro x w5 ⟨f, rfl, fz, fi, fb⟩
          have hh5 := hHeld.trans (fb.mono hHeld.size)
          try go_wp2_with fail
          refine hK.out _ _ ?_ (fun hHeld => ?_)
          · exact hh5
          clear hK K
          try simp only [Act.put, List.setIfInBounds_toArray, List.set_cons_zero, List.set_cons_succ]
          refine wpAnyH_ready (rs := [11]) (by kernel_rfl) (by simp) ?_
          refine AllReadyH.cons (o := _) (by simp only [List.getElem?_toArray, List.getElem?_cons_succ, List.getElem?_cons_zero]; rfl) (fun K hK => ?_) AllReadyH.nil
          go_simp
          try dsimp only at hHeld
          go_at_call 8
          (with_reducible refine (HG.out _ hHeld).mono ?_)
          rintro x w6 ⟨g, rfl, gz, gi, gb⟩
          have hh6 := hHeld.trans (gb.mono hHeld.size)
          try go_wp2_with fail
          refine hK.out _ _ ?_ (fun hHeld => ?_)
          · exact hh6
          clear hK K
          try simp only [Act.put, List.setIfInBounds_toArray, List.set_cons_zero, List.set_cons_succ]
          refine wpAnyH_take (i := 12) (oi := _) (v := ?_) (by simp only [List.getElem?_toArray, List.getElem?_cons_succ, List.getElem?_cons_zero]; rfl) (by kernel_rfl) (by kernel_rfl) (by kernel_rfl) (by exact fun _ _ _ h => h) (Or.inl ⟨by rfl, ?_⟩) (by assumption) ?_
          rotate_left
          · intro w hSw
            try dsimp only at hSw
            have s1 := hI.below hSw hI.lt
            have s2 := hJ.below hSw hJ.lt
            have k1 := s1.cellAt 0 _ rfl
            have k2 := s1.cellAt 1 _ rfl
            have k3 := s2.cellAt 0 _ rfl
            have k4 := s2.cellAt 1 _ rfl
            clear s1 s2 hSw
            go_simp
            try with_reducible rfl
          try simp only [Act.put, List.setIfInBounds_toArray, List.set_cons_zero, List.set_cons_succ]
          refine wpAnyH_take (i := 13) (oi := _) (v := ?_) (by simp only [List.getElem?_toArray, List.getElem?_cons_succ, List.getElem?_cons_zero]; rfl) (by kernel_rfl) (by kernel_rfl) (by kernel_rfl) (by exact fun _ _ _ h => h) (Or.inl ⟨by rfl, ?_⟩) (by assumption) ?_
          rotate_left
          · intro w hSw
            try dsimp only at hSw
            have s1 := hI.below hSw hI.lt
            have s2 := hJ.below hSw hJ.lt
            have k1 := s1.cellAt 0 _ rfl
            have k2 := s1.cellAt 1 _ rfl
            have k3 := s2.cellAt 0 _ rfl
            have k4 := s2.cellAt 1 _ rfl
            clear s1 s2 hSw
            go_simp
            try with_reducible rfl
          try simp only [Act.put, List.setIfInBounds_toArray, List.set_cons_zero, List.set_cons_succ]
          refine wpAnyH_done (by kernel_rfl) ?_ _
          refine NoPanic.normal ?_
          go_wp2_with fail
          go_meet
          exact ⟨f, g, rfl, rfl, fz, gz, by have h1 := fi.len; have h2 := hs1.len; rw [fz, frL_length] at h1; simp only at h2; omega, fi.next gb, gi, hh6⟩
        case rest =>
          obtain ⟨⟨fA, fn, fc, fz⟩, ⟨gA, gn, gc, gz⟩, hf, hg, e1, e2, e3, sf, sg, hbc⟩ := hcut
          simp only at hf hg e1 e2 e3
          subst hf hg e1 e2
          have hI := hI.below hbc hI.lt
          have hJ := hJ.below hbc hJ.lt
          have hB := hB.trans (hbc.mono hB.size)
          have hLc := hL1.below hbc hL1.lt
          have hO := hide (Open_at wc hLc (x := k) (y := l) rfl rfl fA fn fc _ sf (by omega))
          have c0 := hJ.cellAt 0 _ rfl
          have c1 := hJ.cellAt 1 _ rfl
          have hlit : ∀ m : Nat, m < 256 → (Lit.int .i64 (m : Int)).wf = true := fun m h => WalkArith.wf_i64 (by omega)
          have hw1 : wf64 [(i : Int), (j : Int)] := by intro z hz; simp at hz; rcases hz with rfl | rfl; exact hlit i i8; exact hlit j j8
          have hw2 : wf64 [(k : Int), (l : Int)] := by intro z hz; simp at hz; rcases hz with rfl | rfl; exact hlit k k8; exact hlit l l8
          have hq := fun w => Tryd.eqPair (xs := [(i : Int), (j : Int)]) (ys := [(k : Int), (l : Int)]) rfl rfl hw1 hw2 w
          have hse := strOf_eq (frL_bd i8 j8 hbd.out) (frL_bd k8 l8 hbd.out)
          have HD : Hid (decide ([(i : Int), (j : Int)] = [(k : Int), (l : Int)]) = decide (k = i ∧ l = j)) := hide (by
            by_cases h : k = i ∧ l = j
            · obtain ⟨rfl, rfl⟩ := h; simp
            · rw [decide_eq_false h, decide_eq_false]
              simp only [List.cons.injEq, and_true]
              omega)
          have HE : Hid (eqB (frL i j zs) (frL k l zs) = decide (k = i ∧ l = j)) := hide (by
            unfold eqB
            by_cases h : k = i ∧ l = j
            · obtain ⟨rfl, rfl⟩ := h; simp
            · rw [decide_eq_false h, decide_eq_false]
              intro e
              exact h ⟨(frL_inj e).1.symm, (frL_inj e).2.1.symm⟩)
          rw [HE.out] at hse
          simp only [HD.out] at hq
          clear HD HE hlit hw1 hw2 e3 hL1 hs1 HF HG hs hi hj hk hl
          go_wp2_with fail
          (with_reducible refine hO.out.mono ?_)
          rintro e w5 ⟨hb5, ho⟩
          clear hO c0 c1
          have hI := hI.below hb5 hI.lt
          have hJ := hJ.below hb5 hJ.lt
          have hB := hB.trans (hb5.mono hB.size)
          have r1 := hI.drew.has 0 2 (Nat.le_refl _)
          have r2 : rowAt w5.drew w.heap.size 0 2 = iA [(i : Int), (j : Int)] := hI.drew.row 0 2 (Nat.le_refl _)
          have r3 := hJ.drew.has 0 2 (Nat.le_refl _)
          have r4 : rowAt w5.drew (w.heap.size + 1) 0 2 = iA [(k : Int), (l : Int)] := hJ.drew.row 0 2 (Nat.le_refl _)
          have s1 := reads_string (sf.next hb5).drew.reads fc
          have s2 := reads_string (sg.next hb5).drew.reads gc
          simp only at s1 s2
          generalize strOfNums (frL i j zs) = st1 at s1 hse
          generalize strOfNums (frL k l zs) = st2 at s2 hse
          clear hI hJ sf sg
          rw [opB_frL] at ho
          by_cases hD : k = i ∧ l = j
          · rw [decide_eq_true hD] at ho hse
            simp only [decide_eq_true hD] at hq
            clear hD
            rcases ho with ⟨_, t, rfl, _⟩ | ⟨h, _⟩
            · go_wp2_with fail
              go_region
              go_wp2_with fail
              go_ret
              exact ⟨rfl, hB.drew⟩
            · cases h
          · rw [decide_eq_false hD] at ho hse
            simp only [decide_eq_false hD] at hq
            clear hD
            rcases ho with ⟨h, _⟩ | ⟨_, rfl⟩
            · cases h
            · go_wp2_with fail
              go_region
              go_wp2_with fail
              go_ret
              exact ⟨rfl, hB.drew⟩
end Go.Proofs.YteiaiicdemmcoaaDoor.linkApart
