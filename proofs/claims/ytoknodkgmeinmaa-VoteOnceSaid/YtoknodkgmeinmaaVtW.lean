/- The contract of vote's Vowed. (Printed by gen_vowed.py.) -/
import Derived.Test.YtoknodkgmeinmaaVtU
import Derived.Test.YtoknodkgmeinmaaVtN
import Derived.Test.YtoknodkgmeinmaaVtA
namespace Go.Proofs.Ytoknodkgmeinmaa
open Go.RowKit

theorem cnt_no (x : Vt) (who r u hr hw : Int) (c : List Int) (h : putsB x = true ∨ cntB x who r u = false) : vowB x who r u hr hw c = false ∧ vowV x who r u hr hw c = x := by
  rcases h with h | h
  · exact ⟨by rw [vowB, h]; rfl, by rw [vowV, if_neg (fun k => by rw [h] at k; cases k.1)]⟩
  · exact ⟨by rw [vowB, h]; simp, by rw [vowV, if_neg (fun k => by rw [h] at k; cases k.2)]⟩
theorem cnt_yes (x : Vt) (k : Nat) (r u hr hw : Int) (c : List Int) (h : putsB x = false) (h' : cntB x (k : Int) r u = true) :
    vowV x (k : Int) r u hr hw c = heardV { x with vo := x.vo ||| 2 ^ k } hr hw c ∧ vowB x (k : Int) r u hr hw c = putsB (heardV { x with vo := x.vo ||| 2 ^ k } hr hw c) := by
  have e : vowV x (k : Int) r u hr hw c = heardV { x with vo := x.vo ||| 2 ^ k } hr hw c := by rw [vowV, if_pos ⟨h, h'⟩]; rfl
  exact ⟨e, by rw [vowB, h, h', e]; rfl⟩
attribute [local go_sem ↓] loadViewF_fold storeViewF_fold allocViewF_fold buildViewF_fold loadBltF_fold storeBltF_fold allocBltF_fold buildBltF_fold loadChgF_fold storeChgF_fold allocChgF_fold buildChgF_fold
attribute [local go_sem] loadViewF_has storeViewF_has allocViewF_run buildViewF_none buildViewF_two loadBltF_has storeBltF_has allocBltF_run buildBltF_none buildBltF_0 buildBltF_0_1 loadChgF_has storeChgF_has allocChgF_run buildChgF_three buildChgF_none
set_option maxRecDepth 100000 in
set_option maxHeartbeats 6400000 in
theorem vVowed_any (x : Vt) (hx : x.Ok) (wx : wf64 [x.r, x.w]) (who r u hr hw : Int) (wr : wf64 [r, u]) (c : List Int) (hc : c.length = 3) (p : Nat) (w : World) (hI : IBlk w p 70 (vtL x)) :
    Calls Try.prog 14 #[.pointer (some ⟨p, 0, none⟩), .int .i64 who, .agg (iA [r, u]), .agg (iA [hr, hw]), .agg (iA c)] w fun e w' => e = .returned (.bool (vowB x who r u hr hw c)) ∧ IBlk w' p 70 (vtL (vowV x who r u hr hw c)) ∧ Only (· = p) w w' := by
  have HP := fun y hy p w h => vPutting_any y hy p w h
  have HP0 := fun w h => vPutting_any x hx p w h
  have HN := fun w h => vcounts_any x hx wx who r u wr p w h
  have h5a := hI.lt
  obtain ⟨hJ, hH, hC, hB, hsz⟩ := three_new w 31 31 33 [r, u] [hr, hw] c
  have hI1 := hI.below hB h5a
  clear hI
  have CN := cnt_no x who r u hr hw c
  have CY := cnt_yes x who.toNat r u hr hw c
  have HW := @cnt_who x who r u
  generalize hpb : putsB x = pb at HP0 CN CY
  generalize hcb : cntB x who r u = cb at HN CN HW
  generalize hvb : vowB x who r u hr hw c = vb at CN ⊢
  generalize hvv : vowV x who r u hr hw c = vv at CN ⊢
  generalize hl1 : [r, u] = l1 at HN hJ hH hC hB hsz hI1 ⊢
  have h1l : l1.length = 2 := by rw [← hl1]; rfl
  have HH := hide (And.intro hpb (And.intro hcb (And.intro hvb (And.intro hvv hl1))))
  clear hpb hcb hvb hvv hl1
  go_enter Try.func14, Try.ntmps14
  go_upto_region 1 with fail
  generalize ((w.alloc (.cells (iA l1) 31)).alloc (.cells (iA [hr, hw]) 31)).alloc (.cells (iA c) 33) = w1 at hJ hH hC hB hsz hI1
  go_wp2_with fail
  (with_reducible refine (HP0 w1 hI1).mono ?_)
  rintro e w2 ⟨rfl, hb⟩
  have hI2 := hI1.below hb hI1.lt
  have hJ2 := hJ.below hb hJ.lt
  have hH2 := hH.below hb hH.lt
  have hC2 := hC.below hb hC.lt
  have hO2 := (only_of_below hB (· = p)).below hb
  have hs2 := hb.size
  clear hI1 hJ hH hC hB hb HP0
  cases pb with
  | true =>
    obtain ⟨rfl, rfl⟩ := CN (.inl rfl)
    go_wp2_with fail
    go_ret
    exact ⟨rfl, hI2, hO2⟩
  | false =>
    obtain ⟨q1, h1⟩ := hJ2.whole (n := 2) h1l
    go_wp2_with fail
    (with_reducible refine (HN w2 hI2).mono ?_)
    rintro e w3 ⟨rfl, hb⟩
    have hI3 := hI2.below hb hI2.lt
    have hH3 := hH2.below hb hH2.lt
    have hC3 := hC2.below hb hC2.lt
    have hO3 := hO2.below hb
    have hs3 := hb.size
    clear hI2 hJ2 hH2 hC2 hO2 hb HN q1 h1
    cases cb with
    | false =>
      obtain ⟨rfl, rfl⟩ := CN (.inr rfl)
      go_wp2_with fail
      go_ret
      exact ⟨rfl, hI3, hO3⟩
    | true =>
      obtain ⟨-, -, k, rfl, hk, -⟩ := HW rfl
      obtain ⟨cy1, cy2⟩ := CY (by trivial) (by rw [Int.toNat_natCast]; exact HH.out.2.1)
      rw [Int.toNat_natCast, HH.out.2.2.2.1] at cy1
      rw [Int.toNat_natCast, HH.out.2.2.1] at cy2
      clear CN CY HW HH
      have ob := or_is hx.vo hk
      have hy : ({ x with vo := x.vo ||| 2 ^ k } : Vt).Ok := ⟨hx.v, hx.c, bit_lt hx.vo hk, hx.tk⟩
      have c1 := vt_vo hx hI3.drew
      have f1 := hI3.drew.frozen 14
      have hI4 := hI3.drew.set 14 ((x.vo ||| 2 ^ k : Nat) : Int)
      rw [vt_setVo hx] at hI4
      have hO4 := hO3.drew.trans (only_cell w3.drew p 14 (.int .i64 ((x.vo ||| 2 ^ k : Nat) : Int))) (fun i h => .inl h)
      have hH4 := hH3.drew.only (only_cell w3.drew p 14 (.int .i64 ((x.vo ||| 2 ^ k : Nat) : Int))) (fun e : w.heap.size + 1 = p => by omega)
      have hC4 := hC3.drew.only (only_cell w3.drew p 14 (.int .i64 ((x.vo ||| 2 ^ k : Nat) : Int))) (fun e : w.heap.size + 1 + 1 = p => by omega)
      generalize ({ x with vo := x.vo ||| 2 ^ k } : Vt) = y at hy hI4 cy1 cy2
      clear hI3 hH3 hC3 hO3
      generalize ((x.vo ||| 2 ^ k : Nat) : Int) = m2 at ob hI4 hO4 hH4 hC4
      generalize (x.vo : Int) = m1 at ob c1
      have k0 : (0 : Int) ≤ (k : Int) := by omega
      go_upto_region 3 with fail
      go_region
      all_goals
        change Exit.then _ _ _ _ (w3.drew.setCell ⟨p, 14, none⟩ (.int .i64 m2))
        generalize w3.drew.setCell ⟨p, 14, none⟩ (.int .i64 m2) = w5 at hI4 hO4 hH4 hC4 ⊢
        clear c1 f1 ob k0 wr wx
        go_upto_region 4 with fail
        have HF : ∀ W, Below w5.heap.size w5 W → W.cell? ⟨w.heap.size + 1, 0, none⟩ = some (.int .i64 hr) ∧ (rowAt W p 12 2 = iA [y.hr, y.hw] ∧ HasRow W p 12 2) ∧ (rowAt W (w.heap.size + 1) 0 2 = iA [hr, hw] ∧ HasRow W (w.heap.size + 1) 0 2) := fun W h =>
          ⟨(hH4.below h hH4.lt).cellAt 0 _ rfl, vt_gotH hy (hI4.below h hI4.lt), (hH4.below h hH4.lt).whole rfl⟩
        have HLe := fun W => less_any y.hr y.hw hr hw W
        generalize hl2 : [hr, hw] = l2 at HF HLe hH4
        generalize hl3 : [y.hr, y.hw] = l3 at HF HLe
        have HS := hide (And.intro hl2 hl3)
        clear hl2 hl3
        by_cases hd : 0 < hr
        · have d1 : decide (0 < hr) = true := decide_eq_true hd
          refine wp_region_noPanic ?_
          refine wp_region_held_drew (S := (fun W => Below w5.heap.size w5 W)) (by kernel_rfl) ?_ (fun hHeld => ?_)
          · exact Below.drewR (Below.refl _ _)
          refine wpAnyH_take (i := 0) (oi := _) (v := ?_) (by simp only [List.getElem?_toArray, List.getElem?_cons_zero]; rfl) (by kernel_rfl) (by kernel_rfl) (by kernel_rfl) (by exact fun _ _ _ h => h) (Or.inl ⟨by rfl, ?_⟩) (by assumption) ?_
          rotate_left
          · intro w hSw
            try dsimp only at hSw
            obtain ⟨c1, ⟨q2, h2⟩, q3, h3⟩ := HF _ hSw
            clear hSw
            go_simp
            try with_reducible rfl
          try simp only [Act.put, List.setIfInBounds_toArray, List.set_cons_zero, List.set_cons_succ]
          refine wpAnyH_take (i := 1) (oi := _) (v := ?_) (by simp only [List.getElem?_toArray, List.getElem?_cons_succ, List.getElem?_cons_zero]; rfl) (by kernel_rfl) (by kernel_rfl) (by kernel_rfl) (by exact fun _ _ _ h => h) (Or.inl ⟨by rfl, ?_⟩) (by assumption) ?_
          rotate_left
          · intro w hSw
            try dsimp only at hSw
            obtain ⟨c1, ⟨q2, h2⟩, q3, h3⟩ := HF _ hSw
            clear hSw
            go_simp
            try with_reducible rfl
          try simp only [Act.put, List.setIfInBounds_toArray, List.set_cons_zero, List.set_cons_succ]
          refine wpAnyH_take (i := 2) (oi := _) (v := ?_) (by simp only [List.getElem?_toArray, List.getElem?_cons_succ, List.getElem?_cons_zero]; rfl) (by kernel_rfl) (by kernel_rfl) (by kernel_rfl) (by exact fun _ _ _ h => h) (Or.inl ⟨by rfl, ?_⟩) (by assumption) ?_
          rotate_left
          · intro w hSw
            try dsimp only at hSw
            obtain ⟨c1, ⟨q2, h2⟩, q3, h3⟩ := HF _ hSw
            clear hSw
            go_simp
            try with_reducible rfl
          try simp only [Act.put, List.setIfInBounds_toArray, List.set_cons_zero, List.set_cons_succ]
          refine wpAnyH_take (i := 3) (oi := _) (v := ?_) (by simp only [List.getElem?_toArray, List.getElem?_cons_succ, List.getElem?_cons_zero]; rfl) (by kernel_rfl) (by kernel_rfl) (by kernel_rfl) (by exact fun _ _ _ h => h) (Or.inl ⟨by rfl, ?_⟩) (by assumption) ?_
          rotate_left
          · intro w hSw
            try dsimp only at hSw
            obtain ⟨c1, ⟨q2, h2⟩, q3, h3⟩ := HF _ hSw
            clear hSw
            go_simp
            try with_reducible rfl
          try simp only [Act.put, List.setIfInBounds_toArray, List.set_cons_zero, List.set_cons_succ]
          refine wpAnyH_take (i := 4) (oi := _) (v := ?_) (by simp only [List.getElem?_toArray, List.getElem?_cons_succ, List.getElem?_cons_zero]; rfl) (by kernel_rfl) (by kernel_rfl) (by kernel_rfl) (by exact fun _ _ _ h => h) (Or.inl ⟨by rfl, ?_⟩) (by assumption) ?_
          rotate_left
          · intro w hSw
            try dsimp only at hSw
            obtain ⟨c1, ⟨q2, h2⟩, q3, h3⟩ := HF _ hSw
            clear hSw
            go_simp
            try with_reducible rfl
          try simp only [Act.put, List.setIfInBounds_toArray, List.set_cons_zero, List.set_cons_succ]
          refine wpAnyH_take (i := 5) (oi := _) (v := ?_) (by simp only [List.getElem?_toArray, List.getElem?_cons_succ, List.getElem?_cons_zero]; rfl) (by kernel_rfl) (by kernel_rfl) (by kernel_rfl) (by exact fun _ _ _ h => h) (Or.inl ⟨by rfl, ?_⟩) (by assumption) ?_
          rotate_left
          · intro w hSw
            try dsimp only at hSw
            obtain ⟨c1, ⟨q2, h2⟩, q3, h3⟩ := HF _ hSw
            clear hSw
            go_simp
            try with_reducible rfl
          try simp only [Act.put, List.setIfInBounds_toArray, List.set_cons_zero, List.set_cons_succ]
          refine wpAnyH_take (i := 6) (oi := _) (v := ?_) (by simp only [List.getElem?_toArray, List.getElem?_cons_succ, List.getElem?_cons_zero]; rfl) (by kernel_rfl) (by kernel_rfl) (by kernel_rfl) (by exact fun _ _ _ h => h) (Or.inl ⟨by rfl, ?_⟩) (by assumption) ?_
          rotate_left
          · intro w hSw
            try dsimp only at hSw
            obtain ⟨c1, ⟨q2, h2⟩, q3, h3⟩ := HF _ hSw
            clear hSw
            go_simp
            try with_reducible rfl
          try simp only [Act.put, List.setIfInBounds_toArray, List.set_cons_zero, List.set_cons_succ]
          refine wpAnyH_take (i := 7) (oi := _) (v := ?_) (by simp only [List.getElem?_toArray, List.getElem?_cons_succ, List.getElem?_cons_zero]; rfl) (by kernel_rfl) (by kernel_rfl) (by kernel_rfl) (by exact fun _ _ _ h => h) (Or.inl ⟨by rfl, ?_⟩) (by assumption) ?_
          rotate_left
          · intro w hSw
            try dsimp only at hSw
            obtain ⟨c1, ⟨q2, h2⟩, q3, h3⟩ := HF _ hSw
            clear hSw
            go_simp
            try with_reducible rfl
          try simp only [Act.put, List.setIfInBounds_toArray, List.set_cons_zero, List.set_cons_succ]
          refine wpAnyH_take (i := 8) (oi := _) (v := ?_) (by simp only [List.getElem?_toArray, List.getElem?_cons_succ, List.getElem?_cons_zero]; rfl) (by kernel_rfl) (by kernel_rfl) (by kernel_rfl) (by exact fun _ _ _ h => h) (Or.inl ⟨by rfl, ?_⟩) (by assumption) ?_
          rotate_left
          · intro w hSw
            try dsimp only at hSw
            obtain ⟨c1, ⟨q2, h2⟩, q3, h3⟩ := HF _ hSw
            clear hSw
            go_simp
            try with_reducible rfl
          try simp only [Act.put, List.setIfInBounds_toArray, List.set_cons_zero, List.set_cons_succ]
          refine wpAnyH_ready (rs := [9]) (by kernel_rfl) (by simp) ?_
          refine AllReadyH.cons (o := _) (by simp only [List.getElem?_toArray, List.getElem?_cons_succ, List.getElem?_cons_zero]; rfl) (fun K hK => ?_) AllReadyH.nil
          go_simp
          try dsimp only at hHeld
          go_at_call 19
          (with_reducible refine (HLe _).mono ?_)
          rintro x9 w9 ⟨rfl, hx9⟩
          have hh5 := hHeld.trans (hx9.mono hHeld.size)
          try go_wp2_with fail
          refine hK.out _ _ ?_ (fun hHeld => ?_)
          · exact hh5
          clear hK K
          try simp only [Act.put, List.setIfInBounds_toArray, List.set_cons_zero, List.set_cons_succ]
          refine wpAnyH_take (i := 10) (oi := _) (v := ?_) (by simp only [List.getElem?_toArray, List.getElem?_cons_succ, List.getElem?_cons_zero]; rfl) (by kernel_rfl) (by kernel_rfl) (by kernel_rfl) (by exact fun _ _ _ h => h) (Or.inl ⟨by rfl, ?_⟩) (by assumption) ?_
          rotate_left
          · intro w hSw
            try dsimp only at hSw
            obtain ⟨c1, ⟨q2, h2⟩, q3, h3⟩ := HF _ hSw
            clear hSw
            go_simp
            try with_reducible rfl
          try simp only [Act.put, List.setIfInBounds_toArray, List.set_cons_zero, List.set_cons_succ]
          refine wpAnyH_done (by kernel_rfl) ?_ _
          refine NoPanic.normal ?_
          try dsimp only at hHeld
          have hI6 := hI4.below hHeld hI4.lt
          have hH6 := hH4.below hHeld hH4.lt
          have hC6 := hC4.below hHeld hC4.lt
          have hO6 := hO4.below hHeld
          clear HF HLe hI4 hH4 hC4 hO4 hHeld hh5 hx9
          cases hlb : lessB y.hr y.hw hr hw with
          | false =>
            obtain rfl : vv = y := by rw [cy1, heardV, laterB, hlb]; simp
            rw [show heardV vv hr hw c = vv from cy1.symm] at cy2
            subst cy2
            clear cy1 hlb hH6 hC6 HS
            go_wp2_with fail
            (with_reducible refine (HP _ hy _ _ hI6).mono ?_)
            rintro e w9 ⟨rfl, hb9⟩
            have I9 := IBlk.below hI6 hb9 (IBlk.lt hI6)
            have O9 := hO6.below hb9
            go_wp2_with fail
            go_ret
            exact ⟨rfl, I9, O9⟩
          | true =>
            have he : heardV y hr hw c = { y with hr := hr, hw := hw, c := c } := by rw [heardV, laterB, hlb, d1]; rfl
            rw [he] at cy1 cy2
            have hz : ({ y with hr := hr, hw := hw, c := c } : Vt).Ok := ⟨hy.v, hc, hy.vo, hy.tk⟩
            have i2 : Is 2 l2 := by rw [← HS.out.1]; rfl
            have i3 : Is 3 c := hc
            have yl := vtL_length hy
            obtain ⟨q1, h1⟩ := hH6.drew.whole i2
            obtain ⟨q2, h2⟩ := hC6.drew.whole hc
            have rm1 := hI6.drew.room 12 2 (by rw [yl]; decide)
            have rm2 := (hI6.drew.room 9 3 (by rw [yl]; decide)).cells p 12 (iV l2)
            have hI7 := hI6.drew.setN (o := 12) (xs := l2) (by rw [yl, i2]; decide)
            have hO7 := only_cells w9.drew p 12 (iV l2)
            obtain ⟨q3, h3⟩ := (hC6.drew.only hO7 (fun e : w.heap.size + 1 + 1 = p => by omega)).whole hc
            have e1 : (vtL y).take 12 ++ l2 ++ (vtL y).drop (12 + l2.length) = vtL { y with hr := hr, hw := hw } := by rw [← HS.out.1]; exact vt_setHad hy hr hw
            rw [e1] at hI7
            have hy7 : ({ y with hr := hr, hw := hw } : Vt).Ok := ⟨hy.v, hy.c, hy.vo, hy.tk⟩
            have hI8 := hI7.setN (o := 9) (xs := c) (by rw [vtL_length hy7, hc]; decide)
            rw [vt_setChg hy7 hc] at hI8
            have hO8 := (hO6.drew.trans_ hO7).trans_ (only_cells (w9.drew.setCells p 12 (iV l2)) p 9 (iV c))
            generalize ({ y with hr := hr, hw := hw, c := c } : Vt) = z at hz hI8 cy1 cy2
            obtain rfl : vv = z := cy1
            clear he e1 hlb hH6 hC6 hI6 hO6 hI7 hy7 hO7 HS yl
            go_upto_region 5 with fail
            go_region
            all_goals
              change Exit.then _ _ _ _ ((w9.drew.setCells p 12 (iV l2)).setCells p 9 (iV c))
              generalize ((w9.drew.setCells p 12 (iV l2)).setCells p 9 (iV c)) = w6 at hI8 hO8 ⊢
              clear q1 h1 q2 h2 q3 h3 rm1 rm2
              subst cy2
              go_wp2_with fail
              (with_reducible refine (HP _ hz _ _ hI8).mono ?_)
              rintro e w9 ⟨rfl, hb9⟩
              have I9 := IBlk.below hI8 hb9 (IBlk.lt hI8)
              have O9 := hO8.below hb9
              go_wp2_with fail
              go_ret
              exact ⟨rfl, I9, O9⟩
        · have d1 : decide (0 < hr) = false := decide_eq_false hd
          refine wp_region_noPanic ?_
          refine wp_region_held_drew (S := (fun W => Below w5.heap.size w5 W)) (by kernel_rfl) ?_ (fun hHeld => ?_)
          · exact Below.drewR (Below.refl _ _)
          refine wpAnyH_take (i := 0) (oi := _) (v := ?_) (by simp only [List.getElem?_toArray, List.getElem?_cons_zero]; rfl) (by kernel_rfl) (by kernel_rfl) (by kernel_rfl) (by exact fun _ _ _ h => h) (Or.inl ⟨by rfl, ?_⟩) (by assumption) ?_
          rotate_left
          · intro w hSw
            try dsimp only at hSw
            obtain ⟨c1, ⟨q2, h2⟩, q3, h3⟩ := HF _ hSw
            clear hSw
            go_simp
            try with_reducible rfl
          try simp only [Act.put, List.setIfInBounds_toArray, List.set_cons_zero, List.set_cons_succ]
          refine wpAnyH_take (i := 1) (oi := _) (v := ?_) (by simp only [List.getElem?_toArray, List.getElem?_cons_succ, List.getElem?_cons_zero]; rfl) (by kernel_rfl) (by kernel_rfl) (by kernel_rfl) (by exact fun _ _ _ h => h) (Or.inl ⟨by rfl, ?_⟩) (by assumption) ?_
          rotate_left
          · intro w hSw
            try dsimp only at hSw
            obtain ⟨c1, ⟨q2, h2⟩, q3, h3⟩ := HF _ hSw
            clear hSw
            go_simp
            try with_reducible rfl
          try simp only [Act.put, List.setIfInBounds_toArray, List.set_cons_zero, List.set_cons_succ]
          refine wpAnyH_take (i := 2) (oi := _) (v := ?_) (by simp only [List.getElem?_toArray, List.getElem?_cons_succ, List.getElem?_cons_zero]; rfl) (by kernel_rfl) (by kernel_rfl) (by kernel_rfl) (by exact fun _ _ _ h => h) (Or.inl ⟨by rfl, ?_⟩) (by assumption) ?_
          rotate_left
          · intro w hSw
            try dsimp only at hSw
            obtain ⟨c1, ⟨q2, h2⟩, q3, h3⟩ := HF _ hSw
            clear hSw
            go_simp
            try with_reducible rfl
          try simp only [Act.put, List.setIfInBounds_toArray, List.set_cons_zero, List.set_cons_succ]
          refine wpAnyH_take (i := 3) (oi := _) (v := ?_) (by simp only [List.getElem?_toArray, List.getElem?_cons_succ, List.getElem?_cons_zero]; rfl) (by kernel_rfl) (by kernel_rfl) (by kernel_rfl) (by exact fun _ _ _ h => h) (Or.inl ⟨by rfl, ?_⟩) (by assumption) ?_
          rotate_left
          · intro w hSw
            try dsimp only at hSw
            obtain ⟨c1, ⟨q2, h2⟩, q3, h3⟩ := HF _ hSw
            clear hSw
            go_simp
            try with_reducible rfl
          try simp only [Act.put, List.setIfInBounds_toArray, List.set_cons_zero, List.set_cons_succ]
          refine wpAnyH_take (i := 4) (oi := _) (v := undef) (by simp only [List.getElem?_toArray, List.getElem?_cons_succ, List.getElem?_cons_zero]; rfl) (by kernel_rfl) (by kernel_rfl) (by kernel_rfl) (by exact fun _ _ _ h => h) (Or.inr ⟨by rfl, rfl⟩) (by assumption) ?_
          try simp only [Act.put, List.setIfInBounds_toArray, List.set_cons_zero, List.set_cons_succ]
          refine wpAnyH_take (i := 5) (oi := _) (v := undef) (by simp only [List.getElem?_toArray, List.getElem?_cons_succ, List.getElem?_cons_zero]; rfl) (by kernel_rfl) (by kernel_rfl) (by kernel_rfl) (by exact fun _ _ _ h => h) (Or.inr ⟨by rfl, rfl⟩) (by assumption) ?_
          try simp only [Act.put, List.setIfInBounds_toArray, List.set_cons_zero, List.set_cons_succ]
          refine wpAnyH_take (i := 6) (oi := _) (v := undef) (by simp only [List.getElem?_toArray, List.getElem?_cons_succ, List.getElem?_cons_zero]; rfl) (by kernel_rfl) (by kernel_rfl) (by kernel_rfl) (by exact fun _ _ _ h => h) (Or.inr ⟨by rfl, rfl⟩) (by assumption) ?_
          try simp only [Act.put, List.setIfInBounds_toArray, List.set_cons_zero, List.set_cons_succ]
          refine wpAnyH_take (i := 7) (oi := _) (v := undef) (by simp only [List.getElem?_toArray, List.getElem?_cons_succ, List.getElem?_cons_zero]; rfl) (by kernel_rfl) (by kernel_rfl) (by kernel_rfl) (by exact fun _ _ _ h => h) (Or.inr ⟨by rfl, rfl⟩) (by assumption) ?_
          try simp only [Act.put, List.setIfInBounds_toArray, List.set_cons_zero, List.set_cons_succ]
          refine wpAnyH_take (i := 8) (oi := _) (v := undef) (by simp only [List.getElem?_toArray, List.getElem?_cons_succ, List.getElem?_cons_zero]; rfl) (by kernel_rfl) (by kernel_rfl) (by kernel_rfl) (by exact fun _ _ _ h => h) (Or.inr ⟨by rfl, rfl⟩) (by assumption) ?_
          try simp only [Act.put, List.setIfInBounds_toArray, List.set_cons_zero, List.set_cons_succ]
          refine wpAnyH_take (i := 9) (oi := _) (v := undef) (by simp only [List.getElem?_toArray, List.getElem?_cons_succ, List.getElem?_cons_zero]; rfl) (by kernel_rfl) (by kernel_rfl) (by kernel_rfl) (by exact fun _ _ _ h => h) (Or.inr ⟨by rfl, rfl⟩) (by assumption) ?_
          try simp only [Act.put, List.setIfInBounds_toArray, List.set_cons_zero, List.set_cons_succ]
          refine wpAnyH_take (i := 10) (oi := _) (v := ?_) (by simp only [List.getElem?_toArray, List.getElem?_cons_succ, List.getElem?_cons_zero]; rfl) (by kernel_rfl) (by kernel_rfl) (by kernel_rfl) (by exact fun _ _ _ h => h) (Or.inl ⟨by rfl, ?_⟩) (by assumption) ?_
          rotate_left
          · intro w hSw
            try dsimp only at hSw
            obtain ⟨c1, ⟨q2, h2⟩, q3, h3⟩ := HF _ hSw
            clear hSw
            go_simp
            try with_reducible rfl
          try simp only [Act.put, List.setIfInBounds_toArray, List.set_cons_zero, List.set_cons_succ]
          refine wpAnyH_done (by kernel_rfl) ?_ _
          refine NoPanic.normal ?_
          try dsimp only at hHeld
          have hI6 := hI4.below hHeld hI4.lt
          have hO6 := hO4.below hHeld
          obtain rfl : vv = y := by rw [cy1, heardV, laterB, d1]; rfl
          clear HF HLe HS hH4 hC4 hI4 hO4
          generalize w5.drew = w6 at hI6 hO6 ⊢
          rw [show heardV vv hr hw c = vv from cy1.symm] at cy2
          subst cy2
          clear cy1
          go_wp2_with fail
          (with_reducible refine (HP _ hy _ _ hI6).mono ?_)
          rintro e w9 ⟨rfl, hb9⟩
          have I9 := IBlk.below hI6 hb9 (IBlk.lt hI6)
          have O9 := hO6.below hb9
          go_wp2_with fail
          go_ret
          exact ⟨rfl, I9, O9⟩
end Go.Proofs.Ytoknodkgmeinmaa
