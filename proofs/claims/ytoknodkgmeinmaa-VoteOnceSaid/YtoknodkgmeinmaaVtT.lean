/- The contract of vote's Taken. (Printed by gen_vowed.py.) -/
import Derived.Test.YtoknodkgmeinmaaVtU
import Derived.Test.YtoknodkgmeinmaaVtN
import Derived.Test.YtoknodkgmeinmaaVtA
namespace Go.Proofs.Ytoknodkgmeinmaa
open Go.RowKit

theorem tak_no (x : Vt) (who r u : Int) (h : putsB x = false ∨ cntB x who r u = false) : takB x who r u = false ∧ takV x who r u = x := by
  rcases h with h | h
  · exact ⟨by rw [takB, h]; rfl, by rw [takV, if_neg (fun k => by rw [h] at k; cases k.1)]⟩
  · exact ⟨by rw [takB, h]; simp, by rw [takV, if_neg (fun k => by rw [h] at k; cases k.2)]⟩
theorem tak_yes (x : Vt) (k : Nat) (r u : Int) (h : putsB x = true) (h' : cntB x (k : Int) r u = true) :
    takV x (k : Int) r u = { x with tk := x.tk ||| 2 ^ k } ∧ takB x (k : Int) r u = mostB ((x.tk ||| 2 ^ k : Nat) : Int) (x.v.m : Int) := by
  have e : takV x (k : Int) r u = { x with tk := x.tk ||| 2 ^ k } := by rw [takV, if_pos ⟨h, h'⟩]; rfl
  exact ⟨e, by rw [takB, h, h', e]; rfl⟩
attribute [local go_sem ↓] loadViewF_fold storeViewF_fold allocViewF_fold buildViewF_fold loadBltF_fold storeBltF_fold allocBltF_fold buildBltF_fold loadChgF_fold storeChgF_fold allocChgF_fold buildChgF_fold
attribute [local go_sem] loadViewF_has storeViewF_has allocViewF_run buildViewF_none buildViewF_two loadBltF_has storeBltF_has allocBltF_run buildBltF_none buildBltF_0 buildBltF_0_1 loadChgF_has storeChgF_has allocChgF_run buildChgF_three buildChgF_none
set_option maxRecDepth 100000 in
set_option maxHeartbeats 6400000 in
theorem vTaken_any (x : Vt) (hx : x.Ok) (wx : wf64 [x.r, x.w]) (who r u : Int) (wr : wf64 [r, u]) (p : Nat) (w : World) (hI : IBlk w p 70 (vtL x)) :
    Calls Try.prog 17 #[.pointer (some ⟨p, 0, none⟩), .int .i64 who, .agg (iA [r, u])] w fun e w' => e = .returned (.bool (takB x who r u)) ∧ IBlk w' p 70 (vtL (takV x who r u)) ∧ Only (· = p) w w' := by
  have HP0 := fun w h => vPutting_any x hx p w h
  have HN := fun w h => vcounts_any x hx wx who r u wr p w h
  have h5a := hI.lt
  have hJ := IBlk.new w 31 [r, u]
  have hB := (Below.refl w.heap.size w).alloc (Nat.le_refl _) (.cells (iA [r, u]) 31)
  have hI1 := hI.below hB h5a
  clear hI
  have CN := tak_no x who r u
  have CY := tak_yes x who.toNat r u
  have HW := @cnt_who x who r u
  generalize hpb : putsB x = pb at HP0 CN CY
  generalize hcb : cntB x who r u = cb at HN CN HW
  generalize hvb : takB x who r u = vb at CN ⊢
  generalize hvv : takV x who r u = vv at CN ⊢
  generalize hl1 : [r, u] = l1 at HN hJ hB hI1 ⊢
  have h1l : l1.length = 2 := by rw [← hl1]; rfl
  have HH := hide (And.intro hpb (And.intro hcb (And.intro hvb (And.intro hvv hl1))))
  clear hpb hcb hvb hvv hl1
  go_enter Try.func17, Try.ntmps17
  go_upto_region 1 with fail
  generalize w.alloc (.cells (iA l1) 31) = w1 at hJ hB hI1
  go_wp2_with fail
  (with_reducible refine (HP0 w1 hI1).mono ?_)
  rintro e w2 ⟨rfl, hb⟩
  have hI2 := hI1.below hb hI1.lt
  have hJ2 := hJ.below hb hJ.lt
  have hO2 := (only_of_below hB (· = p)).below hb
  have hs2 := hb.size
  clear hI1 hJ hB hb HP0
  cases pb with
  | false =>
    obtain ⟨rfl, rfl⟩ := CN (.inl rfl)
    go_wp2_with fail
    go_ret
    exact ⟨rfl, hI2, hO2⟩
  | true =>
    obtain ⟨q1, h1⟩ := hJ2.whole (n := 2) h1l
    go_wp2_with fail
    (with_reducible refine (HN w2 hI2).mono ?_)
    rintro e w3 ⟨rfl, hb⟩
    have hI3 := hI2.below hb hI2.lt
    have hO3 := hO2.below hb
    have hs3 := hb.size
    clear hI2 hJ2 hO2 hb HN q1 h1
    cases cb with
    | false =>
      obtain ⟨rfl, rfl⟩ := CN (.inr rfl)
      go_wp2_with fail
      go_ret
      exact ⟨rfl, hI3, hO3⟩
    | true =>
      obtain ⟨-, -, k, rfl, hk, -⟩ := HW rfl
      obtain ⟨cy1, cy2⟩ := CY (by trivial) (by rw [Int.toNat_natCast]; exact HH.out.2.1)
      rw [Int.toNat_natCast, HH.out.2.2.2.1] at cy1
      rw [Int.toNat_natCast, HH.out.2.2.1] at cy2
      clear CN CY HW HH
      have ob := or_is hx.tk hk
      have hy : ({ x with tk := x.tk ||| 2 ^ k } : Vt).Ok := ⟨hx.v, hx.c, hx.vo, bit_lt hx.tk hk⟩
      have c1 := vt_tk hx hI3.drew
      have f1 := hI3.drew.frozen 15
      have hI4 := hI3.drew.set 15 ((x.tk ||| 2 ^ k : Nat) : Int)
      rw [vt_setTk hx] at hI4
      have hO4 := hO3.drew.trans (only_cell w3.drew p 15 (.int .i64 ((x.tk ||| 2 ^ k : Nat) : Int))) (fun i h => .inl h)
      have HL := fun w => enough_any x.v hx.v.len ((x.tk ||| 2 ^ k : Nat) : Int) w
      rw [← cy2] at HL
      have c2 := fun W (h : IBlk W p 70 _) => vt_tk hy h
      have r2 := fun W (h : IBlk W p 70 _) => vt_gotV hy h
      dsimp only at c2 r2
      generalize ({ x with tk := x.tk ||| 2 ^ k } : Vt) = y at hy hI4 cy1 c2 r2
      obtain rfl : vv = y := cy1
      clear hI3 hO3 cy2
      generalize ((x.tk ||| 2 ^ k : Nat) : Int) = m2 at ob hI4 hO4 HL c2
      generalize (x.tk : Int) = m1 at ob c1
      have k0 : (0 : Int) ≤ (k : Int) := by omega
      go_upto_region 3 with fail
      have HK := hide (And.intro HL (And.intro c2 r2))
      clear HL c2 r2
      go_region
      all_goals
        change Exit.then _ _ _ _ (w3.drew.setCell ⟨p, 15, none⟩ (.int .i64 m2))
        generalize w3.drew.setCell ⟨p, 15, none⟩ (.int .i64 m2) = w5 at hI4 hO4 ⊢
        obtain ⟨HL, c2, r2⟩ := HK.out
        have cc := c2 _ hI4.drew
        obtain ⟨q1, h1⟩ := r2 _ hI4.drew
        clear c1 f1 ob k0 wr wx c2 r2 HK
        go_upto_region 4 with fail
        go_region_with
          (go_at_call 24
           (with_reducible refine (HL _).mono ?_)
           rintro e w6 ⟨rfl, hb⟩)
        all_goals
          have hb6 := (Below.drewR (Below.refl w5.heap.size w5)).trans hb
          have I9 := hI4.below hb6 hI4.lt
          have O9 := hO4.below hb6
          clear cc q1 h1
          go_wp2_with fail
          go_ret
          exact ⟨rfl, I9, O9⟩
end Go.Proofs.Ytoknodkgmeinmaa
