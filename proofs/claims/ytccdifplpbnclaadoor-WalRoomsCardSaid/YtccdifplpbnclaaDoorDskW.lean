/- A disk's Write, Sync, Crash. -/
import Derived.Test.YtccdifplpbnclaaDoorDskD
namespace Go.Proofs.YtccdifplpbnclaaDoor
open Go.RowKit Go.Maps

attribute [local go_sem ↓] loadS_fold storeS_fold allocS_fold loadW_fold storeW_fold allocW_fold buildW_fold boxW_fold lookS_fold putS_fold sliceS_fold copyS_fold appF_fold oneW_fold
attribute [local go_sem] loadS_has storeS_has allocS_run loadW_has storeW_has allocW_run buildW_run boxW_run lookS_has putS_has sliceS_all sliceS_k copyS_k appF_has oneW_run

/-- A disk that is asked for one more write. -/
def takS (S : DS) : DS :=
  if S.down = true ∨ (S.armed = true ∧ S.left = 0) then { S with down := true } else if S.armed = true then { S with left := S.left - 1 } else S
theorem takS_ws (S : DS) : (takS S).ws = S.ws := by unfold takS; split; rfl; split <;> rfl
theorem takS_f (S : DS) : (takS S).f = S.f := by unfold takS; split; rfl; split <;> rfl
theorem takS_armed (S : DS) : (takS S).armed = S.armed := by unfold takS; split; rfl; split <;> rfl
set_option maxRecDepth 100000 in
set_option maxHeartbeats 4000000 in
theorem takes_runs (w : World) (B : Nat → Prop) (d N : Nat) (S : DS) (h : DiskAt w B d N S) :
    Calls Tryd.prog 28 #[.pointer (some ⟨d, 0, none⟩)] w fun e w' => e = .returned (.bool (!(takS S).down)) ∧ DiskAt w' B d N (takS S) ∧ Only (· = d) w w' := by
  obtain ⟨m, k, v, h1, h2, h3, h4, h5, h6⟩ := h.is_
  have l0 := h.left0
  have l1 := h.left1
  have c2 := h1.cellAt (i := 2) rfl
  have c3 := h1.cellAt (i := 3) rfl
  have c4 := h1.cellAt (i := 4) rfl
  have z3 := h1.frozen 3
  have z4 := h1.frozen 4
  obtain ⟨f, ws, ar, lf, dn⟩ := S
  dsimp only at *
  by_cases g : ar = true ∧ lf = 0
  · obtain ⟨rfl, rfl⟩ := g
    have e : takS ⟨f, ws, true, 0, dn⟩ = ⟨f, ws, true, 0, true⟩ := by simp [takS]
    rw [e]
    have hv : VBlk (w.setCell ⟨d, 4, none⟩ (.bool true)) d 54 [.map (some m), v, .bool true, .int .i64 0, .bool true] := h1.set 4 (.bool true)
    have ho := only_cell w d 4 (.bool true)
    have K := h.mk_ h1 h2 h3 h4 h5 h6 true true 0 l0 l1 hv ho
    go_enter Tryd.func28, Tryd.ntmps28
    go_wp2_with fail
    go_ret
    exact ⟨rfl, K, ho⟩
  · have hd0 : ar = true → ((lf : Int) == 0) = false := fun ea => by simp; exact fun el => g ⟨ea, el⟩
    cases dn with
    | true =>
      have e : takS ⟨f, ws, ar, lf, true⟩ = ⟨f, ws, ar, lf, true⟩ := by simp [takS]
      rw [e]
      cases ar with
      | true =>
        have hd1 := hd0 rfl
        go_enter Tryd.func28, Tryd.ntmps28
        go_wp2_with fail
        go_ret
        exact ⟨rfl, h, Only.refl _ _⟩
      | false =>
        go_enter Tryd.func28, Tryd.ntmps28
        go_wp2_with fail
        go_ret
        exact ⟨rfl, h, Only.refl _ _⟩
    | false =>
      cases ar with
      | true =>
        have hd1 := hd0 rfl
        have hl : lf ≠ 0 := fun e => g ⟨rfl, e⟩
        have e : takS ⟨f, ws, true, lf, false⟩ = ⟨f, ws, true, lf - 1, false⟩ := by simp [takS, hl]
        rw [e]
        have hv : VBlk (w.setCell ⟨d, 3, none⟩ (.int .i64 (lf - 1))) d 54 [.map (some m), v, .bool true, .int .i64 (lf - 1), .bool false] := h1.set 3 (.int .i64 (lf - 1))
        have ho := only_cell w d 3 (.int .i64 (lf - 1))
        have K := h.mk_ h1 h2 h3 h4 h5 h6 true false (lf - 1) (by omega) (by omega) hv ho
        go_enter Tryd.func28, Tryd.ntmps28
        go_wp2_with fail
        go_ret
        exact ⟨rfl, K, ho⟩
      | false =>
        have e : takS ⟨f, ws, false, lf, false⟩ = ⟨f, ws, false, lf, false⟩ := by simp [takS]
        rw [e]
        go_enter Tryd.func28, Tryd.ntmps28
        go_wp2_with fail
        go_ret
        exact ⟨rfl, h, Only.refl _ _⟩

/-- What a write answers, and what the disk holds behind it. -/
def wrtS (x : Int) (zs : List Int) (S : DS) : Int × DS :=
  if x < 0 ∨ 2048 ≤ x ∨ 64 < zs.length then (5, S) else if (takS S).down = true then (4, takS S) else (0, { takS S with ws := S.ws ++ [(x, padB zs)] })
theorem reads_only {S : Nat → Prop} {w w' : World} {B n : Nat} {A : Option Addr} {xs : List Value} (h : Reads w B 1 A n xs) (k : Only S w w') (hB : B ≤ w.heap.size) (hn : 0 < n → ∀ ad, A = some ad → ad.block < B → ¬ S ad.block) : Reads w' B 1 A n xs :=
  ⟨h.1, fun h0 => by
    obtain ⟨ad, e, hb, hc⟩ := h.2 h0
    exact ⟨ad, e, hb, fun j u hu => (k.cell (by rw [block_of_add]; omega) (by rw [block_of_add]; exact hn h0 ad e hb)).trans (hc j u hu)⟩⟩
/-- Other blocks that a disk lies in. -/
def Moved (B B' : Nat → Prop) (w w' : World) : Prop := (∀ b, B' b → B b ∨ w.heap.size ≤ b) ∧ Only B w w'
theorem Moved.refl (B : Nat → Prop) (w : World) : Moved B B w w := ⟨fun _ h => .inl h, Only.refl _ _⟩
theorem DiskAt.more {w : World} {B : Nat → Prop} {d N N' : Nat} {S : DS} (h : DiskAt w B d N S) (hn : N ≤ N') : DiskAt w B d N' S := by
  obtain ⟨m, n, v, h1, h2, h3, h4, h5, h6⟩ := h.is_
  exact ⟨⟨m, n, v, h1, h2, h3, h4, h5, by omega⟩, h.own, h.lt, h.wrs, h.sure, h.left0, h.left1⟩
set_option maxRecDepth 100000 in
set_option maxHeartbeats 8000000 in
theorem Write_runs (w : World) (B : Nat → Prop) (d N : Nat) (S : DS) (x : Int) (A : Option Addr) (n c Bd : Nat) (zs : List Int) (h : DiskAt w B d N S) (hN : N < 50000) (_ : -9223372036854775808 ≤ x) (_ : x ≤ 9223372036854775807)
    (hR : Reads w Bd 1 A n (u8V zs)) (hBd : Bd ≤ w.heap.size) (hA : 0 < n → ∀ ad, A = some ad → ad.block < Bd → ¬ B ad.block) (hn : n ≤ maxLen) (hz : ∀ z ∈ zs, (Lit.int .u8 z).wf = true) :
    Calls Tryd.prog 20 #[.pointer (some ⟨d, 0, none⟩), .int .i64 x, .slice A n c] w fun e w' => e = .returned (.int .i64 (wrtS x zs S).1) ∧ ∃ B', DiskAt w' B' d (N + 1) (wrtS x zs S).2 ∧ Moved B B' w w' := by
  have hzl : zs.length = n := by have := hR.1; rw [u8V_length] at this; omega
  have hn' : n ≤ 9223372036854775807 := hn
  by_cases g : x < 0 ∨ 2048 ≤ x ∨ 64 < n
  · have e : wrtS x zs S = (5, S) := by unfold wrtS; rw [hzl, if_pos g]
    rw [e]
    have K := h.more (Nat.le_succ N)
    go_enter Tryd.func20, Tryd.ntmps20
    by_cases g1 : x < 0
    · go_wp2_with fail
      go_ret
      exact ⟨rfl, B, K, Moved.refl _ _⟩
    · by_cases g2 : 2048 ≤ x
      · go_wp2_with fail
        go_ret
        exact ⟨rfl, B, K, Moved.refl _ _⟩
      · have g3 : (64 : Int) < (n : Int) := by omega
        go_wp2_with fail
        go_ret
        exact ⟨rfl, B, K, Moved.refl _ _⟩
  · have g1 : ¬ x < 0 := fun e => g (.inl e)
    have g2 : ¬ 2048 ≤ x := fun e => g (.inr (.inl e))
    have g3 : ¬ (64 : Int) < (n : Int) := fun e => g (.inr (.inr (by omega)))
    have g4 : n ≤ 64 := by omega
    cases hd : (takS S).down with
    | true =>
      have e : wrtS x zs S = (4, takS S) := by unfold wrtS; rw [hzl, if_neg g, if_pos hd]
      rw [e]
      go_enter Tryd.func20, Tryd.ntmps20
      go_wp2_with fail
      (with_reducible refine (takes_runs w B d N S h).mono ?_)
      rintro e w1 ⟨rfl, h1, ho1⟩
      rw [hd]
      go_wp2_with fail
      go_ret
      exact ⟨rfl, B, h1.more (Nat.le_succ N), fun _ h => .inl h, ho1.mono fun i _ (e : i = d) => by rw [e]; exact h.own⟩
    | false =>
      have e : wrtS x zs S = (0, { takS S with ws := S.ws ++ [(x, padB zs)] }) := by unfold wrtS; rw [hzl, if_neg g, if_neg (by rw [hd]; decide)]
      rw [e]
      go_enter Tryd.func20, Tryd.ntmps20
      go_wp2_with fail
      (with_reducible refine (takes_runs w B d N S h).mono ?_)
      rintro e w1 ⟨rfl, h1, ho1⟩
      rw [hd]
      have hs1 := ho1.size
      have hR1 : Reads w1 Bd 1 A n (u8V zs) := reads_only hR ho1 hBd (fun h0 ad ha hb (e : ad.block = d) => hA h0 ad ha hb (by rw [e]; exact h.own))
      have oa : Only (fun b => b = d) w (w1.alloc (.cells (wrV 0 zs64).toArray 63)) := ho1.alloc _
      have hg := VBlk.new w1 63 (wrV 0 zs64)
      have hrm := hg.room 0 65 (by rw [wrV_length]; decide)
      have hi : Is 65 (wrV x zs64) := ⟨by rw [wrV_length]; rfl, wrV_one _ _⟩
      have hg2 := hg.fill (us := wrV x zs64) (by rw [wrV_length, wrV_length])
      have o2 : Only (fun b => b = d) w ((w1.alloc (.cells (wrV 0 zs64).toArray 63)).setCells w1.heap.size 0 (wrV x zs64)) := oa.trans (only_cells _ _ _ _) (fun i (e : i = w1.heap.size) => .inr (by omega))
      have D2 : DiskAt ((w1.alloc (.cells (wrV 0 zs64).toArray 63)).setCells w1.heap.size 0 (wrV x zs64)) B d N (takS S) :=
        (h1.below ((Below.refl _ _).alloc (Nat.le_refl _) _)).only (only_cells _ w1.heap.size 0 _) (fun b hb (e : b = w1.heap.size) => by have := h1.lt b hb; omega)
      have R2 : Reads ((w1.alloc (.cells (wrV 0 zs64).toArray 63)).setCells w1.heap.size 0 (wrV x zs64)) Bd 1 A n (u8V zs) :=
        reads_only (hR1.alloc (by omega) _) (only_cells _ w1.heap.size 0 _) (by simp; omega) (fun _ ad _ hb (e : ad.block = w1.heap.size) => by omega)
      go_upto_region 6 with fail
      clear oa hg hrm h1 hR1 ho1
      generalize hw2 : (w1.alloc (.cells (wrV 0 zs64).toArray 63)).setCells w1.heap.size 0 (wrV x zs64) = w2 at *
      generalize hgg : w1.heap.size = q at *
      have hq : q < w2.heap.size := hg2.lt
      clear hw2
      have hcp := copy_src (ty := 3) (c := c) R2 g4 (hg2.room 1 64 (by rw [wrV_length]; decide))
      have hg3 := pad_fillW (zs := zs) hg2 (by omega)
      have o3 := only_cells w2 q 1 (u8V zs)
      have O3 : Only (fun b => b = d) w (w2.setCells q 1 (u8V zs)) := o2.trans o3 (fun i (e : i = q) => .inr (by omega))
      have D3 := D2.only o3 (fun b hb (e : b = q) => by have := h.lt b hb; omega)
      go_upto_region 7 with fail
      clear hcp hg2 o3 D2 R2 o2
      generalize hw3 : w2.setCells q 1 (u8V zs) = w3 at *
      clear hw3 hq
      have hq : q < w3.heap.size := hg3.lt
      have hps : Sect (padB zs) := padB_sect (by omega) hz
      generalize hbs : padB zs = bs at *
      obtain ⟨m, k, v, i1, i2, i3, i4, i5, i6⟩ := D3.is_
      rw [takS_ws] at i3 i6
      obtain ⟨A', c', rfl⟩ := own_slice i3
      have hlb := hps.wlen x
      have c1 := i1.drew.cellAt (i := 1) rfl
      obtain ⟨rr, hh⟩ := hg3.drew.whole hlb
      have hdq : d ≠ w3.heap.size := by have := D3.dlt; omega
      have n1 := VBlk.new w3.drew 63 (wrV x bs)
      have hi65 : Is 65 (wrV x bs) := ⟨hlb, wrV_one _ _⟩
      obtain ⟨ha, hp⟩ := app_one (w := w3.drew.alloc (.cells (wrV x bs).toArray 63)) (i3.drew.alloc (.cells (wrV x bs).toArray 63)) n1 ⟨hlb, wrV_one _ _⟩ (by omega) (Nat.zero_le _)
      generalize hpp : appP (w3.drew.alloc (.cells (wrV x bs).toArray 63)) (.slice A' S.ws.length c') (.slice (some ⟨w3.heap.size, 0, none⟩) 1 1) = p
      have hpp' : appP (w3.drew.alloc (.cells (wrV x bs).toArray 63)) (.slice A' S.ws.length c') (.slice (some ⟨w3.drew.heap.size, 0, none⟩) 1 1) = p := hpp
      obtain ⟨e1, p1, p2, p3⟩ := hp p hpp'
      have j1 : VBlk p.2.2.2 d 54 _ := Blk.grown (i1.drew.alloc (.cells (wrV x bs).toArray 63)) p2 (fun e => own_blk_ne i3 i1 (by decide) e.symm)
      have c1' := j1.cellAt (i := 1) rfl
      have c1a := (i1.alloc (.cells (wrV x bs).toArray 63)).drew.cellAt (i := 1) rfl
      have ha2 : HasApp (w3.alloc (.cells (wrV x bs).toArray 63)).drew (.slice A' S.ws.length c') (.slice (some ⟨w3.heap.size, 0, none⟩) 1 1) := ha
      have hpp2 : appP (w3.alloc (.cells (wrV x bs).toArray 63)).drew (.slice A' S.ws.length c') (.slice (some ⟨w3.heap.size, 0, none⟩) 1 1) = p := hpp
      have z1' := j1.frozen 1
      have hsz3 := O3.size
      have hnp := own_blk_ne p1 j1 (by decide)
      have j2 : MapIs p.2.2.2 m k (takS S).f := (i2.drew.alloc (.cells (wrV x bs).toArray 63)).grown p2 (fun e => map_own_ne i2 i3 e.symm)
      have hmd := map_ne i2 i1
      have o5 := fun v => only_cell p.2.2.2 d 1 v
      have hp1 := p1.lt p.1 rfl
      have OB : Only B w p.2.2.2 := ((O3.mono (S' := B) fun i _ (e : i = d) => by rw [e]; exact h.own).drew.alloc _).grown p2 (fun k e => .inl (i5 k e))
      have hps2 := p2.size
      have hsa : (w3.drew.alloc (.cells (wrV x bs).toArray 63)).heap.size = w3.heap.size + 1 := by simp
      have K : ∃ B', DiskAt (p.2.2.2.setCell ⟨d, 1, none⟩ (.slice (some ⟨p.1, 0, none⟩) p.2.1 p.2.2.1)) B' d (N + 1) { takS S with ws := S.ws ++ [(x, padB zs)] } ∧ Moved B B' w (p.2.2.2.setCell ⟨d, 1, none⟩ (.slice (some ⟨p.1, 0, none⟩) p.2.1 p.2.2.1)) := by
        rw [hbs]
        refine ⟨fun b => B b ∨ b = p.1, ⟨⟨m, k, _, j1.set 1 _, j2.only (o5 _) hmd, ?_, .inl i4, fun g hg => .inr ?_, ?_⟩, .inl h.own, ?_, ?_, D3.sure, D3.left0, D3.left1⟩, ?_, ?_⟩
        · have := own_only p1 (o5 (.slice (some ⟨p.1, 0, none⟩) p.2.1 p.2.2.1)) (fun g hg (e : g = d) => hnp (by rw [hg]; exact congrArg some e))
          show World.ownsRow _ 0 _ 65 _ (S.ws ++ [(x, bs)]).length (wsV (S.ws ++ [(x, bs)]))
          rw [List.length_append]
          have ew : wsV (S.ws ++ [(x, bs)]) = wsV S.ws ++ wrV x bs := by simp [wsV]
          rw [ew]
          exact this
        · simpa [Value.ownBlock] using hg.symm
        · show k + (S.ws ++ [(x, bs)]).length ≤ N + 1
          simp; omega
        · rintro b (hb | rfl)
          · have := D3.lt b hb
            simp
            omega
          · simpa using hp1.2
        · intro p hp
          rcases List.mem_append.1 hp with hp | hp
          · exact h.wrs p hp
          · obtain rfl : p = (x, bs) := by simpa using hp
            exact ⟨WalkArith.wf_i64 (by omega), hps⟩
        · rintro b (hb | rfl)
          · exact .inl hb
          · rcases p3 with p3 | p3
            · exact .inl (i5 _ p3.symm)
            · exact .inr (by omega)
        · exact OB.setCell (p := ⟨d, 1, none⟩) (.inl h.own) _
      have K := hide K
      clear o5 hnp j2 OB hp1 p1 p2 p3 e1 hp
      go_region
      all_goals
        go_wp2_with fail
        go_ret
        exact ⟨rfl, by have := K.out; rw [hbs, hd] at this; exact this⟩
end Go.Proofs.YtccdifplpbnclaaDoor
