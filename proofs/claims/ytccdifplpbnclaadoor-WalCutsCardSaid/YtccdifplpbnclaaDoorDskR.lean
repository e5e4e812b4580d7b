/- A disk's Read: a range over a function, inside a fence. -/
import Derived.Test.YtccdifplpbnclaaDoorDskC
import Derived.Test.YtccdifplpbnclaaDoorRngA
import Derived.RangeFuncFrom
import Derived.RangeFuncKeeps
import Derived.RangeFuncLeaves
import Derived.Shelf.Abstract
import Derived.OwnWalkIn
import Derived.TacticsInMore
import Derived.LoopNIn
import Derived.LoopIn
namespace Go.Proofs.YtccdifplpbnclaaDoor
open Go.RowKit Go.Maps Go.Shelf

attribute [local go_sem] Oper.semAt_some
attribute [local go_sem ↓] loadS_fold storeS_fold allocS_fold loadW_fold storeW_fold allocW_fold buildW_fold boxW_fold lookS_fold putS_fold sliceS_fold copyS_fold
attribute [local go_sem] loadS_has storeS_has allocS_run loadW_has storeW_has allocW_run buildW_run boxW_run lookS_has putS_has sliceS_all sliceS_k copyS_k

def wsAt (ws : List (Int × List Int)) (i : Nat) : Int × List Int := ws.getD i (0, zs64)
theorem wsAt_ok {ws : List (Int × List Int)} (h : Wrs ws) (i : Nat) : Key (wsAt ws i).1 ∧ Sect (wsAt ws i).2 := by
  unfold wsAt List.getD
  cases e : ws[i]? with
  | none => exact ⟨rfl, sect_zs⟩
  | some p => exact h p (List.mem_of_getElem? e)
theorem wsAt_get {ws : List (Int × List Int)} {i : Nat} (h : i < ws.length) : wsAt ws i = ws[i] := by simp [wsAt, List.getD, h]
def down (n k : Nat) : List Nat := (List.range k).map fun t => n - 1 - t
theorem down_len (n k : Nat) : (down n k).length = k := by simp [down]
theorem down_succ (n k : Nat) : down n (k + 1) = down n k ++ [n - 1 - k] := by simp [down, List.range_succ]
def encW (ws : List (Int × List Int)) (i : Nat) : Array Value := #[.int .i64 (i : Int), .agg (wrV (wsAt ws i).1 (wsAt ws i).2).toArray]

theorem own_under {w w' : World} {base size n B : Nat} {e : TypeId} {v : Value} {xs : List Value} (h : w.ownsRow base e size v n xs) (hb : Below B w w') (hv : ∀ g, v.ownBlock = some g → g < B) : w'.ownsRow base e size v n xs := by
  refine ⟨h.1, ?_⟩
  rcases h.2 with h0 | ⟨g, cap, cur, rfl, hg, hh, rest⟩
  · exact .inl h0
  · exact .inr ⟨g, cap, cur, rfl, hg, (hb.block g (hv g rfl)).trans hh, rest⟩
set_option maxRecDepth 100000 in
set_option maxHeartbeats 4000000 in
/-- What goes from the last write to the first. -/
theorem back_in (F : Fence) (n : Nat) (hf : F.fn 35) (hro : F.round = none) (hn : 1 ≤ n) (l Bn n₀ k c : Nat) (A : Option Addr) (ws : List (Int × List Int)) (hk : ws.length = k) (hw : Wrs ws) (hb : k < 100000) (J Jx : List Nat → World → Prop)
    (hY : ∀ pre x W, J pre W → pre.length < k → YieldAt F (n - 1) Tryd.prog l (encW ws x) W fun e W' =>
      (e = .returned (.bool true) ∧ J (pre ++ [x]) W' ∧ Below n₀ W W') ∨ (e = .returned (.bool false) ∧ Jx (pre ++ [x]) W'))
    (W : World) (hBn : W.cell? ⟨Bn, 0, none⟩ = some (.slice A k c)) (hBl : Bn < n₀) (hL : W.ownsRow 0 63 65 (.slice A k c) k (wsV ws)) (hA : ∀ ad, A = some ad → ad.block < n₀) (h0 : J [] W) :
    CallsIn F n Tryd.prog 35 #[.func (.yield l) #[] #[], .pointer (some ⟨Bn, 0, none⟩)] W fun e W' => (∃ v, e = .returned v) ∧
      ((∃ ys, ys = down k k ∧ J ys W') ∨ (∃ pre, (∃ j, j ≤ k ∧ pre = down k j) ∧ Jx pre W')) := by
  refine callsIn_of_wp Tryd.func35 rfl hf ?_ hro
  simp only [Tryd.ntmps35, List.size_toArray, List.length_cons, List.length_nil, Nat.reduceAdd, Nat.reduceSub, Array.replicate_succ, Array.replicate_zero, List.push_toArray, List.append_toArray, List.nil_append, List.cons_append]
  gi_wp2
  gi_loopw [3] (fun s3 wr => ∃ i : Nat, i ≤ k ∧ s3 = .int .i64 ((i : Int) - 1) ∧ J (down k (k - i)) wr ∧ Below n₀ W wr)
    (fun s3 _ => (intOf s3 + 1).toNat)
  case atStart =>
    exact ⟨k, Nat.le_refl _, rfl, by rw [Nat.sub_self]; exact h0, Below.refl _ _⟩
  case round =>
    obtain ⟨i, hi, e3, hJ, hB⟩ := hrel
    cases i with
    | zero =>
      subst e3
      gi_wp2
      go_end0
      exact ⟨⟨_, rfl⟩, .inl ⟨_, rfl, hJ⟩⟩
    | succ i =>
      rw [show ((i + 1 : Nat) : Int) - 1 = (i : Int) by omega] at e3
      subst e3
      have hc := (hB.cell (p := ⟨Bn, 0, none⟩) hBl).trans hBn
      have i3 := own_under hL hB (fun g hg => by
        cases A with
        | none => simp [Value.ownBlock] at hg
        | some ad => simp only [Value.ownBlock, Option.some.injEq] at hg; rw [← hg]; exact hA ad rfl)
      obtain ⟨g, rfl, rr, hh⟩ := own_at i3 hk hw i (by omega)
      obtain ⟨fn, tmps, assign, body, hy, hR⟩ := hY _ i wr hJ (by rw [down_len]; omega)
      have hpre : down k (k - (i + 1)) ++ [i] = down k (k - i) := by
        rw [show k - i = k - (i + 1) + 1 by omega, down_succ]
        congr 2
        omega
      rw [encW, wsAt_get (by omega)] at hy
      rw [hpre] at hR
      have hR := hide hR
      have d1 : decide ((0 : Int) ≤ (i : Int)) = true := decide_eq_true (by omega)
      have d2 : (i : Int) < (k : Int) := by omega
      clear hY
      gi_wp2
      refine hR.out.mono ?_
      rintro e W3 (⟨rfl, hJ3, hk3⟩ | ⟨rfl, hJx3⟩)
      · gi_wp2
        go_roundw
        case rel => go_light; exact ⟨i, by omega, by go_num, hJ3, hB.trans hk3⟩
        case measure => go_light; simp [intOf]
      · gi_wp2
        refine bodyPost_ret (results_none rfl _ _ _) rfl ?_
        exact ⟨⟨_, rfl⟩, .inr ⟨_, ⟨k - i, by go_light; omega, rfl⟩, hJx3⟩⟩

theorem back_stops (F : Fence) (n : Nat) (hf : F.fn 35) (hro : F.round = none) (hn : 1 ≤ n) (Bn n₀ k c : Nat) (A : Option Addr) (ws : List (Int × List Int)) (hk : ws.length = k) (hw : Wrs ws) (hb : k < 100000)
    (w : World) (hBn : w.cell? ⟨Bn, 0, none⟩ = some (.slice A k c)) (hBl : Bn < n₀) (hL : w.ownsRow 0 63 65 (.slice A k c) k (wsV ws)) (hn₀ : n₀ ≤ w.heap.size) (hA : ∀ ad, A = some ad → ad.block < n₀) :
    SeqStopsK F n Tryd.prog 35 #[.pointer (some ⟨Bn, 0, none⟩)] (encW ws) (Below n₀) (fun ys => ys = down k k) (fun pre => ∃ j, j ≤ k ∧ pre = down k j) k w := fun l J Jx W hW _ _ hY h0 =>
  back_in F n hf hro hn l Bn n₀ k c A ws hk hw hb J Jx hY W ((hW.cell (p := ⟨Bn, 0, none⟩) (by show Bn < w.heap.size; omega)).trans hBn) hBl (own_under hL hW (fun g hg => by
    cases A with
    | none => simp [Value.ownBlock] at hg
    | some ad => simp only [Value.ownBlock, Option.some.injEq] at hg; rw [← hg]; have := hA ad rfl; omega)) hA h0
set_option maxHeartbeats 1000000 in
theorem Backward_in (F : Fence) (n : Nat) (hf : F.fn 32) (hro : F.round = none) (v : Value) (A : Option Addr) (k c : Nat) (hv : v = .slice A k c) (w : World) :
    CallsIn F n Tryd.prog 32 #[v] w fun e w' => e = .returned (.func (.func 35) #[] #[.pointer (some ⟨w.heap.size, 0, none⟩)]) ∧ w' = w.alloc (.cells #[v] 52) := by
  subst hv
  refine callsIn_of_wp Tryd.func32 rfl hf ?_ hro
  simp only [Tryd.ntmps32, List.size_toArray, List.length_cons, List.length_nil, Nat.reduceAdd, Nat.reduceSub, Array.replicate_succ, Array.replicate_zero, List.push_toArray, List.append_toArray, List.nil_append, List.cons_append]
  gi_wp2
  go_ret
  exact ⟨rfl, rfl⟩
set_option maxRecDepth 100000 in
set_option maxHeartbeats 4000000 in
theorem Sure_in (F : Fence) (n₁ : Nat) (hfn : F.fn 33) (hro : F.round = none) (w : World) (B : Nat → Prop) (d N : Nat) (S : DS) (x : Int) (h : DiskAt w B d N S) (hN : N < 50000) (hx : Key x) :
    CallsIn F n₁ Tryd.prog 33 #[.pointer (some ⟨d, 0, none⟩), .int .i64 x] w fun e w' => e = .returned (secV (S.f x)) ∧ Below w.heap.size w w' := by
  obtain ⟨m, k, v, h1, h2, h3, h4, h5, h6⟩ := h.is_
  have hf := (h.sure x).vlen
  have h1' := h1.alloc (.cells (u8V zs64).toArray 61)
  have h2' := h2.alloc (.cells (u8V zs64).toArray 61)
  have ha := VBlk.new w 61 (u8V zs64)
  have hB : Below w.heap.size w (w.alloc (.cells (u8V zs64).toArray 61)) := (Below.refl _ _).alloc (Nat.le_refl _) _
  have c0 := h1'.cellAt (i := 0) rfl
  obtain ⟨rm, hhm⟩ := h2'.got (by omega) x
  have hr := ha.room 0 64 (by decide)
  have hi : Is 64 (u8V (S.f x)) := ⟨hf, u8V_one _⟩
  have hz := ha.fill (us := u8V (S.f x)) (by rw [hf]; rfl)
  have hBz := below_only hB (only_cells _ w.heap.size 0 (u8V (S.f x))) (fun i (e : i = w.heap.size) => by omega) hB.size
  refine callsIn_of_wp Tryd.func33 rfl hfn ?_ hro
  simp only [Tryd.ntmps33, List.size_toArray, List.length_cons, List.length_nil, Nat.reduceAdd, Nat.reduceSub, Array.replicate_succ, Array.replicate_zero, List.push_toArray, List.append_toArray, List.nil_append, List.cons_append]
  gi_wp2
  exact bodyPost_ret (results_v rfl hz hf Tryd.underlying61 rfl Tryd.info64 rfl) rfl ⟨rfl, hBz⟩

/-! ### what is read -/
def readF (f : Int → List Int) (ws : List (Int × List Int)) (x : Int) : List Int := ws.foldl (fun s p => if p.1 = x then p.2 else s) (f x)
theorem fold_miss {x : Int} : ∀ (ws : List (Int × List Int)) (s : List Int), (∀ p ∈ ws, p.1 ≠ x) → ws.foldl (fun s p => if p.1 = x then p.2 else s) s = s
  | [], _, _ => rfl
  | p :: ws, s, h => by
    rw [List.foldl_cons, if_neg (h p (by simp))]
    exact fold_miss ws s fun q hq => h q (by simp [hq])
theorem read_miss {f : Int → List Int} {ws : List (Int × List Int)} {x : Int} (h : ∀ i, i < ws.length → (wsAt ws i).1 ≠ x) : readF f ws x = f x := by
  refine fold_miss ws _ fun p hp => ?_
  obtain ⟨i, hi, rfl⟩ := List.getElem_of_mem hp
  have := h i hi
  rwa [wsAt_get hi] at this
theorem read_hit {f : Int → List Int} {ws : List (Int × List Int)} {x : Int} {i : Nat} (hi : i < ws.length) (he : (wsAt ws i).1 = x) (h : ∀ j, i < j → j < ws.length → (wsAt ws j).1 ≠ x) : readF f ws x = (wsAt ws i).2 := by
  rw [wsAt_get hi] at he ⊢
  unfold readF
  conv => lhs; rw [← List.take_append_drop i ws, List.foldl_append, List.drop_eq_getElem_cons hi, List.foldl_cons, if_pos he]
  refine fold_miss _ _ fun p hp => ?_
  obtain ⟨j, hj, rfl⟩ := List.getElem_of_mem hp
  have hl : i + 1 + j < ws.length := by simp at hj; omega
  have := h (i + 1 + j) (by omega) hl
  rw [wsAt_get hl] at this
  rwa [List.getElem_drop]
theorem readF_sect {f : Int → List Int} {ws : List (Int × List Int)} {x : Int} (hw : Wrs ws) (hf : ∀ y, Sect (f y)) : Sect (readF f ws x) := by
  unfold readF
  have : ∀ s, Sect s → Sect (ws.foldl (fun s p => if p.1 = x then p.2 else s) s) := by
    induction ws with
    | nil => exact fun s h => h
    | cons p ws ih =>
      intro s h
      rw [List.foldl_cons]
      refine ih (fun q hq => hw q (by simp [hq])) _ ?_
      split
      · exact (hw p (by simp)).2
      · exact h
  exact this _ (hf x)
theorem vblk_kept {w w' : World} {row : Option Nat} {g : Nat} {t : TypeId} {vs : List Value} (h : VBlk w g t vs) (hg : w.grownBy w' row) (hr : ∀ r, row = some r → ∃ o : Obj, w.heap[r]? = some o ∧ o.isCells = false) : VBlk w' g t vs := by
  refine (hg.block g h.lt fun e => ?_).trans h
  obtain ⟨o, ho, hc⟩ := hr g e.symm
  rw [show w.heap[g]? = some (.cells vs.toArray t (0, 0)) from h] at ho
  cases ho
  cases hc
theorem keeps_setCells (b : Nat) : ∀ (vs : List Value) (o : Nat) (W : World), KeepsOthers W (W.setCells b o vs)
  | [], _, W => KeepsOthers.refl W
  | v :: r, o, W => (KeepsOthers.setCell W ⟨b, o, none⟩ v).trans (keeps_setCells b r (o + 1) _)

set_option maxRecDepth 100000 in
set_option maxHeartbeats 4000000 in
theorem Read_in (F : Fence) (n₁ : Nat) (f13 : F.fn 29) (f14 : F.fn 33) (f19 : F.fn 32) (f20 : F.fn 35) (hro : F.round = none) (hn : 3 ≤ n₁)
    (w : World) (B : Nat → Prop) (d N : Nat) (S : DS) (x : Int) (h : DiskAt w B d N S) (hN : N < 50000) (hx : Key x) :
    CallsIn F n₁ Tryd.prog 29 #[.pointer (some ⟨d, 0, none⟩), .int .i64 x] w fun e w' => e = .returned (secV (readF S.f S.ws x)) ∧ Below w.heap.size w w' := by
  obtain ⟨m, q, v, h1, h2, h3, h4, h5, h6⟩ := h.is_
  obtain ⟨A, c, rfl⟩ := own_slice h3
  have e1 : 1 ≤ n₁ := by omega
  have hw := h.wrs
  have H1 := (h1.alloc (.cells #[.int .i64 x] 3)).alloc (.cells (u8V zs64).toArray 61)
  have hsz : (w.alloc (.cells #[.int .i64 x] 3)).heap.size = w.heap.size + 1 := by simp
  have hsz2 : ((w.alloc (.cells #[.int .i64 x] 3)).alloc (.cells (u8V zs64).toArray 61)).heap.size = w.heap.size + 1 + 1 := by simp
  have V3 : VBlk ((w.alloc (.cells #[.int .i64 x] 3)).alloc (.cells (u8V zs64).toArray 61)) w.heap.size 3 [.int .i64 x] := (VBlk.new w 3 [.int .i64 x]).alloc _
  have V4 := VBlk.new (w.alloc (.cells #[.int .i64 x] 3)) 61 (u8V zs64)
  rw [hsz] at V4
  have HB : Below w.heap.size w ((w.alloc (.cells #[.int .i64 x] 3)).alloc (.cells (u8V zs64).toArray 61)) := ((Below.refl _ w).alloc (Nat.le_refl _) _).alloc (by omega) _
  have c1 := H1.cellAt (i := 1) rfl
  refine callsIn_of_wp_marks Tryd.func29 rfl f13 ?_ hro
  simp only [Tryd.ntmps29, List.size_toArray, List.length_cons, List.length_nil, Nat.reduceAdd, Nat.reduceSub, Array.replicate_succ, Array.replicate_zero, List.push_toArray, List.append_toArray, List.nil_append, List.cons_append]
  gi_wp2_with (gi_at_call 32; refine (Backward_in F (n₁ - 1) f19 hro _ _ _ _ rfl _).mono ?_; rintro e w' ⟨rfl, rfl⟩)
  have hpl := h.dlt
  have HB2 := HB.alloc HB.size (.cells #[.slice A S.ws.length c] 52)
  have V3 := V3.alloc (.cells #[.slice A S.ws.length c] 52)
  have V4 := V4.alloc (.cells #[.slice A S.ws.length c] 52)
  have V5 := VBlk.new ((w.alloc (.cells #[.int .i64 x] 3)).alloc (.cells (u8V zs64).toArray 61)) 52 [.slice A S.ws.length c]
  rw [hsz2] at V5
  have hsz3 : (((w.alloc (.cells #[.int .i64 x] 3)).alloc (.cells (u8V zs64).toArray 61)).alloc (.cells #[.slice A S.ws.length c] 52)).heap.size = w.heap.size + 3 := by simp
  have V5 : VBlk (((w.alloc (.cells #[.int .i64 x] 3)).alloc (.cells (u8V zs64).toArray 61)).alloc (.cells #[.slice A S.ws.length c] 52)) (w.heap.size + 1 + 1) 52 [.slice A S.ws.length c] := V5
  generalize ((w.alloc (.cells #[.int .i64 x] 3)).alloc (.cells (u8V zs64).toArray 61)).alloc (.cells #[.slice A S.ws.length c] 52) = w1 at *
  clear HB H1 c1 hsz hsz2
  have i3 := own_under h3 HB2 (fun g hg => h.lt g (h5 g hg))
  have hA : ∀ ad, A = some ad → ad.block < w1.heap.size := fun ad e => by
    have := h.lt ad.block (h5 ad.block (by rw [e]; rfl))
    omega
  have hb5 : S.ws.length < 100000 := by omega
  refine range_own hro e1 (gf := 35) (lb := #[.pointer (some ⟨w.heap.size + 1 + 1, 0, none⟩)]) rfl f20 (enters_of Tryd.func35 (by kernel_rfl) rfl)
    (back_stops F (n₁ - 1) f20 hro (by omega) (w.heap.size + 1 + 1) w1.heap.size S.ws.length c A S.ws rfl hw hb5 w1 (V5.cellAt rfl) (by omega) i3 (Nat.le_refl _) hA)
    belowK_t (fun W o o' ho => (Below.refl w1.heap.size W).grown (grownBy_putObj' W _ o') (by have := (Array.getElem?_eq_some_iff.1 ho).1; omega) (fun k e => by cases e; omega)) (fun _ => rfl)
    (fun pre W => (∀ i ∈ pre, (wsAt S.ws i).1 ≠ x) ∧ VBlk W w.heap.size 3 [.int .i64 x] ∧ VBlk W (w.heap.size + 1) 61 (u8V zs64) ∧ Below w.heap.size w W ∧ w1.heap.size ≤ W.heap.size)
    (fun c pre W => c = .ret ∧ (∃ pre' i, pre = pre' ++ [i] ∧ (∀ j ∈ pre', (wsAt S.ws j).1 ≠ x) ∧ (wsAt S.ws i).1 = x ∧ VBlk W (w.heap.size + 1) 61 (u8V (wsAt S.ws i).2)) ∧ Below w.heap.size w W)
    ?own ?ownx ⟨by simp, V3, V4, HB2, Nat.le_refl _⟩ ?round ?done ?stop
  case own =>
    intro s W W' row hs hg hr
    exact ⟨hs.1, vblk_kept hs.2.1 hg (fun r e => (hr r e).2), vblk_kept hs.2.2.1 hg (fun r e => (hr r e).2), hs.2.2.2.1.grown hg hs.2.2.2.1.size (fun k e => by have := (hr k e).1; omega), Nat.le_trans hs.2.2.2.2 hg.size⟩
  case ownx =>
    rintro c s W W' row ⟨hc, ⟨pre', i, ep, hp, hi, hv⟩, hb⟩ hg hr
    exact ⟨hc, ⟨pre', i, ep, hp, hi, vblk_kept hv hg (fun r e => (hr r e).2)⟩, hb.grown hg hb.size (fun k e => by have := (hr k e).1; omega)⟩
  case round =>
    rintro l pre y W ⟨hp, W3, W4, hB, hsW⟩ hlen
    obtain ⟨hky, hsy⟩ := wsAt_ok hw y
    have hvl := hsy.vlen
    generalize hx1 : (wsAt S.ws y).1 = x1 at *
    generalize hb1 : (wsAt S.ws y).2 = bs1 at *
    have hlb := hsy.wlen x1
    have ha := VBlk.new W 63 (wrV 0 zs64)
    have hrm := ha.room 0 65 (by rw [wrV_length]; decide)
    have hi65 : Is 65 (wrV x1 bs1) := ⟨hlb, wrV_one _ _⟩
    have hf := ha.fill (us := wrV x1 bs1) (by rw [hlb, wrV_length]; rfl)
    have o1 := only_cells (W.alloc (.cells (wrV 0 zs64).toArray 63)) W.heap.size 0 (wrV x1 bs1)
    have hK : KeepsOthers W ((W.alloc (.cells (wrV 0 zs64).toArray 63)).setCells W.heap.size 0 (wrV x1 bs1)) := (KeepsOthers.alloc W _).trans (keeps_setCells _ _ _ _)
    have hK2 : Below w1.heap.size W ((W.alloc (.cells (wrV 0 zs64).toArray 63)).setCells W.heap.size 0 (wrV x1 bs1)) := below_only ((Below.refl w1.heap.size W).alloc hsW _) o1 (fun i (e : i = W.heap.size) => by omega) (by simp; omega)
    have hB3 : Below w.heap.size w ((W.alloc (.cells (wrV 0 zs64).toArray 63)).setCells W.heap.size 0 (wrV x1 bs1)) := hB.trans (hK2.mono (by omega))
    have W3' := W3.below hK2 (by omega)
    have W4' := W4.below hK2 (by omega)
    have hsz4 := hK.size
    dsimp only [encW]
    rw [hx1, hb1]
    gi_wp2
    refine ⟨hK, hK2, fun W₂ hg hex => ?_⟩
    have hrow : ∀ r, some (w1.heap.size + 1) = some r → ∃ o : Obj, ((W.alloc (.cells (wrV 0 zs64).toArray 63)).setCells W.heap.size 0 (wrV x1 bs1)).heap[r]? = some o ∧ o.isCells = false := fun r e => by cases e; exact hex
    have U5 := vblk_kept hf hg hrow
    have U3 := vblk_kept W3' hg hrow
    have U4 := vblk_kept W4' hg hrow
    have UB := hB3.grown hg hB3.size (fun k e => by cases e; omega)
    have hs2 := hg.size
    clear hg hex hrow hK hK2 hB3 W3' W4' hf ha hrm o1
    generalize (W.alloc (.cells (wrV 0 zs64).toArray 63)).setCells W.heap.size 0 (wrV x1 bs1) = Wx at hsz4 hs2
    have c5 := U5.cellAt (i := 0) rfl
    have c3 := U3.cellAt (i := 0) rfl
    obtain ⟨rr, hh⟩ := U5.got 1 64 (by rw [hlb]; decide)
    rw [show ((wrV x1 bs1).drop 1).take 64 = u8V bs1 from List.take_of_length_le (Nat.le_of_eq hvl)] at rr
    have hr4 := U4.room 0 64 (by decide)
    have hi64 : Is 64 (u8V bs1) := ⟨hvl, u8V_one _⟩
    have hf4 := U4.fill (us := u8V bs1) (by rw [hvl]; rfl)
    have hB4 := below_only UB (only_cells W₂ (w.heap.size + 1) 0 (u8V bs1)) (fun i (e : i = w.heap.size + 1) => by omega) UB.size
    have hK4 := keeps_setCells (w.heap.size + 1) (u8V bs1) 0 W₂
    have e12 : 1 ≤ n₁ - 1 - 1 := by omega
    by_cases hxx : x1 = x
    · have dx : (x1 == x) = true := by simpa using hxx
      have fin : KeepsOthers W₂ (W₂.setCells (w.heap.size + 1) 0 (u8V bs1)) ∧ Code.ret = Code.ret ∧ (∃ pre' i, pre ++ [y] = pre' ++ [i] ∧ (∀ j ∈ pre', (wsAt S.ws j).1 ≠ x) ∧ (wsAt S.ws i).1 = x ∧ VBlk (W₂.setCells (w.heap.size + 1) 0 (u8V bs1)) (w.heap.size + 1) 61 (u8V (wsAt S.ws i).2)) ∧ Below w.heap.size w (W₂.setCells (w.heap.size + 1) 0 (u8V bs1)) :=
        ⟨hK4, rfl, ⟨pre, y, rfl, hp, hx1.trans hxx, by rw [hb1]; exact hf4⟩, hB4⟩
      have fin := hide fin
      clear hx1 hb1 hp
      gi_wp2
      obtain ⟨t1, _, t3⟩ := fin.out
      exact ⟨t1, rfl, t3⟩
    · have dx : (x1 == x) = false := by simpa using hxx
      have fin : KeepsOthers W₂ W₂ ∧ Below w1.heap.size W₂ W₂ ∧ (∀ i ∈ pre ++ [y], (wsAt S.ws i).1 ≠ x) ∧ VBlk W₂ w.heap.size 3 [.int .i64 x] ∧ VBlk W₂ (w.heap.size + 1) 61 (u8V zs64) ∧ Below w.heap.size w W₂ ∧ w1.heap.size ≤ W₂.heap.size :=
        ⟨KeepsOthers.refl _, Below.refl _ _, fun i hi => (List.mem_append.1 hi).elim (hp i) (fun e => by rw [List.mem_singleton.1 e, hx1]; exact hxx), U3, U4, UB, by omega⟩
      have fin := hide fin
      clear hx1 hb1 hp
      gi_wp2
      first | exact fin.out | (have q := fin.out; rw [hsz3] at q; exact q)
  case done =>
    rintro xs W rfl ⟨hp, U3, U4, hB, hsW⟩ hK
    have hrd : readF S.f S.ws x = S.f x := read_miss fun i hi => hp i (by
      refine List.mem_map.2 ⟨S.ws.length - 1 - i, by simp; omega, by omega⟩)
    have hf := (h.sure x).vlen
    have c3 := U3.cellAt (i := 0) rfl
    gi_wp2_with fail
    (with_reducible refine (Sure_in F (n₁ - 1) f14 hro W B d N S x (h.below hB) hN hx).mono ?_)
    rintro e w2 ⟨rfl, hb2⟩
    have hKl := (Array.getElem?_eq_some_iff.1 hK).1
    have U4' := U4.below hb2 U4.lt
    have hr4 := U4'.room 0 64 (by decide)
    have hi64 : Is 64 (u8V (S.f x)) := ⟨hf, u8V_one _⟩
    have hz := U4'.fill (us := u8V (S.f x)) (by rw [hf]; rfl)
    have hB4 := below_only (hB.trans (hb2.mono hB.size)) (only_cells w2 (w.heap.size + 1) 0 (u8V (S.f x))) (fun i (e : i = w.heap.size + 1) => by omega) (Nat.le_trans hB.size hb2.size)
    have hK2 := (keeps_setCells (w.heap.size + 1) (u8V (S.f x)) 0 w2).same _ _ ((hb2.block _ hKl).trans hK) rfl
    have hgp := grownBy_putObj' (w2.setCells (w.heap.size + 1) 0 (u8V (S.f x))) w1.heap.size (.deferred none)
    have hz2 := vblk_kept hz hgp (fun r e => by cases e; exact ⟨_, hK2, rfl⟩)
    have hB5 := hB4.grown hgp hB4.size (fun k e => by cases e; omega)
    have FIN := hide (And.intro hK2 (And.intro hz2 hB5))
    clear hK2 hgp hz2 hB5 hB4 hz hB hb2 hK hKl U3 U4 hp V3 V4 V5 HB2
    gi_wp2
    obtain ⟨g1, g2, g3⟩ := FIN.out
    rw [hsz3] at g1 g2 g3
    refine ⟨by simp, .inl ⟨_, _, rfl, run_takeDeferred g1, ?_⟩⟩
    exact ⟨_, results_v rfl g2 hf Tryd.underlying61 rfl Tryd.info64 rfl, by rw [hrd], g3⟩
  case stop =>
    rintro c pre W ⟨j, hj, rfl⟩ ⟨rfl, ⟨pre', i, ep, hp, hi, hv⟩, hB⟩ hK
    obtain ⟨hk1, hpi, hii⟩ : ∃ j', j = j' + 1 ∧ pre' = down S.ws.length j' ∧ i = S.ws.length - 1 - j' := by
      cases j with
      | zero => simp [down] at ep
      | succ j' =>
        rw [down_succ] at ep
        obtain ⟨e1, e2⟩ := List.append_inj' ep rfl
        exact ⟨j', rfl, e1.symm, by injection e2 with e2; exact e2.symm⟩
    obtain ⟨rfl, rfl⟩ := hii
    have hrd : readF S.f S.ws x = (wsAt S.ws (S.ws.length - 1 - hk1)).2 := read_hit (by omega) hi fun t h1 h2 => hp t (List.mem_map.2 ⟨S.ws.length - 1 - t, by simp; omega, by omega⟩)
    have hvl := (wsAt_ok hw (S.ws.length - 1 - hk1)).2.vlen
    have hKl := (Array.getElem?_eq_some_iff.1 hK).1
    have hgp := grownBy_putObj' W w1.heap.size (.deferred none)
    have hz2 := vblk_kept hv hgp (fun r e => by cases e; exact ⟨_, hK, rfl⟩)
    have hB5 := hB.grown hgp hB.size (fun k e => by cases e; omega)
    have FIN := hide (And.intro hK (And.intro hz2 hB5))
    clear hK hgp hz2 hB5 hB hKl hp V3 V4 V5 HB2 hv
    gi_wp2
    obtain ⟨g1, g2, g3⟩ := FIN.out
    refine ⟨by simp, .inl ⟨_, _, rfl, run_takeDeferred g1, ?_⟩⟩
    exact ⟨_, results_v rfl g2 hvl Tryd.underlying61 rfl Tryd.info64 rfl, by rw [hrd], g3⟩
theorem Read_runs (w : World) (B : Nat → Prop) (d N : Nat) (S : DS) (x : Int) (h : DiskAt w B d N S) (hN : N < 50000) (hx : Key x) :
    Calls Tryd.prog 29 #[.pointer (some ⟨d, 0, none⟩), .int .i64 x] w fun e w' => e = .returned (secV (readF S.f S.ws x)) ∧ Below w.heap.size w w' :=
  (Read_in { fn := fun _ => True } 3 trivial trivial trivial trivial rfl (Nat.le_refl _) w B d N S x h hN hx).calls (fun k d hd => by cases hd)
end Go.Proofs.YtccdifplpbnclaaDoor
