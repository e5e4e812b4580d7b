/- A log is opened. -/
import Derived.Test.YtccdifplpbnclaaDoorWalR
namespace Go.Proofs.YtccdifplpbnclaaDoor
open Go.RowKit Go.Maps

attribute [local go_sem ↓] appLF_fold
attribute [local go_sem] appLF_has

theorem own_mono {w : World} {base base' n size : Nat} {e : TypeId} {v : Value} {xs : List Value} (h : w.ownsRow base e size v n xs) (hb : base' ≤ base) : w.ownsRow base' e size v n xs := by
  refine ⟨h.1, ?_⟩
  rcases h.2 with h0 | ⟨g, cap, cur, rfl, h1, r⟩
  · exact .inl h0
  · exact .inr ⟨g, cap, cur, rfl, Nat.le_trans hb h1, r⟩
theorem own_sep {w : World} {base base' n n' size size' : Nat} {e e' : TypeId} {v v' : Value} {xs xs' : List Value} (h : w.ownsRow base e size v n xs) (h' : w.ownsRow base' e' size' v' n' xs') (hne : e ≠ e') {g : Nat} (hg : v'.ownBlock = some g) : v.ownBlock ≠ some g := by
  rcases h'.2 with ⟨rfl, _⟩ | ⟨g', cap, cur, rfl, _, hh, _⟩
  · simp [Value.ownBlock] at hg
  · have : g' = g := by simpa [Value.ownBlock] using hg
    subst this
    exact own_blk_ne h (show Blk w g' e' cur from hh) hne
def lenOf : Value → Nat
  | .slice _ n _ => n
  | _ => 0
theorem bytes8_wf {b : List Int} (h : bytes8 b) : ∀ z ∈ b, (Lit.int .u8 z).wf = true := fun z hz => WalkArith.wf_u8 (by have := h z hz; omega)
/-- An owned slice of bytes is such a slice. -/
theorem slOk_own {w : World} {base : Nat} {Q : Nat → Prop} {v : Value} {b : List Int} (h : w.ownsRow base 5 1 v b.length (u8V b)) (hb : bytes8 b) (hQ : ∀ g, base ≤ g → Q g) : ∃ s : Sl, v = slV s ∧ s.n = b.length ∧ s.zs = b ∧ SlOk w Q s := by
  obtain ⟨A, c, rfl, h1, h2⟩ := own_form h
  refine ⟨⟨A, b.length, c, b⟩, rfl, rfl, rfl, ⟨⟨Reads.of_own h, h1, h2, bytes8_wf hb⟩, fun _ ad ha => hQ _ ?_⟩⟩
  have : A = some ad := ha
  subst this
  exact own_base h ad.block rfl
/-- What is known in the midst of an Open. -/
def OpenRel (w : World) (d l : Nat) (f : Sects) (s6 s7 s8 : Value) (wr : World) : Prop :=
  ∃ Fs : List Sl, Run f 0 0 (zsOf Fs) ∧ LogIs wr l d Fs.length (used (zsOf Fs)) ∧ Recs wr w.heap.size (fun b => w.heap.size ≤ b ∧ b ≠ l) s6 Fs ∧ Below w.heap.size w wr ∧
    ((∃ b, s8 = .bool true ∧ wr.ownsRow (w.heap.size + 1) 5 1 s7 b.length (u8V b) ∧ bytes8 b ∧ Whole f (Fs.length + 1) (used (zsOf Fs)) b ∧ pcs b.length ≤ 255) ∨ (s7 = .slice none 0 0 ∧ s8 = .bool false ∧ NoneAt f (Fs.length + 1) (used (zsOf Fs))))
set_option maxRecDepth 100000 in
set_option maxHeartbeats 8000000 in
theorem Open_runs (w : World) (B : Nat → Prop) (d N : Nat) (f : Sects) (lf : Int) (h : DiskAt w B d N (idleS f lf)) (hN : N + 2048 < 50000) (hF : FinF f) (hT : Laid w) :
    Calls Tryd.prog 12 #[.pointer (some ⟨d, 0, none⟩)] w fun x w' => ∃ l v Fs B' f', x = .returned (.tuple #[.pointer (some ⟨l, 0, none⟩), v, .int .i64 0]) ∧ DiskAt w' B' d (N + 2048) (idleS f' lf) ∧ Moved B B' w w' ∧ LogIs w' l d Fs.length (used (zsOf Fs)) ∧ w.heap.size ≤ l ∧ ¬ B' l ∧
      Recs w' w.heap.size (fun b => w.heap.size ≤ b ∧ b ≠ l ∧ ¬ B' b) v Fs ∧ Opened f (zsOf Fs) ∧ LogF f' (zsOf Fs) := by
  obtain ⟨i0, hi, hz0, hz1, hz2⟩ := info_parts Tryd.infoSl
  have hlt := h.lt
  go_enter Tryd.func12, Tryd.ntmps12
  have L1 : LogIs (w.alloc (.cells #[.pointer (some ⟨d, 0, none⟩), .int .i64 0, .int .i64 0] 56)) w.heap.size d 0 0 := VBlk.new w _ _
  have B1 : Below w.heap.size w (w.alloc (.cells #[.pointer (some ⟨d, 0, none⟩), .int .i64 0, .int .i64 0] 56)) := (Below.refl _ _).alloc (Nat.le_refl _) _
  have s1 : (w.alloc (.cells #[.pointer (some ⟨d, 0, none⟩), .int .i64 0, .int .i64 0] 56)).heap.size = w.heap.size + 1 := by simp
  go_upto_region 4 with fail
  generalize w.alloc (.cells #[.pointer (some ⟨d, 0, none⟩), .int .i64 0, .int .i64 0] 56) = w1 at *
  generalize hll : w.heap.size = l at *
  have D1 := h.below (hll ▸ B1)
  have T1 := hT.below B1 (hll ▸ hT.lt)
  go_wp2_with fail
  (with_reducible refine (next_runs w1 B d N l 0 0 _ D1 (by omega) L1 T1 rfl (by omega) (by omega)).mono ?_)
  rintro x w2 ⟨hB2, hres⟩
  have B2 := B1.trans (hB2.mono (by omega))
  have L2 : LogIs w2 l d 0 0 := VBlk.below L1 hB2 (by omega)
  have R2 : ∃ s7 s8, x = .returned (.tuple #[s7, s8]) ∧ OpenRel w d l f (.slice none 0 0) s7 s8 w2 := by
    rcases hres with ⟨v, b, rfl, h1, h2, h3, h4⟩ | ⟨rfl, h1⟩
    · exact ⟨_, _, rfl, [], trivial, L2, Recs.nil _ _ _, hll.symm ▸ B2, .inl ⟨b, rfl, own_mono h1 (by omega), h2, h3, h4⟩⟩
    · exact ⟨_, _, rfl, [], trivial, L2, Recs.nil _ _ _, hll.symm ▸ B2, .inr ⟨rfl, rfl, h1⟩⟩
  clear hres hB2 B2 L2 D1 T1 B1 L1
  obtain ⟨s7, s8, rfl, R2⟩ := R2
  go_wp2_with fail
  go_loopw [6, 7, 8] (fun s6 s7 s8 wr => OpenRel w d l f s6 s7 s8 wr) (fun s6 _ _ _ => 2049 - lenOf s6)
  case atStart => exact R2
  case round =>
    obtain ⟨Fs, hRun, hL, hRec, hB, hc⟩ := hrel
    have hfit := hRun.fits hF (Nat.zero_le _)
    have hge := used_ge (zsOf Fs)
    rw [zsOf_len] at hge
    have hwr := hB.size
    have hll2 := VBlk.lt hL
    rcases hc with ⟨b, rfl, hO, hb8, hW, hp⟩ | ⟨rfl, rfl, hNo⟩
    · obtain ⟨s, rfl, hsn, hsz, hOk⟩ := slOk_own (Q := fun b => w.heap.size ≤ b ∧ b ≠ l) hO hb8 (fun g hg => by omega)
      have hbl : b.length ≤ 13260 := by have := pcs_cover b.length; omega
      have hWf := hW.fits hF
      have hsep : 0 < s.n → ∀ ad, s.A = some ad → u6.ownBlock ≠ some ad.block := fun _ ad ha => own_sep hRec.own hO (by decide) (by unfold slV; rw [ha]; rfl)
      obtain ⟨A6, c6, rfl, _, _⟩ := hRec.form
      have Rec1 := hRec.below ((Below.refl wr.heap.size wr).alloc (Nat.le_refl _) (.cells #[slV s] 33))
      have Ok1 := hOk.only (only_of_below ((Below.refl wr.heap.size wr).alloc (Nat.le_refl _) (.cells #[slV s] 33)) (fun _ => False)) (fun _ _ _ e => e)
      have hL1 : LogIs (wr.alloc (.cells #[slV s] 33)) l d Fs.length (used (zsOf Fs)) := VBlk.alloc hL _
      have hB1 := hB.alloc hwr (.cells #[slV s] 33)
      have hs1 : (wr.alloc (.cells #[slV s] 33)).heap.size = wr.heap.size + 1 := by simp
      have hrd := reads_one wr (slV s) 33
      obtain ⟨ha, hp3⟩ := appL_any (c := 1) Rec1.own hrd (by intro u hu; simp at hu; subst hu; rfl) (by omega) (by omega)
      generalize hpp : appLP (wr.alloc (.cells #[slV s] 33)) (.slice A6 Fs.length c6) (.slice (some ⟨wr.heap.size, 0, none⟩) 1 1) = p at hp3
      obtain ⟨p1, p2, p3⟩ := hp3 p rfl
      have Rec3 : Recs p.2 w.heap.size (fun b => w.heap.size ≤ b ∧ b ≠ l) p.1 (Fs ++ [s]) := Rec1.snoc Ok1 p1 p2 p3 (by simp; omega) hsep
      have hL3 : LogIs p.2 l d Fs.length (used (zsOf Fs)) := Blk.grown hL1 p2 (fun e => own_blk_ne Rec1.own hL1 (by decide) e.symm)
      have hB3 := hB1.grown p2 (by omega) (own_base Rec1.own)
      have hs3 := p2.size
      clear Rec1 Ok1 hL1 hB1 hrd p1 p2 p3 hp3 hRec hL hO hOk hB R2
      go_upto_region 9 with fail
      clear ha hpp
      obtain ⟨v3, w3⟩ := p
      dsimp only at *
      go_wp2_with fail
      (with_reducible refine (grow_runs w3 l d Fs.length (used (zsOf Fs)) b.length hL3 (by omega) (by omega) (by omega)).mono ?_)
      rintro x w4 ⟨⟨vx, rfl⟩, hL4, O4⟩
      have Rec4 := Rec3.only O4 (fun b _ hQ e => hQ.2 e)
      have hB4 := below_only hB3 O4 (fun i (e : i = l) => by omega) hB3.size
      have hs4 := hB4.size
      have D4 := h.below hB4
      have T4 := hT.below hB4 hT.lt
      have hl4 := VBlk.lt hL4
      clear hL3 hB3 Rec3 O4
      have hsn' : used (zsOf Fs) + pcs b.length ≤ 2048 := by omega
      go_wp2_with fail
      (with_reducible refine (next_runs w4 B d N l (Fs.length + 1) (used (zsOf Fs) + pcs b.length) _ D4 (by omega) hL4 T4 rfl (by omega) (by omega)).mono ?_)
      rintro x w5 ⟨hB5, hres⟩
      have K : ∃ s7 s8, x = .returned (.tuple #[s7, s8]) ∧ OpenRel w d l f v3 s7 s8 w5 := by
        have hR' : Run f 0 0 (zsOf (Fs ++ [s])) := by
          rw [zsOf_snoc, hsz]
          exact hRun.snoc hp (by rw [zsOf_len, Nat.zero_add, Nat.zero_add]; exact hW)
        have hL5 : LogIs w5 l d (Fs ++ [s]).length (used (zsOf (Fs ++ [s]))) := by
          rw [List.length_append, zsOf_snoc, used_one, hsz]
          exact VBlk.below hL4 hB5 hl4
        have Rec5 := Rec4.below hB5
        have hB5' := hB4.trans (hB5.mono hs4)
        have hu : used (zsOf (Fs ++ [s])) = used (zsOf Fs) + pcs b.length := by rw [zsOf_snoc, used_one, hsz]
        have hle : (Fs ++ [s]).length = Fs.length + 1 := by simp
        rcases hres with ⟨v, b2, rfl, h1, h2, h3, h4⟩ | ⟨rfl, h1⟩
        · exact ⟨_, _, rfl, Fs ++ [s], hR', hL5, Rec5, hB5', .inl ⟨b2, rfl, own_mono h1 (by omega), h2, by rw [hle, hu]; exact h3, h4⟩⟩
        · exact ⟨_, _, rfl, Fs ++ [s], hR', hL5, Rec5, hB5', .inr ⟨rfl, rfl, by rw [hle, hu]; exact h1⟩⟩
      obtain ⟨A3, c3, e3, _, _⟩ := Rec4.form
      have hm : lenOf v3 = Fs.length + 1 := by rw [e3]; simp [lenOf]
      clear hres Rec4 hL4 hB4 D4 T4 hB5 e3
      obtain ⟨s7', s8', rfl, K⟩ := K
      go_wp2_with fail
      go_roundw
      case rel => exact K
      case measure => go_light; rw [hm]; simp only [lenOf]; omega
    · have Dr := h.below hB
      have hO : Opened f (zsOf Fs) := ⟨hRun, by rw [zsOf_len]; exact hNo⟩
      go_wp2_with fail
      (with_reducible refine (wipe_runs wr B d N l Fs.length (used (zsOf Fs)) f lf Dr hN hL (fun e => by have := hlt l e; omega) (by omega)).mono ?_)
      rintro x w3 ⟨rfl, B', f', D3, M3, f1, f2, f3⟩
      have hnl : ¬ B' l := fun e => (M3.1 l e).elim (fun e => by have := hlt l e; omega) (fun e => by omega)
      have hL3 : LogIs w3 l d Fs.length (used (zsOf Fs)) := VBlk.only hL M3.2 (fun e => by have := hlt l e; omega)
      have Rec3 : Recs w3 w.heap.size (fun b => w.heap.size ≤ b ∧ b ≠ l ∧ ¬ B' b) u6 Fs := (hRec.mono (Q' := fun b => w.heap.size ≤ b ∧ b ≠ l ∧ ¬ B' b) fun b hb hQ => ⟨hQ.1, hQ.2, fun e => (M3.1 b e).elim (fun e => by have := hlt b e; omega) (fun e => by omega)⟩).only M3.2 (fun b _ hQ e => by have := hlt b e; omega)
      have M := (Moved.of_below (B := B) hB).trans M3
      have hLF := hO.wiped hF f1 f2 (fun y hy => by rw [f3 y hy]; exact hF y (.inr hy))
      go_wp2_with fail
      go_ret3
      exact ⟨l, u6, Fs, B', f', rfl, D3, M, hL3, by omega, hnl, Rec3, hO, hLF⟩
end Go.Proofs.YtccdifplpbnclaaDoor
