/- The walk of BoxRuns. -/
import Derived.Test.YtejdmeheafgmbaaCall08
import Derived.BigQuiet
namespace Go.Proofs.Ytejdmeheafgmbaa.boxRuns
open Go.RowKit Go.Conc

attribute [local go_sem ↓] appTF_fold loadQ_fold storeQ_fold allocQ_fold
attribute [local go_sem] appTF_has loadQ_has storeQ_has allocQ_run
theorem Below.drewN {B : Nat} {a w : World} (h : Below B a w) (k : Nat) : Below B a (w.drewN k) := ⟨h.os, h.tape, h.output, h.size, h.block⟩
/-- What is held ahead of each call: the law's own strings are those that wait. -/
def Rel (w : World) (p c N : Nat) (v : Value) (wr : World) : Prop :=
  ∃ (Fs : List Sl) (A : Option Addr) (L m : Nat), Fs.length = L ∧ v = .slice A L m ∧ L ≤ m ∧ m ≤ maxLen ∧ StrL wr A L (zsOf Fs) ∧ BoxAt wr allQ p c N Fs ∧ Below w.heap.size w wr ∧ ∀ z ∈ zsOf Fs, z.length ≤ 100
theorem rel_of {w wr w2 : World} {p c N : Nat} {v : Value} {Fs Gs : List Sl} (hB : Below w.heap.size w wr) (hb : BoxAt wr allQ p c N Fs) (ho : StrO w2 wr.heap.size v (zsOf Gs)) (k : Below wr.heap.size wr w2) (e : zsOf Gs = zsOf Fs) (h100 : ∀ z ∈ zsOf Fs, z.length ≤ 100) : Rel w p c N v w2 := by
  rw [e] at ho
  obtain ⟨A, m, rfl, h1, h2, h3⟩ := ho.read
  rw [zsOf_len] at h1 h3
  rw [zsOf_len]
  exact ⟨Fs, A, _, m, rfl, rfl, h1, h2, h3, hb.below k, hB.trans (k.mono hB.size), h100⟩
theorem Rel.drewN {w wr : World} {p c N : Nat} {v : Value} (h : Rel w p c N v wr) (k : Nat) : Rel w p c N v (wr.drewN k) := by
  obtain ⟨Fs, A, L, m, h1, h2, h3, h4, h5, h6, h7, h8⟩ := h
  exact ⟨Fs, A, L, m, h1, h2, h3, h4, h5, h6.drewN k, Below.drewN h7 k, h8⟩
set_option maxRecDepth 100000 in
set_option maxHeartbeats 8000000 in
theorem walk (w : World) (z : Int) (_ : -9223372036854775808 ≤ z) (_ : z ≤ 9223372036854775807) (A : Option Addr) (n c : Nat) (F : Nat → List Value) (hS : Sts w w.heap.size kindsQ A n F) (hnc : n ≤ c) (hcm : c ≤ maxLen) :
    Calls Try.prog 3 #[.int .i64 z, .slice A n c] w fun e w' => e = .returned (.bool true) ∧ Below w.heap.size w w' := by
  have hn63 : n ≤ 9223372036854775807 := Nat.le_trans hnc hcm
  go_enter Try.func3, Try.ntmps3
  go_wp2_with fail
  (with_reducible refine (fit_runs w).mono ?_)
  rintro x w1 ⟨rfl, B1⟩
  by_cases h200 : 200 < n
  · have d200 : (200 : Int) < (n : Int) := by omega
    go_wp2_with fail
    go_ret
    exact ⟨rfl, B1⟩
  · have d200 : ¬ (200 : Int) < (n : Int) := by omega
    go_wp2_with fail
    (with_reducible refine (New_runs w1 allQ z).mono ?_)
    rintro x w2 ⟨p, c', rfl, hp, hc, b2, B2⟩
    have B2 := B1.trans (B2.mono B1.size)
    have hp : w.heap.size ≤ p := Nat.le_trans B1.size hp
    have hc : w.heap.size ≤ c' := Nat.le_trans B1.size hc
    have hN := capOf_bd z
    have hn : (if 64 < (if z < 1 then 1 else z) then 64 else (if z < 1 then 1 else z)) = (capOf z : Int) := by unfold capOf; split <;> split <;> omega
    obtain ⟨z1, hz1⟩ : ∃ z1, (if z < 1 then 1 else z) = z1 := ⟨_, rfl⟩
    rw [hz1] at hn
    generalize hNe : capOf z = N at *
    clear B1
    go_wp2_with fail
    go_loopw [7, 26] (fun s7 s26 wr => ∃ j : Nat, j ≤ n ∧ s26 = .int .i64 j ∧ Rel w p c' N s7 wr) (fun _ s26 _ => n - (intOf s26).toNat)
    case atStart => exact ⟨0, Nat.zero_le _, rfl, [], none, 0, 0, rfl, rfl, Nat.le_refl _, Nat.zero_le _, Reads.none_, b2, B2, by simp [zsOf]⟩
    case round =>
      obtain ⟨j, hj, rfl, Fs, A7, L, m7, hL, rfl, h71, h72, hR, hb, hB, h100⟩ := hrel
      have hl63 : L ≤ 9223372036854775807 := Nat.le_trans h71 h72
      have hle := hb.le
      by_cases hlt : j < n
      · have dl : (j : Int) < (n : Int) := by omega
        obtain ⟨b, off, rfl, hbb, hrow, hhas⟩ := (hS.keep hB).got hlt
        have hlen := hS.len j hlt
        have hev := (hS.keep hB).each j hlt
        generalize F j = cs at *
        match cs, hlen with
        | [v0, v1], _ =>
        obtain ⟨k, rfl, hk⟩ := hev 0 .i v0 rfl rfl
        obtain ⟨s, rfl, hs⟩ := hev 1 .s v1 rfl rfl
        have hrow : rowAt wr b (off + j * 2) 2 = [Value.int .i64 k, .slice s.A s.n s.c].toArray := hrow
        have hhas : HasRow wr b (off + j * 2) 2 := hhas
        have hBs := hB.size
        have hkb : -6 < k.tmod 6 ∧ k.tmod 6 < 6 := ⟨by have := Int.tmod_lt_of_pos (-k) (b := 6) (by decide); rw [Int.neg_tmod] at this; omega, Int.tmod_lt_of_pos _ (by decide)⟩
        obtain ⟨hk1, hk2⟩ := hkb
        have hi2 : Is 2 [Value.int .i64 k, .slice s.A s.n s.c] := ⟨rfl, fun v hv => by simp at hv; rcases hv with rfl | rfl <;> rfl⟩
        have ha := VBlk.new wr 29 zeroQ
        have hrm := ha.room 0 2 (by decide)
        have hf := ha.fill (us := [Value.int .i64 k, .slice s.A s.n s.c]) rfl
        have hB0 : Below wr.heap.size wr (wr.alloc (.cells zeroQ.toArray 29)) := (Below.refl _ _).alloc (Nat.le_refl _) _
        have hBf : Below wr.heap.size wr ((wr.alloc (.cells zeroQ.toArray 29)).setCells wr.heap.size 0 [Value.int .i64 k, .slice s.A s.n s.c]) := below_only hB0 (only_cells _ _ _ _) (fun i (e : i = wr.heap.size) => by omega) hB0.size
        have hR4 := hR.below hBf
        have hb4 := hb.below hBf
        have hB4 := hB.trans (hBf.mono hBs)
        have hs4 := hs.keep (hBf.mono hBs)
        go_upto_region 11 with fail
        clear hBf hB0 hrm ha hR hb hB hs hrow hhas hev
        generalize hg : wr.heap.size = g at *
        generalize (wr.alloc (.cells zeroQ.toArray 29)).setCells g 0 [Value.int .i64 k, .slice s.A s.n s.c] = w4 at *
        have c0 := hf.cellAt (i := 0) rfl
        have c1 := hf.cellAt (i := 1) rfl
        by_cases g2 : 100 < s.n
        · have d2 : decide ((100 : Int) < (s.n : Int)) = true := decide_eq_true (by omega)
          go_wp2_with fail
          go_ret
          exact ⟨rfl, hB4⟩
        have d2 : decide ((100 : Int) < (s.n : Int)) = false := decide_eq_false (by omega)
        go_upto_region 13 with fail
        go_upto_block 2 with fail
        obtain ⟨kk, hkk, hk3, hk4⟩ : ∃ kk : Int, (k.tmod 6 + 6) % 6 = kk ∧ 0 ≤ kk ∧ kk < 6 := ⟨_, rfl, Int.emod_nonneg _ (by decide), Int.emod_lt_of_pos _ (by decide)⟩
        rw [hkk]
        clear hkk
        generalize k.tmod 6 = kt at *
        generalize kt + 6 = kt6 at *
        clear hk1 hk2 c0 d2
        go_cut [7] (fun s7 wx => Rel w p c' N s7 wx)
        case first =>
          by_cases q2 : kk = 2
          · subst q2
            cases Fs with
            | nil =>
              have hL : 0 = L := hL
              subst hL
              have hT := hide (Take_none w4 allQ p c' N hb4)
              go_wp2_with fail
              (with_reducible refine hT.out.mono ?_)
              rintro x w5 ⟨rfl, rfl⟩
              clear hT
              go_upto_region 21 with fail
              go_quiet (fail)
              go_wp2_with fail
              go_meet
              exact Rel.drewN ⟨[], A7, 0, m7, rfl, rfl, h71, h72, hR4, hb4, hB4, h100⟩ _
            | cons t Fs =>
              have hT := hide (Take_some w4 allQ p c' N t Fs hb4)
              go_wp2_with fail
              (with_reducible refine hT.out.mono ?_)
              rintro x w5 ⟨rfl, b5, k5, s5⟩
              clear hT
              have hL0 : 0 < L := by rw [← hL]; exact Nat.succ_pos _
              have hR5 : StrL w5 A7 L (zsOf (t :: Fs)) := (Reads.chan hR4 hb4.chan (Nat.le_refl _) k5).more k5.size
              have B5 := below_all hB4 hc k5
              obtain ⟨b7, off7, rfl, hb7, hc7⟩ := hR5.at_ (by omega)
              have e7 : w5.cell? ⟨b7, off7, none⟩ = some (.string (strOfNums t.zs)) := hc7 0 (by simp [zsOf])
              have r5 := fun k => reads_string (s5.in_.reads.drewN k) t.c
              clear hc7
              generalize hy : strOfNums t.zs = y at *
              have d7 : decide ((0 : Int) < (L : Int)) = true := decide_eq_true (by omega)
              have hcut := Reads.cut (k := 1) (cap := m7) hR5 (by omega) h71
              have hlF : Fs.length = L - 1 := by rw [← hL]; rfl
              have HC := hide hcut
              have HF := hide hlF
              clear hcut hlF hR4 hb4 hR5 hL
              go_upto_region 21 with fail
              go_quiet (fail)
              go_wp2_with fail
              case inl h =>
                have hc' := HC.out
                rw [if_pos h] at hc'
                go_meet
                exact Rel.drewN ⟨Fs, _, L - 1, 0, HF.out, rfl, by omega, by omega, hc', b5, B5, fun z hz => h100 z (List.mem_cons_of_mem _ hz)⟩ _
              case inr h =>
                have hc' := HC.out
                rw [if_neg h] at hc'
                go_meet
                exact Rel.drewN ⟨Fs, _, L - 1, m7 - 1, HF.out, rfl, by omega, by omega, hc', b5, B5, fun z hz => h100 z (List.mem_cons_of_mem _ hz)⟩ _
          · by_cases q3 : kk = 3
            · subst q3
              cases Fs with
              | nil =>
                have hL : 0 = L := hL
                subst hL
                have hT := hide (Turn_none w4 allQ p c' N hb4)
                go_wp2_with fail
                (with_reducible refine hT.out.mono ?_)
                rintro x w5 ⟨rfl, rfl⟩
                clear hT
                go_wp2_with fail
                go_meet
                exact ⟨[], A7, 0, m7, rfl, rfl, h71, h72, hR4, hb4, hB4, h100⟩
              | cons t Fs =>
                have hT := hide (Turn_some w4 allQ p c' N t Fs hb4)
                go_wp2_with fail
                (with_reducible refine hT.out.mono ?_)
                rintro x w5 ⟨rfl, b5, k5⟩
                clear hT
                have hL0 : 0 < L := by rw [← hL]; exact Nat.succ_pos _
                have d7 : decide ((0 : Int) < (L : Int)) = true := decide_eq_true (by omega)
                have hR5 : StrL w5 A7 L (zsOf (t :: Fs)) := (Reads.chan hR4 hb4.chan (Nat.le_refl _) k5).more k5.size
                have B5 := below_all hB4 hc k5
                obtain ⟨b7, off7, rfl, hb7, hc7⟩ := hR5.at_ (by omega)
                have e7 : w5.cell? ⟨b7, off7, none⟩ = some (.string (strOfNums t.zs)) := hc7 0 (by simp [zsOf])
                have hcut := Reads.cut (k := 1) (cap := m7) hR5 (by omega) h71
                have hL40 : L ≤ 64 := by rw [← hL]; exact Nat.le_trans hle hN.2
                have e1 : ((zsOf (t :: Fs)).map stV).drop (1 * 1) = (zsOf Fs).map stV := rfl
                rw [e1] at hcut
                clear hc7 hR4 hb4 k5
                by_cases h1 : m7 = 1
                · rw [if_pos h1] at hcut
                  obtain ⟨v1, w1, v2, w2, v3, w3, v4, w4, ⟨a1, a2⟩, ⟨a3, a4⟩, ⟨a5, a6⟩, ⟨a7, a8⟩, ⟨g1, g3⟩, HX⟩ := appT_two (c := 0) hcut (Nat.le_refl _) (by omega) t.zs
                  have e8 := (g1.cell (p := ⟨b7, off7, none⟩) hb7).trans e7
                  have ez := zsOf_snoc Fs t
                  have H100 : ∀ z ∈ zsOf (Fs ++ [t]), z.length ≤ 100 := fun z hz => by
                    rw [ez] at hz
                    exact h100 z (by rcases List.mem_append.1 hz with h | h; exact List.mem_cons_of_mem _ h; rw [List.mem_singleton.1 h]; exact List.mem_cons_self)
                  have HA := hide (rel_of (w := w) (wr := w5) (Gs := Fs ++ [t]) B5 b5 (by rw [ez]; exact HX.out.1.1) HX.out.1.2 rfl H100)
                  have HB := hide (rel_of (w := w) (wr := w5) (Gs := Fs ++ [t]) B5 b5 (by rw [ez]; exact HX.out.2.1) HX.out.2.2 rfl H100)
                  clear HX g1 g3 hcut hR5 e1 ez b5 B5 H100
                  go_upto_region 29 with fail
                  go_region
                  all_goals
                    go_wp2_with fail
                    go_meet
                    first | exact HA.out | exact HB.out
                · rw [if_neg h1] at hcut
                  have hcut : Reads w5 w5.heap.size 1 (some ⟨b7, off7 + 1, none⟩) (L - 1) ((zsOf Fs).map stV) := hcut
                  obtain ⟨v1, w1, v2, w2, v3, w3, v4, w4, ⟨a1, a2⟩, ⟨a3, a4⟩, ⟨a5, a6⟩, ⟨a7, a8⟩, ⟨g1, g3⟩, HX⟩ := appT_two (c := m7 - 1) hcut (Nat.le_refl _) (by omega) t.zs
                  have e8 := (g1.cell (p := ⟨b7, off7, none⟩) hb7).trans e7
                  have ez := zsOf_snoc Fs t
                  have H100 : ∀ z ∈ zsOf (Fs ++ [t]), z.length ≤ 100 := fun z hz => by
                    rw [ez] at hz
                    exact h100 z (by rcases List.mem_append.1 hz with h | h; exact List.mem_cons_of_mem _ h; rw [List.mem_singleton.1 h]; exact List.mem_cons_self)
                  have HA := hide (rel_of (w := w) (wr := w5) (Gs := Fs ++ [t]) B5 b5 (by rw [ez]; exact HX.out.1.1) HX.out.1.2 rfl H100)
                  have HB := hide (rel_of (w := w) (wr := w5) (Gs := Fs ++ [t]) B5 b5 (by rw [ez]; exact HX.out.2.1) HX.out.2.2 rfl H100)
                  clear HX g1 g3 hcut hR5 e1 ez b5 B5 H100
                  go_upto_region 29 with fail
                  go_region
                  all_goals
                    go_wp2_with fail
                    go_meet
                    first | exact HA.out | exact HB.out
            · by_cases q4 : kk = 4
              · subst q4
                cases Fs with
                | nil =>
                  have hL : 0 = L := hL
                  subst hL
                  have hT := hide (Twice_none w4 allQ p c' N hb4)
                  go_upto_region 32 with fail
                  go_wp2_with fail
                  (with_reducible refine hT.out.mono ?_)
                  rintro x w5 ⟨rfl, rfl⟩
                  clear hT
                  go_wp2_with fail
                  go_meet
                  exact ⟨[], A7, 0, m7, rfl, rfl, h71, h72, hR4, hb4, hB4, h100⟩
                | cons t Fs =>
                  have hL0 : 0 < L := by rw [← hL]; exact Nat.succ_pos _
                  have d7 : decide ((0 : Int) < (L : Int)) = true := decide_eq_true (by omega)
                  have tn : t.n ≤ 90000 := by
                    have h1 := (hb4.each t (by simp)).in_.len
                    have h2 := h100 t.zs (by simp [zsOf])
                    omega
                  have hT := hide (Twice_some w4 allQ p c' N t Fs hb4 (by omega) tn (fun _ _ => trivial))
                  by_cases hr : L < N
                  · have dr : decide ((L : Int) < (N : Int)) = true := decide_eq_true (by omega)
                    go_upto_region 32 with fail
                    go_wp2_with fail
                    (with_reducible refine hT.out.mono ?_)
                    rintro x w5 hx
                    unfold TwiceIs at hx
                    rw [if_pos (by rw [hL]; exact hr)] at hx
                    obtain ⟨rfl, ⟨t2, t2e, _, b5⟩, k5⟩ := hx
                    clear hT dr
                    have hR5 : StrL w5 A7 L (zsOf (t :: Fs)) := (Reads.chan hR4 hb4.chan (Nat.le_refl _) k5).more k5.size
                    have B5 := below_all hB4 hc k5
                    obtain ⟨b7, off7, rfl, hb7, hc7⟩ := hR5.at_ (by omega)
                    have e7 : w5.cell? ⟨b7, off7, none⟩ = some (.string (strOfNums t.zs)) := hc7 0 (by simp [zsOf])
                    obtain ⟨v1, w1, v2, w2, v3, w3, v4, w4', ⟨a1, a2⟩, ⟨a3, a4⟩, ⟨a5, a6⟩, ⟨a7, a8⟩, ⟨g1, g3⟩, HX⟩ := appT_two (c := m7) hR5 (Nat.le_refl _) (by omega) t.zs
                    have e8 := (g1.cell (p := ⟨b7, off7, none⟩) hb7).trans e7
                    have ez : zsOf (t :: Fs ++ [t2]) = zsOf (t :: Fs) ++ [t.zs] := by rw [zsOf_snoc, t2e]
                    have H100 : ∀ z ∈ zsOf (t :: Fs ++ [t2]), z.length ≤ 100 := fun z hz => by
                      rw [ez] at hz
                      exact h100 z (by rcases List.mem_append.1 hz with h | h; exact h; rw [List.mem_singleton.1 h]; exact List.mem_cons_self)
                    have HA := hide (rel_of (w := w) (wr := w5) (Gs := t :: Fs ++ [t2]) B5 b5 (by rw [ez]; exact HX.out.1.1) HX.out.1.2 rfl H100)
                    have HB := hide (rel_of (w := w) (wr := w5) (Gs := t :: Fs ++ [t2]) B5 b5 (by rw [ez]; exact HX.out.2.1) HX.out.2.2 rfl H100)
                    clear HX g1 g3 hR5 ez b5 B5 H100 hc7 hR4 hb4 k5
                    go_upto_region 35 with fail
                    go_region
                    all_goals
                      go_wp2_with fail
                      go_meet
                      first | exact HA.out | exact HB.out
                  · have dr : decide ((L : Int) < (N : Int)) = false := decide_eq_false (by omega)
                    go_upto_region 32 with fail
                    go_wp2_with fail
                    (with_reducible refine hT.out.mono ?_)
                    rintro x w5 hx
                    unfold TwiceIs at hx
                    rw [if_neg (by rw [hL]; exact hr)] at hx
                    obtain ⟨rfl, b5, k5⟩ := hx
                    clear hT dr
                    have hR5 : StrL w5 A7 L (zsOf (t :: Fs)) := (Reads.chan hR4 hb4.chan (Nat.le_refl _) k5).more k5.size
                    have B5 := below_all hB4 hc k5
                    go_wp2_with fail
                    go_meet
                    exact ⟨t :: Fs, A7, L, m7, hL, rfl, h71, h72, hR5, b5, B5, h100⟩
              · by_cases q5 : kk = 5
                · subst q5
                  have hT := hide (Clear_runs w4 allQ p c' N Fs hb4 (by omega))
                  go_wp2_with fail
                  (with_reducible refine hT.out.mono ?_)
                  rintro x w5 ⟨⟨v, rfl⟩, b5, k5⟩
                  have B5 := below_all hB4 hc k5
                  clear hT
                  go_wp2_with fail
                  go_meet
                  exact ⟨[], none, 0, 0, rfl, rfl, Nat.le_refl _, Nat.zero_le _, Reads.none_, b5, B5, by simp [zsOf]⟩
                · have n2 : (kk == 2) = false := by simp; omega
                  have n3 : (kk == 3) = false := by simp; omega
                  have n4 : (kk == 4) = false := by simp; omega
                  have n5 : (kk == 5) = false := by simp; omega
                  clear q2 q3 q4 q5
                  by_cases hr : L < N
                  · have dr : decide ((L : Int) < (N : Int)) = true := decide_eq_true (by omega)
                    have hP := hide (Put_runs w4 allQ p c' N w.heap.size Fs s hb4 hs4 hB4.size (by omega) (fun _ _ => trivial))
                    go_upto_region 15 with fail
                    go_wp2_with fail
                    (with_reducible refine hP.out.mono ?_)
                    clear hP
                    rintro x w5 hx
                    unfold PutIs at hx
                    rw [if_pos (by rw [hL]; exact hr)] at hx
                    obtain ⟨rfl, ⟨t2, t2e, _, b5⟩, k5⟩ := hx
                    have hR5 : StrL w5 A7 L (zsOf Fs) := (Reads.chan hR4 hb4.chan (Nat.le_refl _) k5).more k5.size
                    have B5 := below_all hB4 hc k5
                    have hf5 := hf.only k5 (hb4.chan.ne hf)
                    have c5 := hf5.cellAt (i := 1) rfl
                    have hs5 : Reads w5 w.heap.size 1 s.A s.n (u8V s.zs) := hs4.reads.chan hb4.chan hB4.size k5
                    have r5 := reads_string hs5.drew s.c
                    obtain ⟨v1, w1, v2, w2, v3, w3, v4, w4', ⟨a1, a2⟩, ⟨a3, a4⟩, ⟨a5, a6⟩, ⟨a7, a8⟩, ⟨g1, g3⟩, HX⟩ := appT_two (c := m7) hR5 (Nat.le_refl _) (by omega) s.zs
                    have c8 := (g1.cell (p := ⟨g, 1, none⟩) hf5.lt).trans c5
                    have r8 := reads_string (hs5.below (g1.mono B5.size)) s.c
                    have ez : zsOf (Fs ++ [t2]) = zsOf Fs ++ [s.zs] := by rw [zsOf_snoc, t2e]
                    have sl := hs4.len
                    have H100 : ∀ z ∈ zsOf (Fs ++ [t2]), z.length ≤ 100 := fun z hz => by
                      rw [ez] at hz
                      rcases List.mem_append.1 hz with h | h
                      · exact h100 z h
                      · rw [List.mem_singleton.1 h]; omega
                    have HA := hide (rel_of (w := w) (wr := w5) (Gs := Fs ++ [t2]) B5 b5 (by rw [ez]; exact HX.out.1.1) HX.out.1.2 rfl H100)
                    have HB := hide (rel_of (w := w) (wr := w5) (Gs := Fs ++ [t2]) B5 b5 (by rw [ez]; exact HX.out.2.1) HX.out.2.2 rfl H100)
                    clear HX g1 g3 hR5 ez b5 B5 H100 hR4 hb4 k5 hf hs4 hs5 hf5 c1 sl
                    go_upto_region 18 with fail
                    go_region
                    all_goals
                      go_wp2_with fail
                      go_meet
                      first | exact HA.out | exact HB.out
                  · have dr : decide ((L : Int) < (N : Int)) = false := decide_eq_false (by omega)
                    have hP := hide (Put_runs w4 allQ p c' N w.heap.size Fs s hb4 hs4 hB4.size (by omega) (fun _ _ => trivial))
                    go_upto_region 15 with fail
                    go_wp2_with fail
                    (with_reducible refine hP.out.mono ?_)
                    clear hP
                    rintro x w5 hx
                    unfold PutIs at hx
                    rw [if_neg (by rw [hL]; exact hr)] at hx
                    obtain ⟨rfl, b5, k5⟩ := hx
                    have hb5 : Below w4.heap.size w4 w5 := k5.toBelow fun _ e => e.elim
                    have hR5 := hR4.below hb5
                    have B5 := hB4.trans (hb5.mono hB4.size)
                    go_wp2_with fail
                    go_meet
                    exact ⟨Fs, A7, L, m7, hL, rfl, h71, h72, hR5, b5, B5, h100⟩
        case rest =>
          obtain ⟨Gs, A8, K, m8, hK, rfl, h81, h82, hR8, b8, B8, h108⟩ := hcut
          have hLn := Len_runs _ allQ p c' N Gs b8
          rw [hK] at hLn
          have HR : Hid (Rel w p c' N (.slice A8 K m8) wc) := hide ⟨Gs, A8, K, m8, hK, rfl, h81, h82, hR8, b8, B8, h108⟩
          clear hR8 b8 B8 h108 hK
          go_wp2_with fail
          (with_reducible refine hLn.mono ?_)
          rintro x w5 ⟨rfl, rfl⟩
          clear hLn
          go_wp2_with fail
          go_roundw
          case rel => go_light; exact ⟨j + 1, by omega, by go_num, HR.out⟩
          case measure => go_light; simp [intOf]; omega
      · obtain rfl : j = n := by omega
        go_wp2_with fail
        go_ret
        exact ⟨rfl, hB⟩
end Go.Proofs.Ytejdmeheafgmbaa.boxRuns
