/- The law's own same, few. -/
import Derived.Test.YtccdifplpbnclaaDoorWalU
import Derived.Test.YtccdifplpbnclaaDoorStrB
namespace Go.Proofs.YtccdifplpbnclaaDoor
open Go.RowKit Go.Maps

/-- Slices that are read from here, one behind the other. -/
structure SlL (w : World) (A : Option Addr) (Fs : List Sl) : Prop where
  at_ : 0 < Fs.length → ∃ b off, A = some ⟨b, off, none⟩ ∧ b < w.heap.size ∧ ∀ i (h : i < Fs.length), w.cell? ⟨b, off + i, none⟩ = some (.slice Fs[i].A Fs[i].n Fs[i].c)
  each : ∀ s ∈ Fs, SlIn w w.heap.size s
theorem SlL.below {w w' : World} {A : Option Addr} {Fs : List Sl} (h : SlL w A Fs) (k : Below w.heap.size w w') : SlL w' A Fs :=
  ⟨fun h0 => by
    obtain ⟨b, off, e, hb, hc⟩ := h.at_ h0
    exact ⟨b, off, e, Nat.lt_of_lt_of_le hb k.size, fun i hi => (k.cell (p := ⟨b, off + i, none⟩) hb).trans (hc i hi)⟩, fun s hs => by
    have := (h.each s hs).keep k
    exact ⟨this.reads.more k.size, this.n_le, this.c_le, this.wf⟩⟩
theorem Recs.read {w : World} {base : Nat} {Q : Nat → Prop} {v : Value} {Fs : List Sl} (h : Recs w base Q v Fs) : ∃ A c, v = .slice A Fs.length c ∧ Fs.length ≤ c ∧ c ≤ maxLen ∧ SlL w A Fs := by
  obtain ⟨A, c, rfl, h1, h2⟩ := h.form
  refine ⟨A, c, rfl, h1, h2, fun h0 => ?_, fun s hs => (h.each s hs).in_⟩
  obtain ⟨b, off, e, hb, hc⟩ := (Reads.of_own h.own).plain h0
  exact ⟨b, off, e, hb, fun i hi => hc i _ (by simp [hi])⟩
theorem Sls.read {w : World} {B n : Nat} {A : Option Addr} {F : Nat → Sl} (h : Sls w B A n F) (hB : B ≤ w.heap.size) {k : Nat} (hk : k ≤ n) : SlL w A ((List.range k).map F) := by
  refine ⟨fun h0 => ?_, fun s hs => ?_⟩
  · have h0 : 0 < k := by simpa using h0
    obtain ⟨b, off, e, hb, hc⟩ := h.at_ (by omega)
    exact ⟨b, off, e, by omega, fun i hi => by
      have hi' : i < k := by simpa using hi
      rw [List.getElem_map, List.getElem_range]
      exact hc i (by omega)⟩
  · obtain ⟨i, hi, rfl⟩ := List.mem_map.1 hs
    have := h.each i (by have : i < k := by simpa using hi
                         omega)
    exact ⟨this.reads.more hB, this.n_le, this.c_le, this.wf⟩
theorem SlIn.bd {w : World} {B : Nat} {s : Sl} (h : SlIn w B s) : bytes8 s.zs := fun z hz => by have := bounds_u8 (h.wf z hz); omega
set_option maxRecDepth 100000 in
set_option maxHeartbeats 8000000 in
theorem same_runs (w : World) (A A' : Option Addr) (Fs Gs : List Sl) (n m c c' : Nat) (hn : Fs.length = n) (hm : Gs.length = m) (hF : SlL w A Fs) (hG : SlL w A' Gs) (_ : n ≤ 9223372036854775807) (_ : m ≤ 9223372036854775807) :
    Calls Tryd.prog 17 #[.slice A n c, .slice A' m c'] w fun e w' => e = .returned (.bool (decide (zsOf Fs = zsOf Gs))) ∧ Below w.heap.size w w' := by
  go_enter Tryd.func17, Tryd.ntmps17
  by_cases hnm : n = m
  · subst hnm
    have d0 : ((n : Int) != (n : Int)) = false := by simp
    go_wp2_with fail
    go_loopw [5, 13] (fun _ s13 wr => ∃ j : Nat, j ≤ n ∧ s13 = .int .i64 j ∧ (zsOf Fs).take j = (zsOf Gs).take j ∧ Below w.heap.size w wr) (fun _ s13 _ => n - (intOf s13).toNat)
    case atStart => exact ⟨0, Nat.zero_le _, rfl, rfl, Below.refl _ _⟩
    case round =>
      obtain ⟨j, hj, rfl, hP, hB⟩ := hrel
      have hBd := hB.drew
      by_cases hlt : j < n
      · have dl : (j : Int) < (n : Int) := by omega
        have hFd := hF.below hBd
        have hGd := hG.below hBd
        obtain ⟨b1, o1, rfl, hb1, hc1⟩ := hFd.at_ (by omega)
        obtain ⟨b2, o2, rfl, hb2, hc2⟩ := hGd.at_ (by omega)
        have k1 := hc1 j (by omega)
        have k2 := hc2 j (by omega)
        have t1 := hFd.each Fs[j] (List.getElem_mem _)
        have t2 := hGd.each Gs[j] (List.getElem_mem _)
        have hl1 : j < (zsOf Fs).length := by rw [zsOf_len]; omega
        have hl2 : j < (zsOf Gs).length := by rw [zsOf_len]; omega
        have g1 : (zsOf Fs)[j] = Fs[j].zs := by simp [zsOf]
        have g2 : (zsOf Gs)[j] = Gs[j].zs := by simp [zsOf]
        have hst : (zsOf Fs).take (j + 1) = (zsOf Gs).take (j + 1) ↔ Fs[j].zs = Gs[j].zs := by
          rw [List.take_succ_eq_append_getElem (l := zsOf Fs) hl1, List.take_succ_eq_append_getElem (l := zsOf Gs) hl2, hP, g1, g2]
          exact ⟨fun h => by simpa using List.append_cancel_left h, fun h => by rw [h]⟩
        have hne : Fs[j].zs ≠ Gs[j].zs → decide (zsOf Fs = zsOf Gs) = false := fun h => by
          simp only [decide_eq_false_iff_not]
          intro e
          exact h (hst.1 (by rw [e]))
        have HST := hide hst
        have HNE := hide hne
        clear hst hne
        generalize Fs[j] = s at *
        generalize Gs[j] = t at *
        have r1 := reads_string (c := s.c) t1.reads
        have r2 := reads_string (c := t.c) t2.reads
        have he := strOf_eq t1.bd t2.bd
        clear hc1 hc2 hFd hGd g1 g2
        generalize strOfNums s.zs = x at *
        generalize strOfNums t.zs = y at *
        cases hd : eqB s.zs t.zs with
        | true =>
          have hK := HST.out.2 (of_decide_eq_true hd)
          rw [hd] at he
          clear HST HNE t1 t2 hd
          go_upto_region 6 with fail
          go_region
          all_goals
            go_wp2_with fail
            go_roundw
            case rel => go_light; exact ⟨j + 1, by omega, by go_num, hK, hBd⟩
            case measure => go_light; simp [intOf]; omega
        | false =>
          have hK := HNE.out (of_decide_eq_false hd)
          rw [hd] at he
          clear HST HNE t1 t2 hd
          go_upto_region 6 with fail
          go_region
          all_goals
            go_wp2_with fail
            go_ret
            rw [hK]
            exact ⟨rfl, hBd⟩
      · obtain rfl : j = n := by omega
        have hK : decide (zsOf Fs = zsOf Gs) = true := by
          rw [List.take_of_length_le (by rw [zsOf_len]; omega), List.take_of_length_le (by rw [zsOf_len]; omega)] at hP
          simp [hP]
        go_wp2_with fail
        go_ret
        rw [hK]
        exact ⟨rfl, hB⟩
  · have d0 : ((n : Int) != (m : Int)) = true := by simp; omega
    have hne : decide (zsOf Fs = zsOf Gs) = false := by
      simp only [decide_eq_false_iff_not]
      intro e
      have := congrArg List.length e
      rw [zsOf_len, zsOf_len] at this
      omega
    rw [hne]
    go_wp2_with fail
    go_ret
    exact ⟨rfl, Below.refl _ _⟩
end Go.Proofs.YtccdifplpbnclaaDoor
