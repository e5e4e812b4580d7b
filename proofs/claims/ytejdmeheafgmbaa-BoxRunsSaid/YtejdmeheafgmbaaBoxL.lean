/- The law's own strings; fit. -/
import Derived.Test.YtejdmeheafgmbaaBoxT
import Derived.Test.YtejdmeheafgmbaaStrB
import Derived.Lib.SlBytesConst
namespace Go.Proofs.Ytejdmeheafgmbaa
open Go.RowKit Go.Conc

def allQ (_ : Nat) : Prop := True
abbrev oneW (w : World) (z : Int) : World := w.alloc (.cells #[.int .u8 z] 5 (1, 2))
abbrev oneS (w : World) (z : Int) : Sl := ⟨some ⟨w.heap.size, 0, none⟩, 1, 1, [z]⟩
theorem one_slIn {w : World} (z : Int) (hz : (Lit.int .u8 z).wf = true) : SlIn (oneW w z) (oneW w z).heap.size (oneS w z) :=
  const_slIn (w := w) 5 (1, 2) (zs := [z]) (c := 1) (by simpa using hz) (Nat.le_refl 1) (by unfold maxLen; omega)
theorem conv_one (w : World) (z : Int) : (convert 27 27 (.slice (some ⟨w.heap.size, 0, none⟩) 1 1)).run Try.prog (w.alloc (.cells #[.int .u8 z] 5)) = .ok (.slice (some ⟨w.heap.size, 0, none⟩) 1 1) (oneW w z) :=
  Lib.run_convert_bytes_const (P := Try.prog) w 27 5 #[.int .u8 z] 1 1 Try.underlying27 Try.underlying5
theorem below_all {w0 w w' : World} (h : Below w0.heap.size w0 w) {c : Nat} (hc : w0.heap.size ≤ c) (k : Only (· = c) w w') : Below w0.heap.size w0 w' := below_only h k (fun i e => by rw [e]; exact hc) h.size
/-- A constant is put. -/
theorem put_one {w : World} {p c N : Nat} {Fs : List Sl} (h : BoxAt w allQ p c N Fs) (z : Int) (hz : (Lit.int .u8 z).wf = true) (hl : Fs.length < N) :
    Calls Try.prog 12 #[.pointer (some ⟨p, 0, none⟩), .slice (some ⟨w.heap.size, 0, none⟩) 1 1] (oneW w z) fun e w' => e = .returned (.bool true) ∧ (∃ t : Sl, t.zs = [z] ∧ BoxAt w' allQ p c N (Fs ++ [t])) ∧ Only (· = c) w w' := by
  have hb : Below w.heap.size w (oneW w z) := (Below.refl _ _).alloc (Nat.le_refl _) _
  refine (Put_runs (oneW w z) allQ p c N _ Fs (oneS w z) (h.below hb) (one_slIn z hz) (Nat.le_refl _) (Nat.le_trans (Nat.le_refl 1) (by omega)) (fun _ _ => trivial)).mono ?_
  intro e w' hx
  unfold PutIs at hx
  rw [if_pos hl] at hx
  obtain ⟨rfl, ⟨t, t1, _, t3⟩, k⟩ := hx
  exact ⟨rfl, ⟨t, t1, t3⟩, (only_of_below hb _).trans_ k⟩
theorem len_one {w : World} {Q : Nat → Prop} {s : Sl} {z : Int} (h : SlOk w Q s) (hz : s.zs = [z]) : s.n = 1 := by have := h.in_.len; rw [hz] at this; exact this.symm
theorem str_one (z : Int) (b : UInt8) (h : UInt8.ofNat z.toNat = b) : (strOfNums [z]).toList = [b] := by
  rw [Lib.strOfNums_toList, ← h]
  rfl
set_option maxRecDepth 100000 in
set_option maxHeartbeats 4000000 in
theorem fit_runs (w : World) : Calls Try.prog 6 #[] w fun e w' => e = .returned (.bool true) ∧ Below w.heap.size w w' := by
  go_enter Try.func6, Try.ntmps6
  go_wp2_with fail
  (with_reducible refine (New_runs w allQ 3).mono ?_)
  rintro x w1 ⟨p, c, rfl, hp, hc, b1, B1⟩
  have hN : capOf 3 = 3 := rfl
  rw [hN] at b1
  have hv := conv_one w1 97
  have P2 := hide (put_one b1 97 rfl (by simp))
  go_wp2_with fail
  (with_reducible refine P2.out.mono ?_)
  clear hv P2
  rintro x w2 ⟨rfl, ⟨t1, e1, b2⟩, k2⟩
  have B2 := below_all B1 hc k2
  have hv := conv_one w2 98
  have P3 := hide (put_one b2 98 rfl (by simp))
  clear b1 k2 B1
  go_wp2_with fail
  (with_reducible refine P3.out.mono ?_)
  clear hv P3
  rintro x w3 ⟨rfl, ⟨t2, e2, b3⟩, k3⟩
  have B3 := below_all B2 hc k3
  have n1 := len_one (b3.each t1 (by simp)) e1
  have T4 := hide (Twice_some w3 allQ p c 3 t1 [t2] b3 (by decide) (by omega) (fun _ _ => trivial))
  clear b2 k3 B2
  go_wp2_with fail
  (with_reducible refine T4.out.mono ?_)
  clear T4
  rintro x w4 hx
  unfold TwiceIs at hx
  rw [if_pos (by simp), e1] at hx
  obtain ⟨rfl, ⟨t3, e3, _, b4⟩, k4⟩ := hx
  have B4 := below_all B3 hc k4
  have T5 := hide (Take_some w4 allQ p c 3 t1 [t2, t3] b4)
  clear b3 k4 B3
  go_wp2_with fail
  (with_reducible refine T5.out.mono ?_)
  clear T5
  rintro x w5 ⟨rfl, b5, k5, s1⟩
  have B5 := below_all B4 hc k5
  have T6 := hide (Take_some w5 allQ p c 3 t2 [t3] b5)
  clear b4 k5 B4
  go_wp2_with fail
  (with_reducible refine T6.out.mono ?_)
  clear T6
  rintro x w6 ⟨rfl, b6, k6, s2⟩
  have s1 := s1.chan b5.chan k6
  have B6 := below_all B5 hc k6
  have T7 := hide (Take_some w6 allQ p c 3 t3 [] b6)
  clear b5 k6 B5
  go_wp2_with fail
  (with_reducible refine T7.out.mono ?_)
  clear T7
  rintro x w7 ⟨rfl, b7, k7, s3⟩
  have s1 := s1.chan b6.chan k7
  have s2 := s2.chan b6.chan k7
  have B7 := below_all B6 hc k7
  have r1 := reads_string s1.in_.reads t1.c
  have r2 := reads_string s2.in_.reads t2.c
  have r3 := reads_string s3.in_.reads t3.c
  rw [e1, n1] at r1
  rw [e2] at r2
  rw [e3] at r3
  have x1 := str_one 97 97 rfl
  have x2 := str_one 98 98 rfl
  generalize strOfNums [97] = y1 at *
  generalize strOfNums [98] = y2 at *
  have L8 := Len_runs w7 allQ p c 3 [] b7
  clear b6 k7 B6 s1 s2 s3
  go_wp2_with fail
  (with_reducible refine L8.mono ?_)
  rintro x w8 ⟨rfl, rfl⟩
  clear L8
  go_wp2_with fail
  go_ret
  exact ⟨rfl, B7⟩
end Go.Proofs.Ytejdmeheafgmbaa
