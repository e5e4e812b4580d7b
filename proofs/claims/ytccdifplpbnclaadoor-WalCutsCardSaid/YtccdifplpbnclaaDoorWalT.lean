/- The law's own anchor answers yes. -/
import Derived.Test.YtccdifplpbnclaaDoorWalG
import Derived.Test.YtccdifplpbnclaaDoorLaid
namespace Go.Proofs.YtccdifplpbnclaaDoor
open Go.RowKit Go.Maps

def oneC : Array Value := #[.int .u8 97]
/-- A constant's bytes. -/
theorem const_slIn {w : World} (e : TypeId) (fr : Nat × Nat) {zs : List Int} {c : Nat} (hz : ∀ z ∈ zs, (Lit.int .u8 z).wf = true) (hc : zs.length ≤ c) (hm : c ≤ maxLen) :
    SlIn (w.alloc (.cells (u8V zs).toArray e fr)) (w.alloc (.cells (u8V zs).toArray e fr)).heap.size ⟨some ⟨w.heap.size, 0, none⟩, zs.length, c, zs⟩ := by
  refine ⟨⟨by rw [u8V_length]; simp, fun _ => ⟨_, rfl, by simp, fun j u hu => ?_⟩⟩, hc, hm, hz⟩
  rw [Go.WideShapes.add_plain, World.cell?_alloc_mark, Nat.zero_add]
  simpa using hu
theorem zsOf_nil {Fs : List Sl} (h : zsOf Fs = []) : Fs = [] := by simpa [zsOf] using h
theorem zsOf_single {Fs : List Sl} {b : List Int} (h : zsOf Fs = [b]) : ∃ s, Fs = [s] ∧ s.zs = b := by
  match Fs, h with
  | [s], h => exact ⟨s, rfl, by simpa [zsOf] using h⟩
  | [], h => simp [zsOf] at h
  | _ :: _ :: _, h => simp [zsOf] at h
set_option maxRecDepth 100000 in
set_option maxHeartbeats 8000000 in
theorem fit_runs (w : World) (hT : Laid w) : Calls Tryd.prog 9 #[] w fun e w' => e = .returned (.bool true) ∧ Below w.heap.size w w' := by
  go_enter Tryd.func9, Tryd.ntmps9
  go_wp2_with fail
  (with_reducible refine (disk_new (w0 := w) (L := fun _ => False) (Below.refl _ _) (fun _ e => e.elim)).mono ?_)
  rintro x w1 ⟨d, rfl, D1, _⟩
  go_wp2_with fail
  (with_reducible refine (D1.opens (by omega) hT).mono ?_)
  rintro x w2 ⟨l, v, Fs, L2, rfl, eF, G2, i1, i2, Rc, kp⟩
  obtain ⟨A2, c2, ev, _, _⟩ := Rc.form
  rw [zsOf_nil eF] at ev
  have ev : v = .slice A2 0 c2 := ev
  subst ev
  clear D1 Rc kp i1 i2 eF
  have hcv := Lib.run_convert_bytes_const (P := Tryd.prog) w2 33 5 oneC 1 1 Tryd.underlying33 Tryd.underlying5
  unfold oneC at hcv
  have B3 : Below w2.heap.size w2 (w2.alloc (.cells #[.int .u8 97] 5 (1, 2))) := (Below.refl _ _).alloc (Nat.le_refl _) _
  have hS3 : SlIn (w2.alloc (.cells #[.int .u8 97] 5 (1, 2))) (w2.alloc (.cells #[.int .u8 97] 5 (1, 2))).heap.size ⟨some ⟨w2.heap.size, 0, none⟩, 1, 1, [97]⟩ := const_slIn (w := w2) 5 (1, 2) (zs := [97]) (c := 1) (by decide) (by decide) (by decide)
  have hp := (G2.grow B3).puts (by omega) hT hS3
  go_wp2_with fail
  (with_reducible refine hp.mono ?_)
  rintro x w3 ⟨_, hc⟩
  have K : x = .returned (.int .i64 0) ∧ LogSt w L2 w3 d (2048 + 1) l [[97]] false := by
    rcases hc with ⟨_, h, _⟩ | ⟨_, _, h, _⟩ | ⟨_, _, h, _⟩ | ⟨rfl, _, _, h⟩
    · exact absurd h (by decide)
    · exact absurd h (by decide)
    · cases h
    · exact ⟨rfl, h⟩
  clear hc hp hS3 B3 G2
  obtain ⟨rfl, G3⟩ := K
  go_wp2_with fail
  (with_reducible refine (G3.disk.opens (by omega) hT).mono ?_)
  rintro x w4 ⟨l4, v4, Fs4, L4, rfl, eF4, G4, _, _, Rc4, _⟩
  obtain ⟨s, rfl, hs⟩ := zsOf_single eF4
  obtain ⟨A4, c4, rfl, _, _, hR4⟩ := Rc4.read
  obtain ⟨b, off, rfl, hb, hc4⟩ := hR4.at_ (by simp)
  have k0 : w4.cell? ⟨b, off, none⟩ = some (.slice s.A s.n s.c) := hc4 0 (by simp)
  have hin := hR4.each s (by simp)
  have hst := reads_string (c := s.c) hin.reads
  rw [hs] at hst
  have hT4 := hT.below G4.below hT.lt
  have B4 := G4.below
  have he : (strOfNums [97]).toList = [97] := by decide +kernel
  generalize strOfNums [97] = sx at *
  clear hc4 hR4 Rc4 G3 G4 hin
  go_wp2_with fail
  (with_reducible refine (of_none w4 hT4).mono ?_)
  rintro x w5 ⟨rfl, rfl⟩
  go_wp2_with fail
  go_ret
  exact ⟨rfl, B4⟩
end Go.Proofs.YtccdifplpbnclaaDoor
