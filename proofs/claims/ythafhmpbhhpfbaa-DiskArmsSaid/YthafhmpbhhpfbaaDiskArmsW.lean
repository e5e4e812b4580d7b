/- The walk of DiskArms: it returns true at all arguments and leaves what was there as it was. -/
import Derived.Test.YthafhmpbhhpfbaaDskF
import Derived.Test.YthafhmpbhhpfbaaBitsI
namespace Go.Proofs.Ythafhmpbhhpfbaa.diskArms
open Go.RowKit Go.Maps

theorem wrt_up {x : Int} {S : DS} {zs : List Int} (hx : 0 ≤ x) (hx' : x < 2048) (hz : zs.length ≤ 64) (ha : S.armed = true) (hl : 0 < S.left) (hd : S.down = false) :
    wrtS x zs S = (0, { S with left := S.left - 1, ws := S.ws ++ [(x, padB zs)] }) := by
  have e : takS S = { S with left := S.left - 1 } := by
    unfold takS
    rw [if_neg (by rw [hd, ha]; simp; omega), if_pos ha]
  unfold wrtS
  rw [if_neg (by omega), e, if_neg (by show ¬ S.down = true; rw [hd]; decide)]
theorem wrt_down {x : Int} {S : DS} {zs : List Int} (hx : 0 ≤ x) (hx' : x < 2048) (hz : zs.length ≤ 64) (hd : S.down = true ∨ (S.armed = true ∧ S.left = 0)) :
    wrtS x zs S = (4, { S with down := true }) := by
  have e : takS S = { S with down := true } := by
    unfold takS
    rw [if_pos hd]
  unfold wrtS
  rw [if_neg (by omega), e, if_pos rfl]
def St (w0 wr : World) (d K : Nat) (p : DS → Prop) : Prop := ∃ B S, DiskAt wr B d K S ∧ p S ∧ (∀ b, B b → w0.heap.size ≤ b) ∧ Below w0.heap.size w0 wr
set_option maxRecDepth 100000 in
set_option maxHeartbeats 12800000 in
theorem walk (w : World) (n : Int) (_ : -9223372036854775808 ≤ n) (_ : n ≤ 9223372036854775807) (more : Int) (_ : -9223372036854775808 ≤ more) (_ : more ≤ 9223372036854775807) :
    Calls Try.prog 5 #[.int .i64 n, .int .i64 more] w fun e w' => e = .returned (.bool true) ∧ Below w.heap.size w w' := by
  obtain ⟨N, hN, hNl⟩ : ∃ N : Nat, bits .and .i64 n 63 = (N : Int) ∧ N < 64 := ⟨(n % 64).toNat, by rw [show bits .and .i64 n 63 = n % 64 from i64_and_mask n 6 (by omega)]; omega, by omega⟩
  obtain ⟨M, hM, hMl⟩ : ∃ M : Nat, bits .and .i64 more 15 = (M : Int) ∧ M < 16 := ⟨(more % 16).toNat, by rw [show bits .and .i64 more 15 = more % 16 from i64_and_mask more 4 (by omega)]; omega, by omega⟩
  go_enter Try.func5, Try.ntmps5
  go_wp2_with fail
  (with_reducible refine (fit_runs w).mono ?_)
  rintro e w1 ⟨rfl, hb1⟩
  go_wp2_with fail
  (with_reducible refine (New_runs w1).mono ?_)
  rintro e w2 ⟨d, B, rfl, hD, hB, hb⟩
  have hb2 := hb1.trans (hb.mono hb1.size)
  have hB2 : ∀ b, B b → w.heap.size ≤ b := fun b h => Nat.le_trans hb1.size (hB b h)
  go_wp2_with fail
  (with_reducible refine (Arm_runs w2 B d 0 _ (N : Int) hD (by omega) (by omega)).mono ?_)
  rintro e w3 ⟨⟨v, rfl⟩, hD3, ho3⟩
  have hb3 := below_only hb2 ho3 hB2 hb2.size
  have hSt : St w w3 d 0 (fun S => S.armed = true ∧ S.left = (N : Int) ∧ S.down = false ∧ S.ws.length = 0) := ⟨B, _, hD3, ⟨rfl, by simp [armS], rfl, rfl⟩, hB2, hb3⟩
  clear hD3 ho3 hb3 hb2 hB2 hD hB hb hb1
  go_wp2_with fail
  go_loopw [19] (fun s19 wr => ∃ i : Nat, i ≤ N ∧ s19 = .int .i64 i ∧ St w wr d i (fun S => S.armed = true ∧ S.left = (N : Int) - (i : Int) ∧ S.down = false ∧ S.ws.length = i)) (fun s19 _ => N - (intOf s19).toNat)
  case atStart => exact ⟨0, by omega, rfl, by simpa using hSt⟩
  case round =>
    obtain ⟨i, hi, rfl, B, S, hD, ⟨a1, a2, a3, a4⟩, hB, hb⟩ := hrel
    obtain ⟨f, ws, ar, lf, dn⟩ := S
    dsimp only at a1 a2 a3 a4
    subst a1 a2 a3
    by_cases hlt : i < N
    · have dl : (i : Int) < (N : Int) := by omega
      have hwr := wrt_up (x := i) (S := ⟨f, ws, true, (N : Int) - (i : Int), false⟩) (zs := [1]) (by omega) (by omega) (by decide) rfl (by show 0 < (N : Int) - (i : Int); omega) rfl
      dsimp only at hwr
      go_wp2_with fail
      (with_reducible refine (Write_runs (wr.alloc (.cells #[.int .u8 1] 5)) B d i _ i (some ⟨wr.heap.size, 0, none⟩) 1 1 (wr.heap.size + 1) [1] (hD.below ((Below.refl _ _).alloc (Nat.le_refl _) _)) (by omega) (by omega) (by omega) (reads_one _ _ _) (by simp) (fun _ ad e _ hB => by injection e with e; rw [← e] at hB; exact absurd (hD.lt _ hB) (Nat.lt_irrefl _)) (by decide) (by decide)).mono ?_)
      rintro e w4 ⟨rfl, B2, hD2, hm⟩
      rw [hwr] at hD2 ⊢
      obtain ⟨hb2, hB2⟩ := hm.below (hb.alloc hb.size _) hB
      dsimp only at hD2
      have hSt2 : St w w4 d (i + 1) (fun S => S.armed = true ∧ S.left = (N : Int) - ((i + 1 : Nat) : Int) ∧ S.down = false ∧ S.ws.length = i + 1) := ⟨B2, _, hD2, ⟨rfl, by show (N : Int) - (i : Int) - 1 = _; omega, rfl, by show (ws ++ _).length = _; rw [List.length_append, a4]; rfl⟩, hB2, hb2⟩
      go_wp2_with fail
      (with_reducible refine (Down_runs w4 B2 d _ _ hD2).mono ?_)
      rintro e w5 ⟨rfl, rfl⟩
      clear hD2 hb2 hB2 hm hb hB hwr hD
      go_wp2_with fail
      go_roundw
      case rel => go_light; exact ⟨i + 1, by omega, by go_num, hSt2⟩
      case measure => go_light; simp [intOf]; omega
    · obtain rfl : N = i := by omega
      have dl : ¬ ((N : Int) < (N : Int)) := by omega
      clear hSt
      go_wp2_with fail
      (with_reducible refine (Down_runs wr B d _ _ hD).mono ?_)
      rintro e w5 ⟨rfl, rfl⟩
      have hSt : St w wr d N (fun S => S.armed = true ∧ S.left = 0 ∧ S.ws.length = N) := ⟨B, _, hD, ⟨rfl, by show (N : Int) - (N : Int) = 0; omega, a4⟩, hB, hb⟩
      clear hD hB hb
      go_wp2_with fail
      go_loopw [35] (fun s35 wq => ∃ j : Nat, j ≤ M + 1 ∧ s35 = .int .i64 j ∧ St w wq d (N + j) (fun S => S.armed = true ∧ S.left = 0 ∧ S.ws.length = N)) (fun s35 _ => M + 1 - (intOf s35).toNat)
      case atStart => exact ⟨0, by omega, rfl, hSt⟩
      case round =>
        obtain ⟨j, hj, rfl, B, S, hD, ⟨a1, a2, a4⟩, hB, hb⟩ := hrel
        obtain ⟨f, ws, ar, lf, dn⟩ := S
        dsimp only at a1 a2 a4
        subst a1 a2
        clear hSt
        by_cases hlt : j < M + 1
        · have dl : (j : Int) < (M : Int) + 1 := by omega
          have hwr := wrt_down (x := 0) (S := ⟨f, ws, true, 0, dn⟩) (zs := []) (by decide) (by decide) (by decide) (.inr ⟨rfl, rfl⟩)
          dsimp only at hwr
          have hsy : synS ⟨f, ws, true, 0, true⟩ = (4, ⟨f, ws, true, 0, true⟩) := by simp [synS]
          go_wp2_with fail
          (with_reducible refine (Write_runs _ B d (N + j) _ 0 none 0 0 0 [] hD (by omega) (by decide) (by decide) Reads.none_ (Nat.zero_le _) (fun _ ad e => by cases e) (by decide) (by decide)).mono ?_)
          rintro e w4 ⟨rfl, B2, hD2, hm⟩
          rw [hwr] at hD2 ⊢
          obtain ⟨hb2, hB2⟩ := hm.below hb hB
          dsimp only at hD2
          go_wp2_with fail
          (with_reducible refine (Down_runs w4 B2 d _ _ hD2).mono ?_)
          rintro e w5 ⟨rfl, rfl⟩
          go_wp2_with fail
          (with_reducible refine (Sync_runs w4 B2 d _ _ hD2 (by omega)).mono ?_)
          rintro e w5 ⟨rfl, hD3, ho3⟩
          rw [hsy] at hD3 ⊢
          have hSt2 : St w w5 d (N + (j + 1)) (fun S => S.armed = true ∧ S.left = 0 ∧ S.ws.length = N) := ⟨B2, _, hD3, ⟨rfl, rfl, a4⟩, hB2, below_only hb2 ho3 hB2 hb2.size⟩
          clear hD2 hD3 ho3 hb2 hB2 hm hb hB hwr hD hsy
          go_wp2_with fail
          go_roundw
          case rel => go_light; exact ⟨j + 1, by omega, by go_num, hSt2⟩
          case measure => go_light; simp [intOf]; omega
        · obtain rfl : j = M + 1 := by omega
          have dl : ¬ (((M + 1 : Nat) : Int) < (M : Int) + 1) := by omega
          go_wp2_with fail
          (with_reducible refine (Waits_runs _ B d _ _ hD).mono ?_)
          rintro e w5 ⟨rfl, rfl⟩
          dsimp only
          rw [a4]
          go_wp2_with fail
          go_ret
          exact ⟨rfl, hb⟩
end Go.Proofs.Ythafhmpbhhpfbaa.diskArms
