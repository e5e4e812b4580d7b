/- The contracts of row's Dec, and of the law package's fit. -/
import Derived.Test.YtmcanjijpdgfeaaRowGA
namespace Go.Proofs.Ytmcanjijpdgfeaa
open Go.RowKit

attribute [local go_sem ↓] loadRowF_fold storeRowF_fold buildRowF_fold allocRowF_fold loadCellF_fold
attribute [local go_sem] loadRowF_has storeRowF_has buildRowF_none allocRowF_run loadCellF_has
theorem field1_any (b o : Nat) (w : World) : Calls Try.prog 14 #[.pointer (some ⟨b, o, none⟩)] w fun e w' => e = .returned (.pointer (some ⟨b, o + 1, none⟩)) ∧ Below w.heap.size w w' := by
  go_enter Try.func14, Try.ntmps14
  go_wp2
  go_ret
  exact ⟨rfl, Below.refl _ _⟩
theorem entersF1 (args : Array Value) (w : World) : (callFunc 14 args).run Try.prog w = .ok (.enter 14 args) w := by kernel_rfl
set_option maxRecDepth 100000 in
set_option maxHeartbeats 1600000 in
theorem dec_any (zs : List Int) (hl : zs.length = 174) (hok : okRow zs = true) (hv : zs.getD 0 0 ≤ 1152921504606846976) (key n : Int) (w : World) :
    Calls Try.prog 7 #[.agg (iA zs), .int .i64 key, .int .i64 n] w fun e w' => e = .returned (.tuple #[.agg (iA (growV zs key n 1).1), .int .i64 (growV zs key n 1).2]) ∧ Below w.heap.size w w' := by
  have hI : IBlk ((w.alloc (.cells (iA zs) 28)).alloc (.cells (iA (zeros 174)) 28)) w.heap.size 28 zs := (IBlk.new _ _ _).alloc _
  have hJ : IBlk ((w.alloc (.cells (iA zs) 28)).alloc (.cells (iA (zeros 174)) 28)) (w.heap.size + 1) 28 (zeros 174) := by
    have := IBlk.new (w.alloc (.cells (iA zs) 28)) 28 (zeros 174)
    simpa using this
  have hB : Below w.heap.size w ((w.alloc (.cells (iA zs) 28)).alloc (.cells (iA (zeros 174)) 28)) := ((Below.refl _ _).alloc (Nat.le_refl _) _).alloc (by simp) _
  go_enter Try.func7, Try.ntmps7
  go_upto_region 1 with fail
  generalize (w.alloc (.cells (iA zs) 28)).alloc (.cells (iA (zeros 174)) 28) = w1 at hI hJ hB
  obtain ⟨r1, h1⟩ := hI.whole hl
  have HC := grow_any 14 #[] entersF1 1 (by omega) zs hl hok hv key n w1 (fun w2 b o _ => field1_any b o w2)
  have hgl := growV_length hl key n 1
  obtain ⟨g1, g2, hge⟩ : ∃ g1 g2, growV zs key n 1 = (g1, g2) := ⟨_, _, rfl⟩
  rw [hge] at HC hgl
  have HG := hide hge
  clear hge
  have hgi : Is 174 g1 := hgl
  clear hl hok hv
  go_wp2_with fail
  (with_reducible refine HC.mono ?_)
  rintro e w2 ⟨rfl, hb2⟩
  have hJ2 := hJ.below hb2 hJ.lt
  have hB2 := hB.trans (hb2.mono hB.size)
  have hrm := hJ2.room 0 174 (by rw [zeros_length]; decide)
  have hJz := hJ2.fill (ys := g1) hgl
  have hBz : Below w.heap.size w (w2.setCells (w.heap.size + 1) 0 (iV g1)) := below_only hB2 (only_cells _ _ _ _) (fun i (e : i = w.heap.size + 1) => by omega) hB2.size
  go_wp2_with fail
  have hi174 := Try.infoRow
  refine bodyPost_ret (results_i2 rfl rfl hJz Try.underlying28 rfl (by rw [show g1.length = 174 from hgl]; exact hi174) _ rfl) rfl ⟨?_, hBz⟩
  rw [HG.out]
  rfl

theorem grow_fit : growV (zeros 174) 1 5 0 = (((zeros 174).set 8 5).set 0 1, 0) := by decide +kernel
set_option maxRecDepth 100000 in
set_option maxHeartbeats 1600000 in
theorem fit4_any (w : World) : Calls Try.prog 4 #[] w fun e w' => e = .returned (.bool true) ∧ Below w.heap.size w w' := by
  have HC := inc_any (zeros 174) (zeros_length 174) ok_zeros (by decide) 1 5 w
  rw [grow_fit] at HC
  have hgl : (((zeros 174).set 8 5).set 0 1).length = 174 := by simp [zeros]
  have hg0 : (((zeros 174).set 8 5).set 0 1).getD 0 0 = 1 := by decide +kernel
  have hg8 : (((zeros 174).set 8 5).set 0 1).getD 8 0 = 5 := by decide +kernel
  generalize ((zeros 174).set 8 5).set 0 1 = g at HC hgl hg0 hg8
  have hgi : Is 174 g := hgl
  go_enter Try.func4, Try.ntmps4
  go_wp2_with fail
  (with_reducible refine HC.mono ?_)
  rintro e w2 ⟨rfl, hb2⟩
  have hnew : IBlk (w2.alloc (.cells (iA (zeros 174)) 28)) w2.heap.size 28 (zeros 174) := IBlk.new _ _ _
  have hrm := hnew.room 0 174 (by rw [zeros_length]; decide)
  have hf := hnew.fill (ys := g) hgl
  have hB3 : Below w.heap.size w ((w2.alloc (.cells (iA (zeros 174)) 28)).setCells w2.heap.size 0 (iV g)) := below_only (hb2.alloc hb2.size _) (only_cells _ _ _ _) (fun i (e : i = w2.heap.size) => by have := hb2.size; omega) (by have := hb2.size; simp; omega)
  go_upto_region 2 with fail
  clear hrm hnew
  generalize (w2.alloc (.cells (iA (zeros 174)) 28)).setCells w2.heap.size 0 (iV g) = w3 at hf hB3
  have c0 : w3.cell? ⟨w2.heap.size, 0, none⟩ = some (.int .i64 1) := by rw [← hg0]; exact hf.cell (by omega)
  have c8 : w3.cell? ⟨w2.heap.size, 8, none⟩ = some (.int .i64 5) := by rw [← hg8]; exact hf.cell (by omega)
  go_wp2_with fail
  (with_reducible refine (right_any 5 w3).mono ?_)
  rintro e w' ⟨rfl, rfl⟩
  rw [show inN 5 = true from rfl]
  go_wp2_with fail
  go_ret
  exact ⟨rfl, hB3⟩
end Go.Proofs.Ytmcanjijpdgfeaa
