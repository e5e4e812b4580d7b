/- What CodecSmall's two reading functions leave; changes and ballots held against one another. -/
import Derived.Test.YthacenajocchcaaCodSmallV
import Derived.Test.YthacenajocchcaaCodSmallW
import Derived.Test.YthacenajocchcaaOpenI
namespace Go.Proofs.Ythacenajocchcaa.codecSmall
open Go.RowKit

theorem intsChange : Ints Try.prog 2 38 := ints_struct Try.underlying38 (by kernel_rfl) (by kernel_rfl) (by intro f hf; simp at hf; rcases hf with rfl | rfl | rfl; exact ints_int 0 Try.underlying3 (by kernel_rfl); exact ints_int 0 Try.underlying3 (by kernel_rfl); exact ints_int 0 Try.underlying3 (by kernel_rfl))
theorem intsBallot : Ints Try.prog 2 40 := ints_struct Try.underlying40 (by kernel_rfl) (by kernel_rfl) (by intro f hf; simp at hf; rcases hf with rfl | rfl; exact ints_int 0 Try.underlying3 (by kernel_rfl); exact ints_int 0 Try.underlying3 (by kernel_rfl))
set_option maxRecDepth 100000 in
theorem eqChange {xs ys : List Int} (hx : xs.length = 3) (hy : ys.length = 3) (wx : wf64 xs) (wy : wf64 ys) (w : World) : (Op.equalIn 10000 38 (.agg (iA xs)) (.agg (iA ys))).run Try.prog w = .ok (decide (xs = ys)) w :=
  eq_ints (m := 8) (by kernel_rfl) (by omega) intsChange (fun zs hz => by
    have h : Try.prog.cellsOf 38 = 3 := by kernel_rfl
    rw [h] at hz
    simp [Value.formed, Try.underlying38, h, iA_size, hz]) (by rw [hx]; kernel_rfl) (by rw [hy]; kernel_rfl) wx wy w
set_option maxRecDepth 100000 in
theorem eqBallot {xs ys : List Int} (hx : xs.length = 2) (hy : ys.length = 2) (wx : wf64 xs) (wy : wf64 ys) (w : World) : (Op.equalIn 10000 40 (.agg (iA xs)) (.agg (iA ys))).run Try.prog w = .ok (decide (xs = ys)) w :=
  eq_ints (m := 8) (by kernel_rfl) (by omega) intsBallot (fun zs hz => by
    have h : Try.prog.cellsOf 40 = 2 := by kernel_rfl
    rw [h] at hz
    simp [Value.formed, Try.underlying40, h, iA_size, hz]) (by rw [hx]; kernel_rfl) (by rw [hy]; kernel_rfl) wx wy w
theorem infoChange : (Try.prog.info? 38).map (·.size) = some 3 := by kernel_rfl
theorem infoBallot : (Try.prog.info? 40).map (·.size) = some 2 := by kernel_rfl

theorem enters1 (args : Array Value) (w : World) : (callFunc 14 args).run Try.prog w = .ok (.enter 14 args) w := by kernel_rfl
theorem enters2 (args : Array Value) (w : World) : (callFunc 19 args).run Try.prog w = .ok (.enter 19 args) w := by kernel_rfl
def SmallQ (p : Nat) (n lim : Int) (x : Option (List Int)) (w2 : World) : Prop :=
  (n < lim ∧ x = some [] ∧ w2.cell? ⟨p, 0, none⟩ = some (.int .i64 n)) ∨ (¬ n < lim ∧ x = none ∧ ∃ v, w2.cell? ⟨p, 0, none⟩ = some (.int .i64 v))
set_option maxRecDepth 100000 in
set_option maxHeartbeats 1600000 in
theorem call1_any (g pl p : Nat) (n lim z : Int) (w : World) (h : Rd w g (· = p) (enc n) false) (hl : w.cell? ⟨pl, 0, none⟩ = some (.int .i64 lim)) (hp : Blk w p 3 #[.int .i64 z]) (hpg : p < g) (n0 : 0 ≤ n) (n1 : n < 9223372036854775808) :
    Calls Try.prog 14 #[.pointer (some ⟨g, 0, none⟩), .pointer (some ⟨pl, 0, none⟩), .pointer (some ⟨p, 0, none⟩)] w (Calling g (· = p) (SmallQ p n lim) w) := by
  have HN := small_any g (· = p) (enc n) lim w h (enc_bd n)
  have hrd : rdS lim (enc n) = if n < lim then some (n, []) else none := by
    have := rdN_enc n0 n1 []
    rw [List.append_nil] at this
    rw [rdS, this]
  rw [hrd] at HN
  have HQ : Hid (∀ x w2, SmallQ p n lim x w2 = ((n < lim ∧ x = some [] ∧ w2.cell? ⟨p, 0, none⟩ = some (.int .i64 n)) ∨ (¬ n < lim ∧ x = none ∧ ∃ v, w2.cell? ⟨p, 0, none⟩ = some (.int .i64 v)))) := hide fun _ _ => rfl
  generalize SmallQ p n lim = Q at HQ
  clear hrd
  by_cases hlt : n < lim
  · rw [if_pos hlt] at HN
    have HL := hide hlt
    clear hlt
    go_enter Try.func14, Try.ntmps14
    go_wp2_with fail
    (with_reducible refine HN.mono ?_)
    rintro e w2 hX
    obtain ⟨rfl, hR, hO⟩ := hX.rd
    have hp2 := hp.only hO (by show ¬ p = g; omega)
    have c2 : w2.cell? ⟨p, 0, none⟩ = some (.int .i64 z) := by rw [hp2.cell]; rfl
    have z2 := hp2.frozen 0
    have hp3 := hp2.set_ 0 (.int .i64 n)
    have hO3 := only_cell w2 p 0 (.int .i64 n)
    go_wp2_with fail
    go_end0
    refine ⟨(hO.mono (S' := fun i => i = g ∨ i = p) fun i _ h => .inl h).trans hO3 (fun i (e : i = p) => .inl (.inr e)), .inl ⟨[], rfl, hR.only hO3 (by show ¬ g = p; omega) (fun i _ (e : i = p) => e), ?_⟩⟩
    rw [HQ.out]
    exact .inl ⟨HL.out, rfl, by rw [hp3.cell]; rfl⟩
  · rw [if_neg hlt] at HN
    have HL := hide hlt
    clear hlt
    go_enter Try.func14, Try.ntmps14
    go_wp2_with fail
    (with_reducible refine HN.mono ?_)
    rintro e w2 hX
    obtain ⟨rfl, hR, hO⟩ := hX.no
    have hp2 := hp.only hO (by show ¬ p = g; omega)
    refine ⟨rfl, hO.mono fun i _ h => .inl h, .inr ⟨rfl, hR, ?_⟩⟩
    rw [HQ.out]
    exact .inr ⟨HL.out, rfl, z, by rw [hp2.cell]; rfl⟩

/-- The three variables that the second function stores into. -/
def T3 (pa pd pe i : Nat) : Prop := i = pa ∨ i = pd ∨ i = pe
def ThreeQ (pa pd pe : Nat) (vz cz bz : List Int) (x : Option (List Int)) (w2 : World) : Prop :=
  x = some [] ∧ IBlk w2 pa 24 vz ∧ IBlk w2 pd 38 cz ∧ IBlk w2 pe 40 bz
set_option maxRecDepth 100000 in
set_option maxHeartbeats 1600000 in
theorem call2_any (g pa pd pe : Nat) (n0 n1 : Int) (gs : List Int) (k0 k1 k2 b0 b1 : Int) (bs : List Int) (hbs : bs = enc n0 ++ (enc n1 ++ (encL gs ++ (enc k0 ++ (enc k1 ++ (enc k2 ++ (enc b0 ++ enc b1))))))) (w : World) (h : Rd w g (T3 pa pd pe) bs false)
    (hg : gs.length = 5) (a0 : 0 ≤ n0 ∧ n0 < 9223372036854775808) (a1 : 0 ≤ n1 ∧ n1 < 32) (hz : ∀ z ∈ gs, 0 ≤ z ∧ z < 6) (q0 : 0 ≤ k0 ∧ k0 < 2) (q1 : 0 ≤ k1 ∧ k1 < 5) (q2 : 0 ≤ k2 ∧ k2 < 5) (s0 : 0 ≤ b0 ∧ b0 < 9223372036854775808) (s1 : 0 ≤ b1 ∧ b1 < 5)
    (hA : IBlk w pa 24 (zeros 7)) (hD : IBlk w pd 38 (zeros 3)) (hE : IBlk w pe 40 (zeros 2)) (l1 : pa < pd) (l2 : pd < pe) (l3 : pe < g) :
    Calls Try.prog 19 #[.pointer (some ⟨g, 0, none⟩), .pointer (some ⟨pa, 0, none⟩), .pointer (some ⟨pd, 0, none⟩), .pointer (some ⟨pe, 0, none⟩)] w (Calling g (T3 pa pd pe) (ThreeQ pa pd pe (n0 :: n1 :: gs) [k0, k1, k2] [b0, b1]) w) := by
  have hbb : ∀ z ∈ enc n0 ++ (enc n1 ++ (encL gs ++ (enc k0 ++ (enc k1 ++ (enc k2 ++ (enc b0 ++ enc b1)))))), 0 ≤ z ∧ z < 256 := by
    intro z hz
    simp only [List.mem_append] at hz
    rcases hz with hz | hz | hz | hz | hz | hz | hz | hz <;> first | exact enc_bd _ z hz | exact encL_bd _ z hz
  rw [hbs] at h
  have HV := view_tell g (T3 pa pd pe) n0 n1 gs _ hg w h hbb a0.1 a0.2 a1.1 a1.2 hz
  have hb3 := bytes_tail (bytes_tail (bytes_tail hbb))
  have HC := fun w' h => change_tell g (T3 pa pd pe) k0 k1 k2 (enc b0 ++ enc b1) w' h hb3 q0.1 q0.2 q1.1 q1.2 q2.1 q2.2
  have hb6 : ∀ z ∈ enc b0 ++ (enc b1 ++ []), 0 ≤ z ∧ z < 256 := by rw [List.append_nil]; exact bytes_tail (bytes_tail (bytes_tail hb3))
  have HB := fun w' h => ballot_tell g (T3 pa pd pe) b0 b1 [] w' h hb6 s0.1 s0.2 s1.1 s1.2
  simp only [List.append_nil] at HB
  have hlv : (n0 :: n1 :: gs).length = 7 := by simp [hg]
  have HLV := hide hlv
  generalize enc b0 ++ enc b1 = E3 at HV HC HB
  generalize enc k0 ++ (enc k1 ++ (enc k2 ++ E3)) = E2 at HV HC
  have HQ : Hid (∀ x w2, ThreeQ pa pd pe (n0 :: n1 :: gs) [k0, k1, k2] [b0, b1] x w2 = (x = some [] ∧ IBlk w2 pa 24 (n0 :: n1 :: gs) ∧ IBlk w2 pd 38 [k0, k1, k2] ∧ IBlk w2 pe 40 [b0, b1])) := hide fun _ _ => rfl
  generalize ThreeQ pa pd pe (n0 :: n1 :: gs) [k0, k1, k2] [b0, b1] = Q at HQ
  generalize n0 :: n1 :: gs = vz at HV HLV HQ
  clear hbb hb3 hb6 h hbs hg hz a0 a1 q0 q1 q2 s0 s1 hlv
  have hT : Hid (∀ i, T3 pa pd pe i ↔ (i = pa ∨ i = pd ∨ i = pe)) := hide fun _ => Iff.rfl
  go_enter Try.func19, Try.ntmps19
  go_wp2_with fail
  (with_reducible refine HV.mono ?_)
  rintro e w2 hX
  obtain ⟨rfl, hR2, hO2⟩ := hX.rd
  go_wp2_with fail
  (with_reducible refine (HC _ hR2).mono ?_)
  rintro e w3 hX
  obtain ⟨rfl, hR3, hO3⟩ := hX.rd
  go_wp2_with fail
  (with_reducible refine (HB _ hR3).mono ?_)
  rintro e w4 hX
  obtain ⟨rfl, hR4, hO4⟩ := hX.rd
  have hO24 := (hO2.trans_ hO3).trans_ hO4
  have hA4 := hA.only hO24 (by show ¬ pa = g; omega)
  have hD4 := hD.only hO24 (by show ¬ pd = g; omega)
  have hE4 := hE.only hO24 (by show ¬ pe = g; omega)
  have hi7 := Try.infoView
  have hi3 := infoChange
  have hi2 := infoBallot
  have nA : 0 + vz.length ≤ (zeros 7).length := by rw [HLV.out]; decide
  have oA := only_cells w4 pa 0 (iV vz)
  have hA5 := hA4.fill (ys := vz) (by rw [HLV.out, zeros_length])
  have hD5 := hD4.only oA (by show ¬ pd = pa; omega)
  have hE5 := hE4.only oA (by show ¬ pe = pa; omega)
  have nD : 0 + [k0, k1, k2].length ≤ (zeros 3).length := by simp [zeros]
  have oD := only_cells (w4.setCells pa 0 (iV vz)) pd 0 (iV [k0, k1, k2])
  have hD6 := hD5.fill (ys := [k0, k1, k2]) rfl
  have hA6 := hA5.only oD (by show ¬ pa = pd; omega)
  have hE6 := hE5.only oD (by show ¬ pe = pd; omega)
  have nE : 0 + [b0, b1].length ≤ (zeros 2).length := by simp [zeros]
  have oE := only_cells ((w4.setCells pa 0 (iV vz)).setCells pd 0 (iV [k0, k1, k2])) pe 0 (iV [b0, b1])
  have hE7 := hE6.fill (ys := [b0, b1]) rfl
  have hA7 := hA6.only oE (by show ¬ pa = pe; omega)
  have hD7 := hD6.only oE (by show ¬ pd = pe; omega)
  go_wp2_with (first
    | refine wpList_store_i rfl 24 (.tmp 1) (.tmp 6) rfl hA4 0 vz rfl rfl nA (by rw [HLV.out]; exact hi7) ?_
    | refine wpList_store_i rfl 38 (.tmp 2) (.tmp 8) rfl hD5 0 [k0, k1, k2] rfl rfl nD hi3 ?_
    | refine wpList_store_i rfl 40 (.tmp 3) (.tmp 10) rfl hE6 0 [b0, b1] rfl rfl nE hi2 ?_)
  go_end0
  have hS : Only (T3 pa pd pe) w4 (((w4.setCells pa 0 (iV vz)).setCells pd 0 (iV [k0, k1, k2])).setCells pe 0 (iV [b0, b1])) :=
    ((oA.mono fun i _ (e : i = pa) => .inl e).trans oD (fun i (e : i = pd) => .inl (.inr (.inl e)))).trans oE (fun i (e : i = pe) => .inl (.inr (.inr e)))
  refine ⟨(hO24.mono (S' := fun i => i = g ∨ T3 pa pd pe i) fun i _ h => .inl h).trans hS (fun i e => .inl (.inr e)), .inl ⟨[], rfl, hR4.only hS (by rintro (e | e | e) <;> omega) (fun i _ e => e), ?_⟩⟩
  rw [HQ.out]
  exact ⟨rfl, hA7, hD7, hE7⟩
end Go.Proofs.Ythacenajocchcaa.codecSmall
