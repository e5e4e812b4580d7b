/- append of integers, as a function of the world; a sector of a log that was changed. -/
import Derived.Test.YtccdifplpbnclaaDoorWalH
import Derived.Test.YtccdifplpbnclaaDoorBitsI
namespace Go.Proofs.YtccdifplpbnclaaDoor
open Go.RowKit Go.Maps

theorem Tryd.infoInt1 : (Tryd.prog.info? 3).map (fun i => (i.zero, i.size, i.bytes)) = some (some (.int .i64 0), 1, 8) := by kernel_rfl
def appIF (x : Array Value) : Sem Value := Builtin.append_ #[40, 40] 40 x
theorem appIF_fold (x : Array Value) : Builtin.append_ #[40, 40] 40 x = appIF x := rfl
def HasAppI (w : World) (v x : Value) : Prop := ∃ p : Value × World, (appIF #[v, x]).run Tryd.prog w = .ok p.1 p.2
open Classical in
noncomputable def appIP (w : World) (v x : Value) : Value × World := if h : HasAppI w v x then Classical.choose h else (v, w)
theorem appIF_has {w : World} {v x : Value} (h : HasAppI w v x) : (appIF #[v, x]).run Tryd.prog w = .ok (appIP w v x).1 (appIP w v x).2 := by
  unfold appIP
  rw [dif_pos h]
  exact Classical.choose_spec h
theorem appI_any {w : World} {base n : Nat} {v : Value} {xs : List Value} (hown : w.ownsRow base 3 1 v n xs) {B : Nat} {A : Option Addr} {m c : Nat} {us : List Value} (hr : Reads w B 1 A m us) (ho : ∀ u ∈ us, u.oneCell' = true) (h1 : n + m ≤ 100000) (hb : base ≤ w.heap.size) :
    HasAppI w v (.slice A m c) ∧ ∀ p, appIP w v (.slice A m c) = p → p.2.ownsRow base 3 1 p.1 (n + m) (xs ++ us) ∧ w.grownBy p.2 v.ownBlock ∧ (p.1.ownBlock = v.ownBlock ∨ p.1.ownBlock = some w.heap.size) := by
  obtain ⟨i, hi, hz, hsz, hby⟩ := info_parts Tryd.infoInt1
  obtain ⟨v', w', hrun, h2, h3, h4⟩ := run_append_any (P := Tryd.prog) w base 40 40 3 i _ 1 8 Tryd.underlying40 hi hz hsz hby rfl (by decide) v n xs hown B A m c us hr ho (by unfold maxLen; omega) (by omega) hb
  have hh : HasAppI w v (.slice A m c) := ⟨(v', w'), hrun⟩
  refine ⟨hh, ?_⟩
  rintro p rfl
  have e := (appIF_has hh).symm.trans (show (appIF #[v, .slice A m c]).run Tryd.prog w = .ok v' w' from hrun)
  generalize appIP w v (.slice A m c) = p at e
  obtain ⟨a, w2⟩ := p
  simp only [Result.ok.injEq] at e
  obtain ⟨rfl, rfl⟩ := e
  exact ⟨h2, h3, h4⟩
/-- A record of which a sector was changed is not there. -/
theorem LogF.cut {f : Sects} {R : List (List Int)} (h : LogF f R) {i m : Nat} (hi : i < R.length) (hm : m < pcs R[i].length) {s : List Int} (hs : s.getD 63 0 ≠ 1) : Opened (updF f ((used (R.take i) + m : Nat) : Int) s) (R.take i) := by
  have hR : R.take i ++ R[i] :: R.drop (i + 1) = R := by rw [← List.drop_eq_getElem_cons hi, List.take_append_drop]
  have h1 := h.1
  rw [← hR] at h1
  obtain ⟨r1, hp, r2, _⟩ := Run.add.1 h1
  have hl : (R.take i).length = i := by rw [List.length_take]; omega
  rw [Nat.zero_add, Nat.zero_add] at r2
  refine ⟨r1.same fun y _ hy => ?_, ?_⟩
  · unfold updF
    rw [if_neg (by omega)]
  · refine none_of_bad (i := m) (p := pcs R[i].length) hm ?_ ?_
    · unfold updF
      rw [if_pos rfl]
      exact hs
    · rcases Nat.eq_zero_or_pos m with h0 | h0
      · exact .inl h0
      · refine .inr ?_
        have : updF f ((used (R.take i) + m : Nat) : Int) s ((used (R.take i) : Nat) : Int) = f (used (R.take i) : Int) := by
          unfold updF
          rw [if_neg (by omega)]
        rw [this]
        exact whole_count r2 hp
theorem pad_last {zs : List Int} (h : zs.length ≤ 40) : (padB zs).getD 63 0 ≠ 1 := by
  unfold padB
  rw [List.getD_eq_getElem?_getD, List.getElem?_append_right (by omega), List.getElem?_replicate]
  split <;> simp
theorem wrt_idle {f : Sects} {ws : List (Int × List Int)} {lf x : Int} {zs : List Int} (h0 : 0 ≤ x) (h1 : x < 2048) (hz : zs.length ≤ 64) : wrtS x zs ⟨f, ws, false, lf, false⟩ = (0, ⟨f, ws ++ [(x, padB zs)], false, lf, false⟩) := by
  unfold wrtS takS
  rw [if_neg (by omega)]
  simp
theorem zsL_take (F : Nat → Sl) {i n : Nat} (h : i ≤ n) : (zsL F n).take i = zsL F i := by
  unfold zsL zsOf
  rw [← List.map_take, ← List.map_take, List.take_range, Nat.min_eq_left h]
theorem zsL_at (F : Nat → Sl) {i n : Nat} (h : i < n) : (zsL F n)[i]'(by rw [zsL_len]; exact h) = (F i).zs := by simp [zsL, zsOf]
/-- Where each record ends. -/
def endsV (F : Nat → Sl) (j : Nat) : List Value := (List.range j).map fun i => Value.int .i64 (used (zsL F (i + 1)) : Int)
theorem endsV_succ (F : Nat → Sl) (j : Nat) : endsV F (j + 1) = endsV F j ++ [.int .i64 (used (zsL F (j + 1)) : Int)] := by simp [endsV, List.range_succ]
theorem endsV_at (F : Nat → Sl) {j i : Nat} (h : i < j) : (endsV F j)[i]? = some (.int .i64 (used (zsL F (i + 1)) : Int)) := by simp [endsV, h]
end Go.Proofs.YtccdifplpbnclaaDoor
