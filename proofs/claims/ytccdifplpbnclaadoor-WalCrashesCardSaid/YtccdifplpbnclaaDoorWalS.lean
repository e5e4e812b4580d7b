/- All sectors of a record. -/
import Derived.Test.YtccdifplpbnclaaDoorWalL
import Derived.Test.YtccdifplpbnclaaDoorWalA
namespace Go.Proofs.YtccdifplpbnclaaDoor
open Go.RowKit Go.Maps

attribute [local go_sem ↓] loadS_fold storeS_fold allocS_fold
attribute [local go_sem] loadS_has storeS_has allocS_run

/-! ### sectors, one behind the other -/
def flatV (L : List (List Int)) : List Value := L.flatMap u8V
def Sects64 (L : List (List Int)) : Prop := ∀ s ∈ L, Sect s
theorem flatV_cons (s : List Int) (L : List (List Int)) : flatV (s :: L) = u8V s ++ flatV L := rfl
theorem flatV_len : ∀ {L : List (List Int)}, Sects64 L → (flatV L).length = L.length * 64
  | [], _ => rfl
  | s :: L, h => by
    rw [flatV_cons, List.length_append, (h s (by simp)).vlen, flatV_len fun t ht => h t (by simp [ht]), List.length_cons, Nat.succ_mul]
    omega
theorem flatV_part : ∀ {L : List (List Int)}, Sects64 L → ∀ j (hj : j < L.length), ((flatV L).drop (j * 64)).take 64 = u8V L[j]
  | [], _, j, hj => by simp at hj
  | s :: L, h, j, hj => by
    have hs := (h s (by simp)).vlen
    cases j with
    | zero =>
      rw [Nat.zero_mul, List.drop_zero, flatV_cons, List.take_left' hs]
      rfl
    | succ j =>
      rw [flatV_cons, Nat.succ_mul, Nat.add_comm, ← List.drop_drop, List.drop_left' hs]
      exact flatV_part (fun t ht => h t (by simp [ht])) j (by simpa using hj)
theorem flatV_set : ∀ {L : List (List Int)}, Sects64 L → ∀ j, j < L.length → ∀ s, (u8V s).length = 64 → (flatV L).take (j * 64) ++ u8V s ++ (flatV L).drop (j * 64 + (u8V s).length) = flatV (L.set j s)
  | [], _, j, hj, _, _ => by simp at hj
  | t :: L, h, j, hj, s, hs => by
    have ht := (h t (by simp)).vlen
    cases j with
    | zero =>
      rw [Nat.zero_mul, List.take_zero, Nat.zero_add, hs, flatV_cons, List.drop_left' ht]
      rfl
    | succ j =>
      have := flatV_set (L := L) (fun t ht => h t (by simp [ht])) j (by simpa using hj) s hs
      rw [flatV_cons, List.set_cons_succ, flatV_cons, ← this, Nat.succ_mul, Nat.add_comm (j * 64) 64, Nat.add_assoc, ← List.drop_drop, List.drop_left' ht, List.take_append, ht, List.take_of_length_le (by omega)]
      rw [show 64 + j * 64 - 64 = j * 64 by omega]
      simp only [List.append_assoc]
/-- So many sectors lie in a block. -/
def SBlk (w : World) (g : Nat) (L : List (List Int)) : Prop := VBlk w g 61 (flatV L)
theorem SBlk.at_ {w : World} {g : Nat} {L : List (List Int)} (h : SBlk w g L) (hS : Sects64 L) {j : Nat} (hj : j < L.length) : rowAt w g (j * 64) 64 = (u8V L[j]).toArray ∧ HasRow w g (j * 64) 64 := by
  have hle : j * 64 + 64 ≤ (flatV L).length := by rw [flatV_len hS]; have := Nat.mul_le_mul_right 64 (show j + 1 ≤ L.length by omega); omega
  obtain ⟨r1, r2⟩ := VBlk.got h (j * 64) 64 hle
  exact ⟨by rw [r1, flatV_part hS j hj], r2⟩
theorem SBlk.room {w : World} {g : Nat} {L : List (List Int)} (h : SBlk w g L) (hS : Sects64 L) {j : Nat} (hj : j < L.length) : Room w g (j * 64) 64 :=
  VBlk.room h (j * 64) 64 (by rw [flatV_len hS]; have := Nat.mul_le_mul_right 64 (show j + 1 ≤ L.length by omega); omega)
theorem SBlk.put {w : World} {g : Nat} {L : List (List Int)} (h : SBlk w g L) (hS : Sects64 L) {j : Nat} (hj : j < L.length) {s : List Int} (hs : Sect s) : SBlk (w.setCells g (j * 64) (u8V s)) g (L.set j s) := by
  have := VBlk.setN (us := u8V s) h (j * 64) (by rw [flatV_len hS, hs.vlen]; have := Nat.mul_le_mul_right 64 (show j + 1 ≤ L.length by omega); omega)
  rw [flatV_set hS j hj s hs.vlen] at this
  exact this
theorem zero_flat (n : Nat) : List.replicate (n * 64) (Value.int .u8 0) = flatV (List.replicate n zs64) := by
  induction n with
  | zero => rfl
  | succ n ih =>
    rw [List.replicate_succ, flatV_cons, ← ih, Nat.succ_mul, Nat.add_comm, ← List.replicate_append_replicate]
    rfl
theorem Tryd.infoSec : (Tryd.prog.info? 61).map (fun i => (i.zero, i.size, i.bytes)) = some (some (secV zs64), 64, 64) := by kernel_rfl
theorem made_sects (n : Nat) : madeCells (u8V zs64).toArray (n * 64) = (flatV (List.replicate n zs64)).toArray := by
  rw [← zero_flat]
  unfold madeCells
  apply Array.ext
  · simp
  · intro i h1 h2
    have hm : i % 64 < 64 := Nat.mod_lt _ (by decide)
    have hu : ∀ k m, m < k → (List.replicate k (Value.int .u8 0)).toArray[m]! = .int .u8 0 := fun k m hm => by
      rw [getElem!_pos _ _ (by simpa using hm)]
      simp
    have hu : ∀ m, m < 64 → (u8V zs64).toArray[m]! = .int .u8 0 := hu 64
    rw [Array.getElem_map, Array.getElem_range, show (u8V zs64).toArray.size = 64 from rfl, hu _ hm]
    simp
def makeSecF (x y : Value) : Sem Value := Instr.makeSlice 59 x y
theorem makeSecF_fold (x y : Value) : Instr.makeSlice 59 x y = makeSecF x y := rfl
def FewS (n : Nat) : Prop := n ≤ 1000
theorem makeSecF_run {k : IntKind} {n : Nat} (hn : FewS n) (w : World) : (makeSecF (.int k (n : Int)) (.int k (n : Int))).run Tryd.prog w = .ok (.slice (some ⟨w.heap.size, 0, none⟩) n n) (w.alloc (.cells (flatV (List.replicate n zs64)).toArray 61)) := by
  obtain ⟨i, hi, hz, hs, hb⟩ := info_parts Tryd.infoSec
  have hn' : n ≤ 1000 := hn
  have := run_makeSlice (P := Tryd.prog) (w := w) 59 61 i _ Tryd.underlying59 hi hz k k n n (by omega) (by omega) (by rw [hs]; omega) (by rw [hb]; omega) (by omega)
  unfold makeSecF
  rw [this]
  congr 1
  rw [show (secV zs64).cells = (u8V zs64).toArray from rfl, hs, Int.toNat_natCast, made_sects]
attribute [local go_sem ↓] makeSecF_fold
attribute [local go_sem] makeSecF_run
theorem replicate_sects (n : Nat) : Sects64 (List.replicate n zs64) := fun s hs => by rw [List.eq_of_mem_replicate hs]; exact sect_zs
abbrev bytes8 (zs : List Int) : Prop := ∀ z ∈ zs, 0 ≤ z ∧ z < 256
theorem bytes8.part {zs : List Int} (h : bytes8 zs) (j : Nat) : bytes8 (partAt zs j) := fun z hz => h z (List.mem_of_mem_drop (List.mem_of_mem_take hz))
theorem secsL_len (k : Nat) (b : List Int) : (secsL k b).length = pcs b.length := by simp [secsL]
theorem secsL_at (k : Nat) (b : List Int) {j : Nat} (hj : j < (secsL k b).length) : (secsL k b)[j] = layL k j (pcs b.length) (partAt b j) := by simp [secsL]
theorem secsL_sects (k : Nat) {b : List Int} (hb : bytes8 b) : Sects64 (secsL k b) := fun s hs => by
  obtain ⟨j, _, rfl⟩ := List.mem_map.1 hs
  exact lay_sect _ _ _ _ (partAt_le _ _) (hb.part j)
/-- The first so many are laid. -/
def partL (L : List (List Int)) (j : Nat) : List (List Int) := L.take j ++ List.replicate (L.length - j) zs64
theorem partL_len {L : List (List Int)} {j : Nat} (hj : j ≤ L.length) : (partL L j).length = L.length := by simp [partL]; omega
theorem partL_sects {L : List (List Int)} (h : Sects64 L) (j : Nat) : Sects64 (partL L j) := fun s hs => by
  rcases List.mem_append.1 hs with hs | hs
  · exact h s (List.mem_of_mem_take hs)
  · exact replicate_sects _ s hs
theorem partL_zero (L : List (List Int)) : partL L 0 = List.replicate L.length zs64 := by simp [partL]
theorem partL_all (L : List (List Int)) : partL L L.length = L := by simp [partL]
theorem partL_set {L : List (List Int)} {j : Nat} (hj : j < L.length) : (partL L j).set j L[j] = partL L (j + 1) := by
  unfold partL
  rw [List.set_append, if_neg (by rw [List.length_take]; omega), List.length_take, Nat.min_eq_left (by omega), Nat.sub_self, show L.length - j = (L.length - (j + 1)) + 1 by omega, List.replicate_succ, List.set_cons_zero, List.take_succ_eq_append_getElem hj, List.append_assoc]
  rfl
/-- What is left of a slice of bytes, behind so many. -/
theorem rest_reads {w : World} {B n c j : Nat} {A : Option Addr} {zs : List Int} (h : Reads w B 1 A n (u8V (zs.drop (52 * j)))) (hc : n ≤ c) : Reads w B 1 (if c = min 52 n then A else A.map (·.add (min 52 n))) (n - min 52 n) (u8V (zs.drop (52 * (j + 1)))) := by
  have := h.cut (k := min 52 n) (by omega) hc
  rw [Nat.mul_one] at this
  have e : (u8V (zs.drop (52 * j))).drop (min 52 n) = u8V (zs.drop (52 * (j + 1))) := by
    rw [← u8V_drop, List.drop_drop]
    have hl : (zs.drop (52 * j)).length = n := by have := h.1; rw [u8V_length] at this; omega
    rw [List.length_drop] at hl
    rcases Nat.lt_or_ge n 52 with h5 | h5
    · rw [List.drop_of_length_le (by omega), List.drop_of_length_le (by omega)]
    · rw [Nat.min_eq_left h5]; rfl
  rw [e] at this
  exact this
theorem part_reads {w : World} {B n j : Nat} {A : Option Addr} {zs : List Int} (h : Reads w B 1 A n (u8V (zs.drop (52 * j)))) : Reads w B 1 A (min 52 n) (u8V (partAt zs j)) := by
  have hl : (zs.drop (52 * j)).length = n := by have := h.1; rw [u8V_length] at this; omega
  refine ⟨by rw [u8V_length, partAt, List.length_take, hl]; omega, fun h0 => ?_⟩
  obtain ⟨ad, e, hb, hc⟩ := h.2 (by omega)
  refine ⟨ad, e, hb, fun i u hu => hc i u ?_⟩
  rw [partAt, u8V_take, List.getElem?_take] at hu
  split at hu
  · exact hu
  · cases hu
set_option maxRecDepth 100000 in
set_option maxHeartbeats 8000000 in
theorem sectors_runs (w : World) (k n c : Nat) (A : Option Addr) (zs : List Int) (hl : Laid w) (hR : Reads w w.heap.size 1 A n (u8V zs)) (hn : n ≤ 20000) (hc : n ≤ c) (hcm : c ≤ maxLen) (hz : bytes8 zs) (hk : k ≤ 1000000) :
    Calls Tryd.prog 26 #[.int .i64 k, .slice A n c] w fun e w' => ∃ g, e = .returned (.slice (some ⟨g, 0, none⟩) (pcs n) (pcs n)) ∧ w.heap.size ≤ g ∧ SBlk w' g (secsL k zs) ∧ Below w.heap.size w w' := by
  have hzl : zs.length = n := by have := hR.1; rw [u8V_length] at this; omega
  have hp : pcs n ≤ 400 := by unfold pcs; omega
  have hp0 := pcs_pos n
  have hfew : FewS (pcs n) := by show pcs n ≤ 1000; omega
  have HS := secsL_sects k hz
  have HL : (secsL k zs).length = pcs n := by rw [secsL_len, hzl]
  go_enter Tryd.func26, Tryd.ntmps26
  go_wp2_with fail
  (with_reducible refine (Pieces_runs w n (by omega)).mono ?_)
  rintro e w1 ⟨rfl, rfl⟩
  have a1 : SBlk (w.alloc (.cells (flatV (List.replicate (pcs n) zs64)).toArray 61)) w.heap.size (partL (secsL k zs) 0) := by
    rw [partL_zero, HL]; exact VBlk.new w _ _
  have B1 : Below w.heap.size w (w.alloc (.cells (flatV (List.replicate (pcs n) zs64)).toArray 61)) := (Below.refl _ _).alloc (Nat.le_refl _) _
  have hR1 : Reads w w.heap.size 1 A n (u8V (zs.drop (52 * 0))) := hR
  generalize hw1 : w.alloc (.cells (flatV (List.replicate (pcs n) zs64)).toArray 61) = w1 at *
  go_wp2_with fail
  generalize hg : w.heap.size = g at *
  have hgl : g < w1.heap.size := VBlk.lt a1
  go_loopw [1, 6, 7, 14] (fun s1 _ _ s14 wr => ∃ (j n' c' : Nat) (A' : Option Addr), j ≤ pcs n ∧ s14 = .int .i64 j ∧ s1 = .slice A' n' c' ∧ n' ≤ c' ∧ c' ≤ maxLen ∧ n' ≤ 20000 ∧ Reads w g 1 A' n' (u8V (zs.drop (52 * j))) ∧ SBlk wr g (partL (secsL k zs) j) ∧ Below g w wr) (fun _ _ _ s14 _ => pcs n - (intOf s14).toNat)
  case atStart => exact ⟨0, n, c, A, Nat.zero_le _, rfl, rfl, hc, hcm, hn, hR1, a1, B1⟩
  case round =>
    obtain ⟨j, n', c', A', hj, rfl, rfl, hnc, hcm', hn', hR', hS, hB⟩ := hrel
    have hsz := hB.size
    have hcm2 : c' ≤ 9223372036854775807 := hcm'
    have hgr := VBlk.lt hS
    by_cases hlt : j < pcs n
    · have dl : (j : Int) < (pcs n : Int) := by omega
      have hP := part_reads hR'
      have hN := rest_reads hR' hnc
      have hq52 : min 52 n' ≤ 52 := by omega
      have hqn : min 52 n' ≤ n' := by omega
      have hq : (if (n' : Int) < 52 then (n' : Int) else 52) = ((min 52 n' : Nat) : Int) := by split <;> omega
      generalize min 52 n' = q at *
      generalize hAq : (if c' = q then A' else Option.map (fun x => x.add q) A') = A2 at hN
      go_upto_region 5 with fail
      go_upto_region 6 with fail
      go_upto_region 7 with fail
      have hL := hl.below hB (hg ▸ hl.lt)
      have hP2 := (hP.below hB).more (B' := wr.heap.size) (by omega)
      have hjL : j < (secsL k zs).length := by omega
      go_wp2_with fail
      (with_reducible refine (lay_runs wr k j (pcs n) q c' A' (partAt zs j) hL hP2 hq52 (hz.part j) hk (by omega) (by omega)).mono ?_)
      rintro e w2 ⟨rfl, hB2⟩
      have hS2 : SBlk w2 g (partL (secsL k zs) j) := VBlk.below hS hB2 (by omega)
      have hlS : Sect (layL k j (pcs n) (partAt zs j)) := lay_sect _ _ _ _ (partAt_le _ _) (hz.part j)
      have hi : Is 64 (u8V (layL k j (pcs n) (partAt zs j))) := ⟨hlS.vlen, u8V_one _⟩
      have hrm := hS2.room (partL_sects HS j) (j := j) (by rw [partL_len (by omega)]; exact hjL)
      have hS3 := hS2.put (partL_sects HS j) (j := j) (by rw [partL_len (by omega)]; exact hjL) hlS
      have eS : layL k j (pcs n) (partAt zs j) = (secsL k zs)[j] := by rw [secsL_at, hzl]
      have hB3 := below_only (hB.trans (hB2.mono (by omega))) (only_cells w2 g (j * 64) (u8V (layL k j (pcs n) (partAt zs j)))) (fun i (e : i = g) => by omega) (by have := hB2.size; omega)
      have HK : SBlk (w2.setCells g (j * 64) (u8V (layL k j (pcs n) (partAt zs j)))) g (partL (secsL k zs) (j + 1)) := by
        have e := partL_set hjL
        rw [← eS] at e
        rw [← e]
        exact hS3
      have HK := hide HK
      clear hS2 hS3 eS hP hP2 hR' hL hB2 hB
      go_wp2_with fail
      go_roundw
      case rel => go_light; exact ⟨j + 1, n' - q, c' - q, A2, by omega, by go_num, rfl, by omega, Nat.le_trans (Nat.sub_le _ _) hcm', by omega, hN, HK.out, hB3⟩
      case measure => go_light; simp [intOf]; omega
    · obtain rfl : j = pcs n := by omega
      have hSa : SBlk wr g (secsL k zs) := by rw [← HL, partL_all] at hS; exact hS
      go_wp2_with fail
      go_ret
      exact ⟨g, rfl, Nat.le_of_eq hg, hSa, hg ▸ hB⟩
end Go.Proofs.YtccdifplpbnclaaDoor
