/- The contract of the Reader's cell. -/
import Derived.Test.YtfhepoihhigcaaaCodR
import Derived.Test.YtfhepoihhigcaaaFlat
namespace Go.Proofs.Ytfhepoihhigcaaa
open Go.RowKit

theorem rdGo_no {lim : Int} {acc bs : List Int} {k : Nat} (h : rdS lim bs = none) : rdGo lim acc (k + 1) bs = none := by rw [rdGo, h]
theorem rdGo_yes {lim : Int} {acc bs r : List Int} {k : Nat} {n : Int} (h : rdS lim bs = some (n, r)) : rdGo lim acc (k + 1) bs = rdGo lim (acc ++ [n]) k r := by rw [rdGo, h]
theorem rdS_bytes {lim : Int} {bs : List Int} {n : Int} {r : List Int} (hb : ∀ z ∈ bs, 0 ≤ z ∧ z < 256) (h : rdS lim bs = some (n, r)) : ∀ z ∈ r, 0 ≤ z ∧ z < 256 := bytes_rest hb (rdS_sound hb h).2.2.2
theorem rdGo_bytes {lim : Int} {k : Nat} {acc bs l r : List Int} (hb : ∀ z ∈ bs, 0 ≤ z ∧ z < 256) (h : rdGo lim acc k bs = some (l, r)) : ∀ z ∈ r, 0 ≤ z ∧ z < 256 := by
  obtain ⟨m, _, _, _, e⟩ := rdGo_sound k hb h
  exact bytes_rest hb e
def zeros (n : Nat) : List Int := List.replicate n 0
theorem zeros_length (n : Nat) : (zeros n).length = n := by simp [zeros]
theorem set_next (acc : List Int) (n : Nat) (x : Int) : (acc ++ zeros (n + 1)).set acc.length x = (acc ++ [x]) ++ zeros n := by
  rw [List.set_append, if_neg (by omega), Nat.sub_self, zeros, List.replicate_succ]
  simp [zeros]
def maxN : Int := 1099511627777

theorem Try.allocCell (w : World) : (Instr.alloc 38 true (.tuple #[])).run Try.prog w = .ok (.pointer (some ⟨w.heap.size, 0, none⟩)) (w.alloc (.cells (iA (zeros 7)) 38)) := by kernel_rfl
theorem Try.buildCell (n m : Int) (w : World) : (Instr.build 38 #[(0, .int .i64 n), (1, .int .i64 m)]).run Try.prog w = .ok (.agg (iA ([n, m] ++ zeros 5))) w := run_build w _ _ _ (by kernel_rfl)
theorem Try.infoCell : (Try.prog.info? 38).map (·.size) = some 7 := by kernel_rfl

/-- What a reading loop knows: so many numbers are told, in a block that was laid for them. -/
def GoSt (w : World) (g : Nat) (T : Nat → Prop) (lim : Int) (G : Option (List Int × List Int)) (b : Nat) (t : TypeId) (n b' n' k : Nat) (wr : World) : Prop :=
  ∃ acc r, acc.length + k = n ∧ G = rdGo lim acc k r ∧ Rd wr g T r false ∧ (∀ z ∈ r, 0 ≤ z ∧ z < 256) ∧ Only (· = g) w wr ∧ IBlk wr b t (acc ++ zeros k) ∧ IBlk wr b' t (zeros n')
theorem replicate_getD (acc : List Int) (k : Nat) : (acc ++ zeros (k + 1))[acc.length]? = some 0 := by
  rw [List.getElem?_append_right (Nat.le_refl _), Nat.sub_self]; simp [zeros]

set_option maxRecDepth 100000 in
set_option maxHeartbeats 1600000 in
theorem cell_any (g : Nat) (T : Nat → Prop) (bs : List Int) (w : World) (h : Rd w g T bs false) (hb : ∀ z ∈ bs, 0 ≤ z ∧ z < 256) :
    Calls Try.prog 38 #[.pointer (some ⟨g, 0, none⟩)] w (Told (fun l => .agg (iA l)) (rdGo maxN [] 7 bs) w g T) := by
  have hal := Try.allocCell
  have hbu := Try.buildCell
  have hlt := h.lt
  have h1 : Rd (w.alloc (.cells (iA (zeros 7)) 38)) g T bs false := h.only ((Only.refl (fun _ => False) _).alloc _) (by simp) (by simp)
  have hr1 : IBlk (w.alloc (.cells (iA (zeros 7)) 38)) w.heap.size 38 (zeros 7) := IBlk.new _ _ _
  have hO1 : Only (· = g) w (w.alloc (.cells (iA (zeros 7)) 38)) := (Only.refl _ _).alloc _
  have HN := small_any g T bs maxN _ h1 hb
  cases hs : rdS maxN bs with
  | none =>
    rw [rdGo_no hs]
    rw [hs] at HN
    clear hs
    go_enter Try.func38, Try.ntmps38
    go_wp2_with fail
    refine HN.mono ?_
    rintro e w2 hX
    obtain ⟨rfl, hR, hO⟩ := hX.no
    exact ⟨rfl, hO1.trans_ hO, rfl, hR⟩
  | some x =>
    obtain ⟨n0, r0⟩ := x
    rw [rdGo_yes hs]
    rw [hs] at HN
    have hb0 := rdS_bytes hb hs
    clear hs
    cases hs : rdS maxN r0 with
    | none =>
      rw [rdGo_no hs]
      go_enter Try.func38, Try.ntmps38
      go_wp2_with fail
      refine HN.mono ?_
      rintro e w2 hX
      obtain ⟨rfl, hR2, hO2⟩ := hX.rd
      have HN2 := small_any g T r0 maxN _ hR2 hb0
      rw [hs] at HN2
      clear hs
      go_wp2_with fail
      refine HN2.mono ?_
      rintro e w3 hX
      obtain ⟨rfl, hR, hO⟩ := hX.no
      exact ⟨rfl, (hO1.trans_ hO2).trans_ hO, rfl, hR⟩
    | some x =>
      obtain ⟨n1, r1⟩ := x
      rw [rdGo_yes hs]
      have hb1 := rdS_bytes hb0 hs
      obtain ⟨G, hG0⟩ : ∃ G, G = rdGo maxN [n0, n1] 5 r1 := ⟨_, rfl⟩
      rw [show rdGo maxN ([] ++ [n0] ++ [n1]) 5 r1 = G from hG0.symm]
      have HG := hide hG0
      clear hG0
      go_enter Try.func38, Try.ntmps38
      go_wp2_with fail
      refine HN.mono ?_
      rintro e w2 hX
      obtain ⟨rfl, hR2, hO2⟩ := hX.rd
      have HN2 := small_any g T r0 maxN _ hR2 hb0
      rw [hs] at HN2
      clear hs
      go_wp2_with fail
      refine HN2.mono ?_
      rintro e w3 hX
      obtain ⟨rfl, hR3, hO3⟩ := hX.rd
      have hO13 := (hO1.trans_ hO2).trans_ hO3
      go_wp2_with fail
      have hb2 : IBlk (w3.alloc (.cells (iA ([n0, n1] ++ zeros 5)) 38)) w3.heap.size 38 ([n0, n1] ++ zeros 5) := IBlk.new _ _ _
      have hb1' : IBlk w3 w.heap.size 38 (zeros 7) := ((hr1.only hO2 (by show ¬ w.heap.size = g; omega)).only hO3 (by show ¬ w.heap.size = g; omega))
      have hw3 : w.heap.size < w3.heap.size := hb1'.lt
      go_loopw [10] (fun i wr => ∃ (k : Nat), k ≤ 5 ∧ i = .int .i64 k ∧ GoSt w g T maxN G w3.heap.size 38 7 w.heap.size 7 (5 - k) wr) (fun i _ => 5 - (intOf i).toNat)
      case atStart => exact ⟨0, by omega, rfl, [n0, n1], r1, rfl, HG.out, hR3.only ((Only.refl (fun _ => False) _).alloc _) (by simp) (by simp), hb1, hO13.alloc _, hb2, hb1'.alloc _⟩
      case round =>
        clear hb2 hR3 hR2 hO2 hO3 hO13 hb1' hr1 hO1 h1 HN HN2 HG
        obtain ⟨k, hk, rfl, acc, r, hl, hG, hR, hbr, hO, hI, hJ⟩ := hrel
        by_cases hlt : k < 5
        · obtain ⟨j, hj⟩ : ∃ j, 5 - k = j + 1 := ⟨4 - k, by omega⟩
          rw [hj] at hG hI hl
          have HN := small_any g T r maxN _ hR hbr
          cases hs : rdS maxN r with
          | none =>
            rw [rdGo_no hs] at hG
            rw [hs] at HN
            clear hs
            have HG := hide hG
            clear hG hI hJ hR hj
            go_wp2_with fail
            refine HN.mono ?_
            rintro e w5 hX
            obtain ⟨rfl, hR5, hO5⟩ := hX.no
            refine ⟨rfl, hO.trans_ hO5, ?_⟩
            rw [HG.out]
            exact ⟨rfl, hR5⟩
          | some x =>
            obtain ⟨n, r'⟩ := x
            rw [rdGo_yes hs] at hG
            have hbr' := rdS_bytes hbr hs
            rw [hs] at HN
            clear hs
            have HG := hide hG
            have hae : acc.length = 2 + k := by omega
            have HJ := hide hj
            clear hG hj
            have hgb : ¬ w3.heap.size = g := by omega
            go_wp2_with fail
            refine HN.mono ?_
            rintro e w5 hX
            obtain ⟨rfl, hR5, hO5⟩ := hX.rd
            have hI5 := hI.only hO5 hgb
            have hJ5 := hJ.only hO5 (by show ¬ w.heap.size = g; omega)
            have hc5 := hI5.cellAt acc.length 0 (replicate_getD acc j)
            have hz5 := hI5.frozen acc.length
            rw [hae] at hc5 hz5
            go_wp2_with fail
            go_roundw
            case rel =>
              have hO6 : Only (· = w3.heap.size) w5 (w5.setCell ⟨w3.heap.size, 2 + k, none⟩ (.int .i64 n)) := (Only.refl (· = w3.heap.size) w5).setCell (p := ⟨w3.heap.size, 2 + k, none⟩) (.inl rfl) _
              refine ⟨k + 1, by omega, by go_num, acc ++ [n], r', by have := HJ.out; simp; omega, by rw [HG.out, show 5 - (k + 1) = j by have := HJ.out; omega], hR5.only hO6 (by show ¬ g = w3.heap.size; omega) (fun i hi (e : i = w3.heap.size) => by omega), hbr', (hO.trans_ hO5).trans hO6 (fun i (e : i = w3.heap.size) => .inr (by omega)), ?_, hJ5.only hO6 (by show ¬ w.heap.size = w3.heap.size; omega)⟩
              have := hI5.set (2 + k) n
              rw [← hae, set_next acc j n, hae] at this
              rw [show 5 - (k + 1) = j by have := HJ.out; omega]
              exact this
            case measure => simp [intOf]; omega
        · obtain rfl : k = 5 := by omega
          rw [show zeros (5 - 5) = [] from rfl, List.append_nil] at hI
          rw [show 5 - 5 = 0 from rfl] at hG
          have hae : acc.length = 7 := by omega
          have hi7 := Try.infoCell
          have hn7 : 0 + acc.length ≤ (zeros 7).length := by rw [hae]; decide
          have hJ2 := hJ.setN hn7
          rw [show (zeros 7).take 0 ++ acc ++ (zeros 7).drop (0 + acc.length) = acc by rw [hae]; simp [zeros]] at hJ2
          have HG := hide hG
          clear hG hl
          go_wp2_with (first
            | (refine wpList_load_i rfl 38 (.tmp 3) rfl hI 0 7 rfl (by omega) Try.underlying38 rfl hi7 ?_; rw [List.drop_zero, List.take_of_length_le (Nat.le_of_eq hae)])
            | refine wpList_store_i rfl 38 (.tmp 2) (.tmp 19) rfl hJ 0 acc rfl rfl hn7 (by rw [hae]; exact hi7) ?_)
          have hO7 : Only (· = w.heap.size) wr (wr.setCells w.heap.size 0 (iV acc)) := only_cells _ _ _ _
          refine bodyPost_ret (results_i rfl rfl hJ2 Try.underlying38 rfl (by rw [hae]; exact hi7)) rfl ⟨hO.trans hO7 (fun i (e : i = w.heap.size) => .inr (by omega)), ?_⟩
          rw [HG.out]
          exact ⟨rfl, hR.only hO7 (by show ¬ g = w.heap.size; omega) (fun i hi (e : i = w.heap.size) => by omega)⟩
end Go.Proofs.Ytfhepoihhigcaaa
