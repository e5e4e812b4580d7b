/- The contract of the Writer's Row. -/
import Derived.Test.YtfhepoihhigcaaaCodWRow
import Derived.Deep.RegionHeld3
import Derived.Deep.RegionLaw
import Derived.Deep.RegionLawGrows
namespace Go.Proofs.Ytfhepoihhigcaaa
open Go.RowKit

theorem step_load_i {P : Program} {ops : Array Oper} {op : Oper} {a : Act} {w : World} {K : Act → World → Prop} {Q : Exit → Act → World → Prop} {E : Prop} (hgd : op.guard = none) (ty : TypeId) (x : Operand) (ho : op.op = .load ty x) {g : Nat} {t : TypeId} {zs : List Int} (hI : IBlk w g t zs) (o n : Nat) (hx : a.eval x = .pointer (some ⟨g, o, none⟩)) (hn : o + n ≤ zs.length)
    {d : TypeDesc} (hu : P.underlying ty = some d) (hd : d.isRow = true) (hi : (P.info? ty).map (·.size) = some n)
    (h : K (a.put op.dst (.agg (iA ((zs.drop o).take n)))) w) :
    if Region.wanted op (yielded ops a.tmps) = true then Oper.wp P op a w K Q else E := by
  have hw : Region.wanted op (yielded ops a.tmps) = true := by simp [Region.wanted, hgd]
  rw [if_pos hw]
  exact wp_load_mid ty x ho g o hx _ d (hI.part o n) hu hd (by rw [iV_length, List.length_take, List.length_drop, hi]; congr 1; omega) h

/-- What is laid of heirs, and of what they left. -/
def tellH : List Int → List Int → List Int
  | [], _ => []
  | h :: hs, ls => h :: ((if 0 < h then ls.take 28 else []) ++ tellH hs (ls.drop 28))
def tellRow (zs : List Int) : List Int := zs.take 29 ++ tellH ((zs.drop 29).take 5) (zs.drop 34)
theorem tellH_snoc (h : Int) : ∀ (hs ls : List Int), tellH (hs ++ [h]) ls = tellH hs ls ++ (h :: (if 0 < h then (ls.drop (28 * hs.length)).take 28 else []))
  | [], ls => by simp [tellH]
  | g :: hs, ls => by
    rw [List.cons_append, tellH, tellH_snoc h hs (ls.drop 28), tellH, List.drop_drop, List.length_cons, show 28 + 28 * hs.length = 28 * (hs.length + 1) by omega]
    simp
theorem tellH_bd {P : Int → Prop} : ∀ (hs ls : List Int), (∀ z ∈ hs, P z) → (∀ z ∈ ls, P z) → ∀ z ∈ tellH hs ls, P z
  | [], _, _, _ => by simp [tellH]
  | h :: hs, ls, h1, h2 => by
    intro z hz
    rw [tellH] at hz
    rcases List.mem_cons.1 hz with rfl | hz
    · exact h1 _ (by simp)
    · rcases List.mem_append.1 hz with hz | hz
      · split at hz
        · exact h2 z (List.mem_of_mem_take hz)
        · cases hz
      · exact tellH_bd hs (ls.drop 28) (fun z hz => h1 z (by simp [hz])) (fun z hz => h2 z (List.mem_of_mem_drop hz)) z hz
theorem tellH_len : ∀ (hs ls : List Int), (tellH hs ls).length ≤ 29 * hs.length
  | [], _ => by simp [tellH]
  | h :: hs, ls => by
    have := tellH_len hs (ls.drop 28)
    rw [tellH]
    have h2 : (if 0 < h then ls.take 28 else []).length ≤ 28 := by
      split
      · rw [List.length_take]; omega
      · simp
    rw [List.length_cons, List.length_append, List.length_cons]
    omega

theorem range_chunk {zs : List Int} (o n : Nat) (h : o + n ≤ zs.length) : (List.range n).map (fun i => zs.getD (o + i) 0) = (zs.drop o).take n := by
  apply List.ext_getElem
  · simp; omega
  · intro i h1 h2
    simp at h1 h2
    simp [List.getD, show o + i < zs.length by omega]
/-- The load of a row, folded: the walk does not open it cell by cell. -/
def loadCells28 (x : Value) : Sem Value := Instr.loadAt 39 x
theorem loadCells28_fold (x : Value) : Instr.loadAt 39 x = loadCells28 x := rfl
theorem loadCells28_has {w : World} {b o : Nat} (h : HasRow w b o 28) : (loadCells28 (.pointer (some ⟨b, o, none⟩))).run Try.prog w = .ok (.agg (rowAt w b o 28)) w := run_loadAt_has Try.underlying39 rfl Try.infoCells h
def loadInts5 (x : Value) : Sem Value := Instr.loadAt 36 x
theorem loadInts5_fold (x : Value) : Instr.loadAt 36 x = loadInts5 x := rfl
theorem Try.infoInts5 : (Try.prog.info? 36).map (·.size) = some 5 := by kernel_rfl
theorem loadInts5_has {w : World} {b o : Nat} (h : HasRow w b o 5) : (loadInts5 (.pointer (some ⟨b, o, none⟩))).run Try.prog w = .ok (.agg (rowAt w b o 5)) w := run_loadAt_has Try.underlying36 rfl Try.infoInts5 h
attribute [local go_sem ↓] loadCells28_fold loadInts5_fold
attribute [local go_sem] loadCells28_has loadInts5_has
set_option maxRecDepth 100000 in
set_option maxHeartbeats 3200000 in
theorem wrow_any (g : Nat) (v : Value) (bs zs : List Int) (w : World) (h : Wr w g v bs) (hz : ∀ z ∈ zs, 0 ≤ z ∧ z < 9223372036854775808) (hl : zs.length = 174) (hn : bs.length ≤ 1000) :
    Calls Try.prog 17 #[.pointer (some ⟨g, 0, none⟩), .agg (iA zs)] w fun e w' => e = .returned (.pointer (some ⟨g, 0, none⟩)) ∧ ∃ v', Wr w' g v' (bs ++ encL (tellRow zs)) ∧ Wrote w w' g v v' := by
  have HZ := hide hz
  have HL := hide hl
  have hi28 := Try.infoCells
  obtain ⟨x0, xs, rfl⟩ : ∃ x0 xs, zs = x0 :: xs := by
    match zs, hl with
    | x0 :: xs, _ => exact ⟨_, _, rfl⟩
  obtain ⟨zs, hzs⟩ : ∃ zs, zs = x0 :: xs := ⟨_, rfl⟩
  rw [← hzs] at HZ HL ⊢
  have HZS := hide hzs
  have hx0 := HZ.out x0 (by rw [hzs]; simp)
  clear hz hl hzs
  have hI : IBlk (w.alloc (.cells (iA zs) 42)) w.heap.size 42 zs := IBlk.new _ _ _
  have hW1 : Wr (w.alloc (.cells (iA zs) 42)) g v bs := h.alloc _
  have hO1 : Wrote w (w.alloc (.cells (iA zs) 42)) g v v := (Wrote.refl _ _ _).first ((Only.refl _ _).alloc _)
  go_enter Try.func17, Try.ntmps17
  go_upto_region 1 with fail
  generalize w.alloc (.cells (iA zs) 42) = w1 at hI hW1 hO1
  generalize w.heap.size = b at hI
  have hcs : ∀ z ∈ (zs.drop 1).take 28, 0 ≤ z ∧ z < 9223372036854775808 := fun z hz => HZ.out z (List.mem_of_mem_drop (List.mem_of_mem_take hz))
  have hcl : ((zs.drop 1).take 28).length = 28 := by rw [List.length_take, List.length_drop, HL.out]; omega
  obtain ⟨cs, hcse⟩ : ∃ cs, cs = (zs.drop 1).take 28 := ⟨_, rfl⟩
  have HC := hide hcse
  rw [← hcse] at hcs hcl
  have HCS := hide hcs
  have HCL := hide hcl
  clear hcse hcs hcl
  have hfar := hW1.far hI (by decide) (by decide)
  have hc0 : w1.drew.cell? ⟨b, 0, none⟩ = some (.int .i64 x0) := hI.drew.cellAt 0 x0 (by rw [HZS.out]; rfl)
  have hI2 : IBlk ((w1.alloc (.cells #[.int .i64 x0] 3)).drew) b 42 zs := (hI.alloc _).drew
  have hN1 : ∀ b', b' = w1.heap.size → Calls Try.prog 10 #[.pointer (some ⟨g, 0, none⟩), .slice (some ⟨b', 0, none⟩) 1 1] ((w1.alloc (.cells #[.int .i64 x0] 3)).drew) fun e w' => e = .returned (.pointer (some ⟨g, 0, none⟩)) ∧ ∃ v2, Wr w' g v2 (bs ++ enc x0) ∧ Wrote w1 w' g v v2 := by
    intro b' hb'
    exact (wnum_one g b' v bs x0 w1.drew hb' hW1.drew hx0.1 (by omega) (by omega)).mono fun e w' ⟨he, v2, h1, h2⟩ => ⟨he, v2, h1, h2.first ((Only.refl _ _).drew)⟩
  have hlen0 := enc_len hx0.2
  have hN2 : ∀ w6 v2, Wr w6 g v2 (bs ++ enc x0) → Wrote w1 w6 g v v2 → Calls Try.prog 36 #[.pointer (some ⟨g, 0, none⟩), .agg (iA cs)] w6 fun e w' => e = .returned (.tuple #[]) ∧ ∃ v3, Wr w' g v3 (bs ++ enc x0 ++ encL cs) ∧ Wrote w1 w' g v v3 := fun w6 v2 h6 o6 =>
    (wcells_any g v2 _ _ w6 h6 HCS.out HCL.out (by simp; omega)).mono fun e w' ⟨he, v3, h1, h2⟩ => ⟨he, v3, h1, o6.trans h2⟩
  go_cut [14] (fun s14 wx => s14 = .tuple #[] ∧ ∃ v3, Wr wx g v3 (bs ++ enc x0 ++ encL cs) ∧ Wrote w1 wx g v v3)
  case first =>
    clear h
    have r_ : ∀ {w'}, IBlk w' b 42 zs → rowAt w' b 1 28 = iA cs := fun h => by rw [HC.out]; exact h.row 1 28 (by rw [HL.out]; decide)
    have h_ : ∀ {w'}, IBlk w' b 42 zs → HasRow w' b 1 28 := fun h => h.has 1 28 (by rw [HL.out]; decide)
    have r0 := r_ hI.drew
    have h0 := h_ hI.drew
    have r2 := r_ hI2
    have h2 := h_ hI2
    go_region_with (first
      | (go_at_call 10; refine (hN1 _ (by simp)).mono ?_; rintro e w6 ⟨rfl, v2, hW6, hO6⟩; have hI6 := hI.only hO6.only hfar; have r6 := r_ hI6; have h6 := h_ hI6)
      | (go_at_call 36; refine (hN2 _ _ hW6 hO6).mono ?_; rintro e w7 ⟨rfl, v3, hW7, hO7⟩; have hI7 := hI.only hO7.only hfar))
    all_goals (go_wp2_with fail; go_meet; exact ⟨rfl, v3, hW7, hO7⟩)
  case rest =>
    clear hN1 hN2 hc0
    obtain ⟨rfl, v3, hW3, hO3⟩ := hcut
    obtain ⟨hs5, hhs⟩ : ∃ hs5, hs5 = (zs.drop 29).take 5 := ⟨_, rfl⟩
    obtain ⟨ls, hls⟩ : ∃ ls, ls = zs.drop 34 := ⟨_, rfl⟩
    have HS := hide hhs
    have HLS := hide hls
    have HSL : Hid (hs5.length = 5) := hide (by rw [hhs, List.length_take, List.length_drop, HL.out]; rfl)
    have HLL : Hid (ls.length = 140) := hide (by rw [hls, List.length_drop, HL.out])
    have hsz : ∀ z ∈ hs5, 0 ≤ z ∧ z < 9223372036854775808 := fun z hz => HZ.out z (by rw [hhs] at hz; exact List.mem_of_mem_drop (List.mem_of_mem_take hz))
    have hlz : ∀ z ∈ ls, 0 ≤ z ∧ z < 9223372036854775808 := fun z hz => HZ.out z (by rw [hls] at hz; exact List.mem_of_mem_drop hz)
    have HSZ := hide hsz
    have HLZ := hide hlz
    have HE : Hid (tellRow zs = (x0 :: cs) ++ tellH hs5 ls) := hide (by
      rw [hhs, hls, HC.out, tellRow]
      congr 1
      rw [HZS.out]; rfl)
    clear hhs hls hsz hlz
    have hIc := hI.only hO3.only hfar
    have hr5 : rowAt wc b 29 5 = iA hs5 := by rw [HS.out]; exact hIc.row 29 5 (by rw [HL.out]; decide)
    have hh5 : HasRow wc b 29 5 := hIc.has 29 5 (by rw [HL.out]; decide)
    obtain ⟨B0, hB0⟩ : ∃ B0, B0 = bs ++ enc x0 ++ encL cs := ⟨_, rfl⟩
    rw [← hB0] at hW3
    have HB0 := hide hB0
    have hbl : B0.length ≤ 1300 := by
      have := encL_len (l := cs) (fun m hm => (HCS.out m hm).2)
      rw [HCL.out] at this
      rw [hB0]; simp; omega
    clear hB0
    go_wp2_with fail
    clear hr5 hh5
    go_loopw [17] (fun i wr => ∃ (k : Nat) (v' : Value), k ≤ 5 ∧ i = .int .i64 k ∧ Wr wr g v' (B0 ++ encL (tellH (hs5.take k) ls)) ∧ Wrote w1 wr g v v') (fun i _ => 5 - (intOf i).toNat)
    case atStart => exact ⟨0, v3, by omega, rfl, by simpa [encL, tellH] using hW3, hO3⟩
    case round =>
      clear hW3 hO3 hIc
      obtain ⟨k, v', hk, rfl, hW, hO⟩ := hrel
      have hlS : (encL (tellH (hs5.take k) ls)).length ≤ 1305 := by
        have h1 := encL_len (l := tellH (hs5.take k) ls) (fun m hm => tellH_bd (P := fun z => z < 9223372036854775808) _ _ (fun z hz => (HSZ.out z (List.mem_of_mem_take hz)).2) (fun z hz => (HLZ.out z hz).2) m hm)
        have h2 := tellH_len (hs5.take k) ls
        rw [List.length_take] at h2
        omega
      by_cases hlt : k < 5
      · have hkz : k < hs5.length := by rw [HSL.out]; exact hlt
        obtain ⟨h, hhe⟩ : ∃ h, h = hs5[k] := ⟨_, rfl⟩
        have hh0 := HSZ.out hs5[k] (List.getElem_mem _)
        rw [← hhe] at hh0
        have hhl := enc_len hh0.2
        have hix : ∀ w, (Instr.index 36 (.agg (iA hs5)) (.int .i64 (k : Int))).run Try.prog w = .ok (.int .i64 h) w := fun w => by
          have := Try.indexInts hs5 k hlt HSL.out w
          rw [show hs5.getD k 0 = h by rw [hhe]; simp [List.getD, hkz]] at this
          exact this
        obtain ⟨ch, hch⟩ : ∃ ch, ch = (ls.drop (28 * k)).take 28 := ⟨_, rfl⟩
        have hchl : ch.length = 28 := by rw [hch, List.length_take, List.length_drop, HLL.out]; omega
        have hchz : ∀ z ∈ ch, 0 ≤ z ∧ z < 9223372036854775808 := fun z hz => HLZ.out z (by rw [hch] at hz; exact List.mem_of_mem_drop (List.mem_of_mem_take hz))
        have hcz : (zs.drop (34 + k * 28)).take 28 = ch := by rw [hch, HLS.out, List.drop_drop, Nat.mul_comm k 28]
        have hT : Hid (encL (tellH (hs5.take (k + 1)) ls) = encL (tellH (hs5.take k) ls) ++ (enc h ++ encL (if 0 < h then ch else []))) := hide (by
          rw [List.take_succ_eq_append_getElem hkz, ← hhe, tellH_snoc, encL_append, encL_cons, show (hs5.take k).length = k by rw [List.length_take, HSL.out]; omega, ← hch])
        have HCH := hide hchl
        have HCZ := hide hchz
        have HCC := hide hcz
        clear hhe hch hchl hchz hcz
        generalize encL (tellH (hs5.take k) ls) = E at hW hT hlS
        have hN := wnum_one g wr.heap.size v' (B0 ++ E) h wr rfl hW hh0.1 (by omega) (by simp; omega)
        by_cases hpos : 0 < h
        · have hT2 : Hid (encL (tellH (hs5.take (k + 1)) ls) = E ++ (enc h ++ encL ch)) := hide (by rw [hT.out, if_pos hpos])
          clear hT
          go_wp2_with (refine wpList_index_i rfl 36 (.tmp 16) (.tmp 17) rfl _ _ rfl rfl _ (hix _) ?_)
          (with_reducible refine hN.mono ?_)
          rintro e w6 ⟨rfl, v6, hW6, hO6⟩
          have hO16 := hO.trans hO6
          have hI6 := hI.only hO16.only hfar
          have hr6 : rowAt w6 b (34 + k * 28) 28 = iA ch := by rw [← HCC.out]; exact hI6.row (34 + k * 28) 28 (by rw [HL.out]; omega)
          have hh6 : HasRow w6 b (34 + k * 28) 28 := hI6.has (34 + k * 28) 28 (by rw [HL.out]; omega)
          go_wp2_with fail
          (with_reducible refine (wcells_any g v6 _ ch w6 hW6 HCZ.out HCH.out (by simp; omega)).mono ?_)
          rintro e w7 ⟨rfl, v7, hW7, hO7⟩
          go_wp2_with fail
          go_roundw
          case rel => exact ⟨k + 1, v7, by omega, by go_num, by rw [hT2.out, ← List.append_assoc, ← List.append_assoc]; exact hW7, hO16.trans hO7⟩
          case measure => simp [intOf]; omega
        · have hT2 : Hid (encL (tellH (hs5.take (k + 1)) ls) = E ++ enc h) := hide (by rw [hT.out, if_neg hpos]; simp [encL])
          have hd : decide (0 < h) = false := by simpa using hpos
          clear hT
          go_wp2_with (refine wpList_index_i rfl 36 (.tmp 16) (.tmp 17) rfl _ _ rfl rfl _ (hix _) ?_)
          (with_reducible refine hN.mono ?_)
          rintro e w6 ⟨rfl, v6, hW6, hO6⟩
          go_wp2_with fail
          go_roundw
          case rel => exact ⟨k + 1, v6, by omega, by go_num, by rw [hT2.out, ← List.append_assoc]; exact hW6, hO.trans hO6⟩
          case measure => simp [intOf]; omega
      · have he : hs5.take k = hs5 := List.take_of_length_le (by rw [HSL.out]; omega)
        rw [he] at hW
        clear he hlS
        go_wp2_with fail
        go_ret
        refine ⟨rfl, v', ?_, hO1.trans hO⟩
        rw [HE.out, encL_append, encL_cons]
        rw [HB0.out] at hW
        simp only [List.append_assoc] at hW ⊢
        exact hW
end Go.Proofs.Ytfhepoihhigcaaa
