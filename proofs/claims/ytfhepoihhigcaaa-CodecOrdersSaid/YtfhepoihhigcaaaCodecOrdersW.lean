/- The walk of CodecOrders: it returns true at all arguments and leaves what was there as it was. -/
import Derived.Test.YtfhepoihhigcaaaCodecRowsW
import Derived.Deep.RegionHeld3
import Derived.Deep.DeepCutAuto
namespace Go.Proofs.Ytfhepoihhigcaaa.codecOrders
open Go.RowKit

/-- Loads and stores of rows, folded: the walk does not open them cell by cell. -/
def loadRow (x : Value) : Sem Value := Instr.loadAt 42 x
theorem loadRow_fold (x : Value) : Instr.loadAt 42 x = loadRow x := rfl
theorem loadRow_has {w : World} {b o : Nat} (h : HasRow w b o 174) : (loadRow (.pointer (some ⟨b, o, none⟩))).run Try.prog w = .ok (.agg (rowAt w b o 174)) w := run_loadAt_has Try.underlying42 rfl Try.infoRow h
def Is174 (ys : List Int) : Prop := ys.length = 174
def storeRow (x v : Value) : Sem Unit := Instr.storeAt 42 x v
theorem storeRow_fold (x v : Value) : Instr.storeAt 42 x v = storeRow x v := rfl
theorem storeRow_has {w : World} {b o : Nat} {ys : List Int} (h : Room w b o 174) (hl : Is174 ys) : (storeRow (.pointer (some ⟨b, o, none⟩)) (.agg (iA ys))).run Try.prog w = .ok () (w.setCells b o (iV ys)) := by
  have hl' : ys.length = 174 := hl
  have := run_storeAt_mid (P := Try.prog) w b o 42 (iA ys) (by rw [iA_size, hl']; exact h) (by rw [iA_size, hl']; exact Try.infoRow) (all_oneCell_toArray (iV_one _))
  rwa [iA_toList] at this
theorem room_cells {w : World} {b o n : Nat} (h : Room w b o n) (b' o' : Nat) (vs : List Value) : Room (w.setCells b' o' vs) b o n := World.there_setCells h b' o' vs
attribute [local go_sem ↓] loadRow_fold storeRow_fold
attribute [local go_sem] loadRow_has storeRow_has

theorem farNew {w w6 : World} {g : Nat} {t : TypeId} {A : Option Addr} {n c : Nat} {xs : List Value} (ho : w.ownsRow w6.heap.size t 1 (.slice A n c) n xs) (hg : g < w6.heap.size) {ad : Addr} (e : A = some ad) : ¬ WrS g (.slice none 0 0) ad.block := by
  have := (own_at ho ad e).1
  rintro (h1 | h1)
  · omega
  · simp [Value.ownBlock] at h1
theorem two_set {w : World} {b1 b2 : Nat} {A B xs ys : List Int} (h1 : IBlk w b1 42 A) (h2 : IBlk w b2 42 B) (hne : b1 ≠ b2) (la : A.length = 174) (lb : B.length = 174) (lx : xs.length = 174) (ly : ys.length = 174) :
    IBlk ((w.setCells b1 0 (iV xs)).setCells b2 0 (iV ys)) b1 42 xs ∧ IBlk ((w.setCells b1 0 (iV xs)).setCells b2 0 (iV ys)) b2 42 ys ∧ Only (fun i => i = b1 ∨ i = b2) w ((w.setCells b1 0 (iV xs)).setCells b2 0 (iV ys)) := by
  have s1 := h1.setN (o := 0) (xs := xs) (by omega)
  rw [show A.take 0 ++ xs ++ A.drop (0 + xs.length) = xs by simp [List.drop_of_length_le, la, lx]] at s1
  have h2' := h2.only (only_cells w b1 0 (iV xs)) (by show ¬ b2 = b1; omega)
  have s2 := h2'.setN (o := 0) (xs := ys) (by omega)
  rw [show B.take 0 ++ ys ++ B.drop (0 + ys.length) = ys by simp [List.drop_of_length_le, lb, ly]] at s2
  refine ⟨s1.only (only_cells _ b2 0 (iV ys)) hne, s2, ?_⟩
  exact ((only_cells w b1 0 (iV xs)).mono fun i _ (e : i = b1) => .inl e).trans (only_cells _ b2 0 (iV ys)) fun i (e : i = b2) => .inl (.inr e)

set_option maxRecDepth 100000 in
set_option maxHeartbeats 4000000 in
theorem walk (w : World) (xz : List Int) (hlx : xz.length = 174) (_ : wf64 xz) (yz : List Int) (hly : yz.length = 174) (_ : wf64 yz) :
    Calls Try.prog 8 #[.agg (iA xz), .agg (iA yz)] w fun e w' => e = .returned (.bool true) ∧ Below w.heap.size w w' := by
  have HX := hide hlx
  have HY := hide hly
  have hI0 : IBlk ((w.alloc (.cells (iA xz) 42)).alloc (.cells (iA yz) 42)) w.heap.size 42 xz := (IBlk.new _ _ _).alloc _
  have hJ0 : IBlk ((w.alloc (.cells (iA xz) 42)).alloc (.cells (iA yz) 42)) (w.heap.size + 1) 42 yz := by
    have := IBlk.new (w.alloc (.cells (iA xz) 42)) 42 yz
    simpa using this
  have hB0 : Below w.heap.size w ((w.alloc (.cells (iA xz) 42)).alloc (.cells (iA yz) 42)) := ((Below.refl _ _).alloc (Nat.le_refl _) _).alloc (by simp) _
  clear hlx hly
  go_enter Try.func8, Try.ntmps8
  go_wp2_with fail
  generalize (w.alloc (.cells (iA xz) 42)).alloc (.cells (iA yz) 42) = w0 at hI0 hJ0 hB0
  refine (fit_any _).mono ?_
  rintro e w1 ⟨rfl, hb1⟩
  have hI1 := hI0.below hb1 hI0.lt
  have hJ1 := hJ0.below hb1 hJ0.lt
  have hB1 := hB0.trans (hb1.mono hB0.size)
  clear hI0 hJ0 hB0 hb1
  go_upto_region 3 with fail
  go_cut [9] (fun s9 wx => s9 = s9 ∧ ∃ xs ys, TS xs 4 5 ∧ TS ys 4 5 ∧ IBlk wx w.heap.size 42 xs ∧ IBlk wx (w.heap.size + 1) 42 ys ∧ Below w.heap.size w wx)
  case first =>
    have row_ : ∀ {w' : World} {b : Nat} {ls : List Int}, ls.length = 174 → IBlk w' b 42 ls → rowAt w' b 0 174 = iA ls := fun hl h => by rw [h.row 0 174 (by omega), List.drop_zero, List.take_of_length_le (Nat.le_of_eq hl)]
    have has_ : ∀ {w' : World} {b : Nat} {ls : List Int}, ls.length = 174 → IBlk w' b 42 ls → HasRow w' b 0 174 := fun hl h => h.has 0 174 (by omega)
    have room_ : ∀ {w' : World} {b : Nat} {ls : List Int}, ls.length = 174 → IBlk w' b 42 ls → Room w' b 0 174 := fun hl h => h.there (by omega)
    have r1 := row_ HX.out hI1.drew
    have r2 := row_ HY.out hJ1.drew
    have h1 := has_ HX.out hI1.drew
    have h2 := has_ HY.out hJ1.drew
    have hB1d := hB1.drew
    have H1 := tame_any xz w1.drew HX.out
    have H2 := fun w2 => tame_any yz w2 HY.out
    go_region_with (first
      | (go_at_call 16; (with_reducible refine H1.mono ?_); rintro e w2 ⟨xs, rfl, hT1, hb2⟩; have hJ2 := hJ1.drew.below hb2 hJ1.lt; have hI2 := hI1.drew.below hb2 hI1.lt; have r3 := row_ HY.out hJ2; have h3 := has_ HY.out hJ2; have e1 : Is174 xs := hT1.1)
      | (go_at_call 16; (with_reducible refine (H2 w2).mono ?_); rintro e w3 ⟨ys, rfl, hT2, hb3⟩; have hJ3 := hJ2.below hb3 hJ2.lt; have hI3 := hI2.below hb3 hI2.lt; have m1 := room_ HX.out hI3; have m2 := room_ HY.out hJ3; have m3 := room_cells m1 (w.heap.size + 1) 0 (iV ys); have m4 := room_cells m2 w.heap.size 0 (iV xs); have e2 : Is174 ys := hT2.1))
    all_goals
      go_wp2_with fail
      go_meet
      have hB2 := hB1d.trans (hb2.mono hB1.size)
      have hB3 := hB2.trans (hb3.mono hB2.size)
      first
        | (obtain ⟨k1, k2, k3⟩ := two_set (xs := xs) (ys := ys) hI3 hJ3 (by omega) HX.out HY.out hT1.1 hT2.1
           exact ⟨trivial, xs, ys, hT1, hT2, k1, k2, below_only hB3 k3 (fun i hi => by rcases hi with rfl | rfl <;> omega) hB3.size⟩)
        | (obtain ⟨k2, k1, k3⟩ := two_set (xs := ys) (ys := xs) hJ3 hI3 (by omega) HY.out HX.out hT2.1 hT1.1
           exact ⟨trivial, xs, ys, hT1, hT2, k1, k2, below_only hB3 k3 (fun i hi => by rcases hi with rfl | rfl <;> omega) hB3.size⟩)
  case rest =>
    obtain ⟨_, xs, ys, hT1, hT2, hI, hJ, hB⟩ := hcut
    have HT1 := hide hT1
    have HT2 := hide hT2
    have L1 : Hid (xs.length = 174) := hide hT1.1
    have L2 : Hid (ys.length = 174) := hide hT2.1
    have wf_ : ∀ {zs : List Int}, TS zs 4 5 → wf64 zs := fun h z hz => by
      have := h.bd z hz
      simp [Lit.wf, IntKind.min, IntKind.max, IntKind.signed, IntKind.bits]; omega
    have hq : ∀ w, (Op.equalIn 10000 42 (.agg (iA xs)) (.agg (iA ys))).run Try.prog w = .ok (decide (xs = ys)) w := fun w => Try.eqRow hT1.1 hT2.1 (wf_ hT1) (wf_ hT2) w
    have hs : ((strOfNums (encL (tellRow xs))).toList == (strOfNums (encL (tellRow ys))).toList) = decide (xs = ys) := by
      rw [strOf_eq (encL_bd _) (encL_bd _)]
      unfold eqB
      exact decide_eq_decide.2 ⟨tellRow_inj hT1 hT2, fun h => by rw [h]⟩
    have len_ : ∀ {zs : List Int}, TS zs 4 5 → (encL (tellRow zs)).length ≤ 1566 := fun {zs} h => by
      have h1 := tellRow_len h.1
      have := encL_len (l := tellRow zs) (fun m hm => (codecRows.tellRow_bd h m hm).2)
      omega
    have N1 := len_ hT1
    have N2 := len_ hT2
    have W1 := fun (g : Nat) (w : World) (h : Wr w g (.slice none 0 0) []) => wrow_any g (.slice none 0 0) [] xs w h hT1.bd hT1.1 (by decide)
    have W2 := fun (g : Nat) (w : World) (h : Wr w g (.slice none 0 0) []) => wrow_any g (.slice none 0 0) [] ys w h hT2.bd hT2.1 (by decide)
    simp only [List.nil_append] at W1 W2
    generalize encL (tellRow xs) = bx at hs N1 W1
    generalize encL (tellRow ys) = by_ at hs N2 W2
    generalize decide (xs = ys) = β at hq hs
    clear hT1 hT2 hI1 hJ1 hB1 wf_ len_
    have hW1 : Wr ((wc.alloc (.cells #[.slice none 0 0] 26)).alloc (.cells #[.slice none 0 0] 26)) wc.heap.size (.slice none 0 0) [] := (Wr.new _).alloc _
    have hW2 : Wr ((wc.alloc (.cells #[.slice none 0 0] 26)).alloc (.cells #[.slice none 0 0] 26)) (wc.heap.size + 1) (.slice none 0 0) [] := by
      have := Wr.new (wc.alloc (.cells #[.slice none 0 0] 26))
      simpa using this
    have hIa := (hI.alloc (.cells #[.slice none 0 0] 26)).alloc (.cells #[.slice none 0 0] 26)
    have hJa := (hJ.alloc (.cells #[.slice none 0 0] 26)).alloc (.cells #[.slice none 0 0] 26)
    have hBa := (hB.alloc hB.size (.cells #[.slice none 0 0] 26)).alloc (by have := hB.size; simp; omega) (.cells #[.slice none 0 0] 26)
    have hsb := hB.size
    go_upto_region 5 with fail
    generalize (wc.alloc (.cells #[.slice none 0 0] 26)).alloc (.cells #[.slice none 0 0] 26) = w4 at hW1 hW2 hIa hJa hBa
    generalize hg : wc.heap.size = g at hW1 hW2 hsb
    clear hI hJ hB hg
    have hs4 := hBa.size
    have gl := hW2.lt
    have sx : ∀ w', IBlk w' w.heap.size 42 xs → IBlk w' (w.heap.size + 1) 42 ys → (rowAt w' w.heap.size 0 174 = iA xs ∧ HasRow w' w.heap.size 0 174 ∧ rowAt w' (w.heap.size + 1) 0 174 = iA ys ∧ HasRow w' (w.heap.size + 1) 0 174) := fun w' h1 h2 =>
      ⟨by rw [h1.row 0 174 (by have := L1.out; omega), List.drop_zero, List.take_of_length_le (Nat.le_of_eq L1.out)], h1.has 0 174 (by have := L1.out; omega), by rw [h2.row 0 174 (by have := L2.out; omega), List.drop_zero, List.take_of_length_le (Nat.le_of_eq L2.out)], h2.has 0 174 (by have := L2.out; omega)⟩
    have hW1d := hW1.drew
    have hW2d := hW2.drew
    have hBd := hBa.drew
    have hId := hIa.drew
    have hJd := hJa.drew
    refine wp_region_noPanic ?_
    refine wp_region_held_drew (S := (fun w' => rowAt w' w.heap.size 0 174 = iA xs ∧ HasRow w' w.heap.size 0 174 ∧ rowAt w' (w.heap.size + 1) 0 174 = iA ys ∧ HasRow w' (w.heap.size + 1) 0 174)) (by kernel_rfl) ?_ (fun hHeld => ?_)
    · first | exact sx _ hIa hJa | exact sx _ hId hJd | exact sx _ hI6 hJ6 | exact sx _ hI7 hJ7 | exact sx _ hI8 hJ8 | exact sx _ hI9 hJ9
    refine wpAnyH_take (i := 0) (oi := _) (v := ?_) (by simp only [List.getElem?_toArray, List.getElem?_cons_zero]; rfl) (by kernel_rfl) (by kernel_rfl) (by kernel_rfl) (by exact fun _ _ _ h => h) (Or.inl ⟨by rfl, ?_⟩) (by assumption) ?_
    rotate_left
    · intro w hSw
      try dsimp only at hSw
      go_simp
      try with_reducible rfl
    try simp only [Act.put, List.setIfInBounds_toArray, List.set_cons_zero, List.set_cons_succ]
    refine wpAnyH_take (i := 4) (oi := _) (v := ?_) (by simp only [List.getElem?_toArray, List.getElem?_cons_succ, List.getElem?_cons_zero]; rfl) (by kernel_rfl) (by kernel_rfl) (by kernel_rfl) (by exact fun _ _ _ h => h) (Or.inl ⟨by rfl, ?_⟩) (by assumption) ?_
    rotate_left
    · intro w hSw
      try dsimp only at hSw
      go_simp
      try with_reducible rfl
    try simp only [Act.put, List.setIfInBounds_toArray, List.set_cons_zero, List.set_cons_succ]
    refine wpAnyH_take (i := 9) (oi := _) (v := ?_) (by simp only [List.getElem?_toArray, List.getElem?_cons_succ, List.getElem?_cons_zero]; rfl) (by kernel_rfl) (by kernel_rfl) (by kernel_rfl) (by exact fun _ _ _ h => h) (Or.inl ⟨by rfl, ?_⟩) (by assumption) ?_
    rotate_left
    · intro w hSw
      try dsimp only at hSw
      go_simp
      try with_reducible rfl
    try simp only [Act.put, List.setIfInBounds_toArray, List.set_cons_zero, List.set_cons_succ]
    refine wpAnyH_take (i := 10) (oi := _) (v := ?_) (by simp only [List.getElem?_toArray, List.getElem?_cons_succ, List.getElem?_cons_zero]; rfl) (by kernel_rfl) (by kernel_rfl) (by kernel_rfl) (by exact fun _ _ _ h => h) (Or.inl ⟨by rfl, ?_⟩) (by assumption) ?_
    rotate_left
    · intro w hSw
      try dsimp only at hSw
      go_simp
      try with_reducible rfl
    try simp only [Act.put, List.setIfInBounds_toArray, List.set_cons_zero, List.set_cons_succ]
    refine wpAnyH_take (i := 11) (oi := _) (v := ?_) (by simp only [List.getElem?_toArray, List.getElem?_cons_succ, List.getElem?_cons_zero]; rfl) (by kernel_rfl) (by kernel_rfl) (by kernel_rfl) (by exact fun _ _ _ h => h) (Or.inl ⟨by rfl, ?_⟩) (by assumption) ?_
    rotate_left
    · intro w hSw
      try dsimp only at hSw
      go_simp
      try with_reducible rfl
    try simp only [Act.put, List.setIfInBounds_toArray, List.set_cons_zero, List.set_cons_succ]
    refine wpAnyH_ready (rs := [1]) (by kernel_rfl) (by simp) ?_
    refine AllReadyH.cons (o := _) (by simp only [List.getElem?_toArray, List.getElem?_cons_succ, List.getElem?_cons_zero]; rfl) (fun K hK => ?_) ?_
    · go_simp
      go_at_call 17
      (with_reducible refine (W1 _ _ hW1d).mono ?_)
      rintro e w6 ⟨rfl, v6, hW6, hO6⟩
      have hI6 := hId.only hO6.only (hW1d.far hId (by decide) (by decide))
      have hJ6 := hJd.only hO6.only (hW1d.far hJd (by decide) (by decide))
      have hV6 := (hW1d.step hW2d (by omega) (by simp [Sep, Value.ownBlock]) hO6).1
      have hB6 := hO6.below hBd (by omega) (by simp [Value.ownBlock]) hBd.size
      try go_wp2_with fail
      refine hK.out _ _ ?_ (fun hHeld => ?_)
      · first | exact sx _ hIa hJa | exact sx _ hId hJd | exact sx _ hI6 hJ6 | exact sx _ hI7 hJ7 | exact sx _ hI8 hJ8 | exact sx _ hI9 hJ9
      clear hK K
      try simp only [Act.put, List.setIfInBounds_toArray, List.set_cons_zero, List.set_cons_succ]
      refine wpAnyH_ready (rs := [2]) (by kernel_rfl) (by simp) ?_
      refine AllReadyH.cons (o := _) (by simp only [List.getElem?_toArray, List.getElem?_cons_succ, List.getElem?_cons_zero]; rfl) (fun K hK => ?_) ?_
      · go_simp
        go_at_call 12
        (with_reducible refine (bytes_any _ v6 bx w6 hW6 (by omega)).mono ?_)
        rintro e w7 ⟨v7, rfl, hown7, hb7⟩
        obtain ⟨A7, c7, rfl⟩ := own_slice hown7
        have hI7 := hI6.below hb7 hI6.lt
        have hJ7 := hJ6.below hb7 hJ6.lt
        have hV7 := hV6.only (only_of_below hb7 (fun _ => False)) (fun h => h) (fun _ _ h => h)
        have hB7 := hB6.trans (hb7.mono hB6.size)
        have k7 := reads_string (Reads.of_own hown7) c7
        have hgl := hV6.lt
        try go_wp2_with fail
        refine hK.out _ _ ?_ (fun hHeld => ?_)
        · first | exact sx _ hIa hJa | exact sx _ hId hJd | exact sx _ hI6 hJ6 | exact sx _ hI7 hJ7 | exact sx _ hI8 hJ8 | exact sx _ hI9 hJ9
        clear hK K
        try simp only [Act.put, List.setIfInBounds_toArray, List.set_cons_zero, List.set_cons_succ]
        refine wpAnyH_ready (rs := [3, 5]) (by kernel_rfl) (by simp) ?_
        refine AllReadyH.cons (o := _) (by simp only [List.getElem?_toArray, List.getElem?_cons_succ, List.getElem?_cons_zero]; rfl) (fun K hK => ?_) ?_
        · go_simp
          refine hK.out _ _ ?_ (fun hHeld => ?_)
          · first | exact sx _ hIa hJa | exact sx _ hId hJd | exact sx _ hI6 hJ6 | exact sx _ hI7 hJ7 | exact sx _ hI8 hJ8 | exact sx _ hI9 hJ9
          clear hK K
          try simp only [Act.put, List.setIfInBounds_toArray, List.set_cons_zero, List.set_cons_succ]
          refine wpAnyH_ready (rs := [5]) (by kernel_rfl) (by simp) ?_
          refine AllReadyH.cons (o := _) (by simp only [List.getElem?_toArray, List.getElem?_cons_succ, List.getElem?_cons_zero]; rfl) (fun K hK => ?_) ?_
          · go_simp
            go_at_call 17
            (with_reducible refine (W2 _ _ hV7).mono ?_)
            rintro e w8 ⟨rfl, v8, hW8, hO8⟩
            have hI8 := hI7.only hO8.only (hV7.far hI7 (by decide) (by decide))
            have hJ8 := hJ7.only hO8.only (hV7.far hJ7 (by decide) (by decide))
            have hB8 := hO8.below hB7 (by omega) (by simp [Value.ownBlock]) hB7.size
            have hr8 := (Reads.of_own hown7).only hO8.only (Nat.le_refl _) (fun ad e => farNew hown7 hgl e)
            have k8 := reads_string hr8 c7
            try go_wp2_with fail
            refine hK.out _ _ ?_ (fun hHeld => ?_)
            · first | exact sx _ hIa hJa | exact sx _ hId hJd | exact sx _ hI6 hJ6 | exact sx _ hI7 hJ7 | exact sx _ hI8 hJ8 | exact sx _ hI9 hJ9
            clear hK K
            try simp only [Act.put, List.setIfInBounds_toArray, List.set_cons_zero, List.set_cons_succ]
            refine wpAnyH_ready (rs := [6]) (by kernel_rfl) (by simp) ?_
            refine AllReadyH.cons (o := _) (by simp only [List.getElem?_toArray, List.getElem?_cons_succ, List.getElem?_cons_zero]; rfl) (fun K hK => ?_) ?_
            · go_simp
              go_at_call 12
              (with_reducible refine (bytes_any _ v8 by_ w8 hW8 (by omega)).mono ?_)
              rintro e w9 ⟨v9, rfl, hown9, hb9⟩
              obtain ⟨A9, c9, rfl⟩ := own_slice hown9
              have hI9 := hI8.below hb9 hI8.lt
              have hJ9 := hJ8.below hb9 hJ8.lt
              have hB9 := hB8.trans (hb9.mono hB8.size)
              have k9 := reads_string (Reads.of_own hown9) c9
              have k10 := reads_string ((hr8.more hO8.only.size).below hb9) c7
              try go_wp2_with fail
              refine hK.out _ _ ?_ (fun hHeld => ?_)
              · first | exact sx _ hIa hJa | exact sx _ hId hJd | exact sx _ hI6 hJ6 | exact sx _ hI7 hJ7 | exact sx _ hI8 hJ8 | exact sx _ hI9 hJ9
              clear hK K
              try simp only [Act.put, List.setIfInBounds_toArray, List.set_cons_zero, List.set_cons_succ]
              refine wpAnyH_ready (rs := [7]) (by kernel_rfl) (by simp) ?_
              refine AllReadyH.cons (o := _) (by simp only [List.getElem?_toArray, List.getElem?_cons_succ, List.getElem?_cons_zero]; rfl) (fun K hK => ?_) ?_
              · go_simp
                refine hK.out _ _ ?_ (fun hHeld => ?_)
                · first | exact sx _ hIa hJa | exact sx _ hId hJd | exact sx _ hI6 hJ6 | exact sx _ hI7 hJ7 | exact sx _ hI8 hJ8 | exact sx _ hI9 hJ9
                clear hK K
                try simp only [Act.put, List.setIfInBounds_toArray, List.set_cons_zero, List.set_cons_succ]
                refine wpAnyH_take (i := 8) (oi := _) (v := ?_) (by simp only [List.getElem?_toArray, List.getElem?_cons_succ, List.getElem?_cons_zero]; rfl) (by kernel_rfl) (by kernel_rfl) (by kernel_rfl) (by exact fun _ _ _ h => h) (Or.inl ⟨by rfl, ?_⟩) (by assumption) ?_
                rotate_left
                · intro w hSw
                  try dsimp only at hSw
                  go_simp
                  try with_reducible rfl
                try simp only [Act.put, List.setIfInBounds_toArray, List.set_cons_zero, List.set_cons_succ]
                refine wpAnyH_take (i := 12) (oi := _) (v := ?_) (by simp only [List.getElem?_toArray, List.getElem?_cons_succ, List.getElem?_cons_zero]; rfl) (by kernel_rfl) (by kernel_rfl) (by kernel_rfl) (by exact fun _ _ _ h => h) (Or.inl ⟨by rfl, ?_⟩) (by assumption) ?_
                rotate_left
                · intro w hSw
                  try dsimp only at hSw
                  go_simp
                  try with_reducible rfl
                try simp only [Act.put, List.setIfInBounds_toArray, List.set_cons_zero, List.set_cons_succ]
                refine wpAnyH_take (i := 13) (oi := _) (v := ?_) (by simp only [List.getElem?_toArray, List.getElem?_cons_succ, List.getElem?_cons_zero]; rfl) (by kernel_rfl) (by kernel_rfl) (by kernel_rfl) (by exact fun _ _ _ h => h) (Or.inl ⟨by rfl, ?_⟩) (by assumption) ?_
                rotate_left
                · intro w hSw
                  try dsimp only at hSw
                  go_simp
                  try with_reducible rfl
                try simp only [Act.put, List.setIfInBounds_toArray, List.set_cons_zero, List.set_cons_succ]
                refine wpAnyH_done (by kernel_rfl) ?_ _
                refine NoPanic.normal ?_
                go_wp2_with fail
                go_ret
                exact ⟨by first | rfl | simp, hB9⟩
              exact AllReadyH.nil
            exact AllReadyH.nil
          exact AllReadyH.nil
        refine AllReadyH.cons (o := _) (by simp only [List.getElem?_toArray, List.getElem?_cons_succ, List.getElem?_cons_zero]; rfl) (fun K hK => ?_) ?_
        · go_simp
          go_at_call 17
          (with_reducible refine (W2 _ _ hV7).mono ?_)
          rintro e w8 ⟨rfl, v8, hW8, hO8⟩
          have hI8 := hI7.only hO8.only (hV7.far hI7 (by decide) (by decide))
          have hJ8 := hJ7.only hO8.only (hV7.far hJ7 (by decide) (by decide))
          have hB8 := hO8.below hB7 (by omega) (by simp [Value.ownBlock]) hB7.size
          have hr8 := (Reads.of_own hown7).only hO8.only (Nat.le_refl _) (fun ad e => farNew hown7 hgl e)
          have k8 := reads_string hr8 c7
          try go_wp2_with fail
          refine hK.out _ _ ?_ (fun hHeld => ?_)
          · first | exact sx _ hIa hJa | exact sx _ hId hJd | exact sx _ hI6 hJ6 | exact sx _ hI7 hJ7 | exact sx _ hI8 hJ8 | exact sx _ hI9 hJ9
          clear hK K
          try simp only [Act.put, List.setIfInBounds_toArray, List.set_cons_zero, List.set_cons_succ]
          refine wpAnyH_ready (rs := [3, 6]) (by kernel_rfl) (by simp) ?_
          refine AllReadyH.cons (o := _) (by simp only [List.getElem?_toArray, List.getElem?_cons_succ, List.getElem?_cons_zero]; rfl) (fun K hK => ?_) ?_
          · go_simp
            refine hK.out _ _ ?_ (fun hHeld => ?_)
            · first | exact sx _ hIa hJa | exact sx _ hId hJd | exact sx _ hI6 hJ6 | exact sx _ hI7 hJ7 | exact sx _ hI8 hJ8 | exact sx _ hI9 hJ9
            clear hK K
            try simp only [Act.put, List.setIfInBounds_toArray, List.set_cons_zero, List.set_cons_succ]
            refine wpAnyH_ready (rs := [6]) (by kernel_rfl) (by simp) ?_
            refine AllReadyH.cons (o := _) (by simp only [List.getElem?_toArray, List.getElem?_cons_succ, List.getElem?_cons_zero]; rfl) (fun K hK => ?_) ?_
            · go_simp
              go_at_call 12
              (with_reducible refine (bytes_any _ v8 by_ w8 hW8 (by omega)).mono ?_)
              rintro e w9 ⟨v9, rfl, hown9, hb9⟩
              obtain ⟨A9, c9, rfl⟩ := own_slice hown9
              have hI9 := hI8.below hb9 hI8.lt
              have hJ9 := hJ8.below hb9 hJ8.lt
              have hB9 := hB8.trans (hb9.mono hB8.size)
              have k9 := reads_string (Reads.of_own hown9) c9
              have k10 := reads_string ((hr8.more hO8.only.size).below hb9) c7
              try go_wp2_with fail
              refine hK.out _ _ ?_ (fun hHeld => ?_)
              · first | exact sx _ hIa hJa | exact sx _ hId hJd | exact sx _ hI6 hJ6 | exact sx _ hI7 hJ7 | exact sx _ hI8 hJ8 | exact sx _ hI9 hJ9
              clear hK K
              try simp only [Act.put, List.setIfInBounds_toArray, List.set_cons_zero, List.set_cons_succ]
              refine wpAnyH_ready (rs := [7]) (by kernel_rfl) (by simp) ?_
              refine AllReadyH.cons (o := _) (by simp only [List.getElem?_toArray, List.getElem?_cons_succ, List.getElem?_cons_zero]; rfl) (fun K hK => ?_) ?_
              · go_simp
                refine hK.out _ _ ?_ (fun hHeld => ?_)
                · first | exact sx _ hIa hJa | exact sx _ hId hJd | exact sx _ hI6 hJ6 | exact sx _ hI7 hJ7 | exact sx _ hI8 hJ8 | exact sx _ hI9 hJ9
                clear hK K
                try simp only [Act.put, List.setIfInBounds_toArray, List.set_cons_zero, List.set_cons_succ]
                refine wpAnyH_take (i := 8) (oi := _) (v := ?_) (by simp only [List.getElem?_toArray, List.getElem?_cons_succ, List.getElem?_cons_zero]; rfl) (by kernel_rfl) (by kernel_rfl) (by kernel_rfl) (by exact fun _ _ _ h => h) (Or.inl ⟨by rfl, ?_⟩) (by assumption) ?_
                rotate_left
                · intro w hSw
                  try dsimp only at hSw
                  go_simp
                  try with_reducible rfl
                try simp only [Act.put, List.setIfInBounds_toArray, List.set_cons_zero, List.set_cons_succ]
                refine wpAnyH_take (i := 12) (oi := _) (v := ?_) (by simp only [List.getElem?_toArray, List.getElem?_cons_succ, List.getElem?_cons_zero]; rfl) (by kernel_rfl) (by kernel_rfl) (by kernel_rfl) (by exact fun _ _ _ h => h) (Or.inl ⟨by rfl, ?_⟩) (by assumption) ?_
                rotate_left
                · intro w hSw
                  try dsimp only at hSw
                  go_simp
                  try with_reducible rfl
                try simp only [Act.put, List.setIfInBounds_toArray, List.set_cons_zero, List.set_cons_succ]
                refine wpAnyH_take (i := 13) (oi := _) (v := ?_) (by simp only [List.getElem?_toArray, List.getElem?_cons_succ, List.getElem?_cons_zero]; rfl) (by kernel_rfl) (by kernel_rfl) (by kernel_rfl) (by exact fun _ _ _ h => h) (Or.inl ⟨by rfl, ?_⟩) (by assumption) ?_
                rotate_left
                · intro w hSw
                  try dsimp only at hSw
                  go_simp
                  try with_reducible rfl
                try simp only [Act.put, List.setIfInBounds_toArray, List.set_cons_zero, List.set_cons_succ]
                refine wpAnyH_done (by kernel_rfl) ?_ _
                refine NoPanic.normal ?_
                go_wp2_with fail
                go_ret
                exact ⟨by first | rfl | simp, hB9⟩
              exact AllReadyH.nil
            exact AllReadyH.nil
          refine AllReadyH.cons (o := _) (by simp only [List.getElem?_toArray, List.getElem?_cons_succ, List.getElem?_cons_zero]; rfl) (fun K hK => ?_) ?_
          · go_simp
            go_at_call 12
            (with_reducible refine (bytes_any _ v8 by_ w8 hW8 (by omega)).mono ?_)
            rintro e w9 ⟨v9, rfl, hown9, hb9⟩
            obtain ⟨A9, c9, rfl⟩ := own_slice hown9
            have hI9 := hI8.below hb9 hI8.lt
            have hJ9 := hJ8.below hb9 hJ8.lt
            have hB9 := hB8.trans (hb9.mono hB8.size)
            have k9 := reads_string (Reads.of_own hown9) c9
            have k10 := reads_string ((hr8.more hO8.only.size).below hb9) c7
            try go_wp2_with fail
            refine hK.out _ _ ?_ (fun hHeld => ?_)
            · first | exact sx _ hIa hJa | exact sx _ hId hJd | exact sx _ hI6 hJ6 | exact sx _ hI7 hJ7 | exact sx _ hI8 hJ8 | exact sx _ hI9 hJ9
            clear hK K
            try simp only [Act.put, List.setIfInBounds_toArray, List.set_cons_zero, List.set_cons_succ]
            refine wpAnyH_ready (rs := [3, 7]) (by kernel_rfl) (by simp) ?_
            refine AllReadyH.cons (o := _) (by simp only [List.getElem?_toArray, List.getElem?_cons_succ, List.getElem?_cons_zero]; rfl) (fun K hK => ?_) ?_
            · go_simp
              refine hK.out _ _ ?_ (fun hHeld => ?_)
              · first | exact sx _ hIa hJa | exact sx _ hId hJd | exact sx _ hI6 hJ6 | exact sx _ hI7 hJ7 | exact sx _ hI8 hJ8 | exact sx _ hI9 hJ9
              clear hK K
              try simp only [Act.put, List.setIfInBounds_toArray, List.set_cons_zero, List.set_cons_succ]
              refine wpAnyH_ready (rs := [7]) (by kernel_rfl) (by simp) ?_
              refine AllReadyH.cons (o := _) (by simp only [List.getElem?_toArray, List.getElem?_cons_succ, List.getElem?_cons_zero]; rfl) (fun K hK => ?_) ?_
              · go_simp
                refine hK.out _ _ ?_ (fun hHeld => ?_)
                · first | exact sx _ hIa hJa | exact sx _ hId hJd | exact sx _ hI6 hJ6 | exact sx _ hI7 hJ7 | exact sx _ hI8 hJ8 | exact sx _ hI9 hJ9
                clear hK K
                try simp only [Act.put, List.setIfInBounds_toArray, List.set_cons_zero, List.set_cons_succ]
                refine wpAnyH_take (i := 8) (oi := _) (v := ?_) (by simp only [List.getElem?_toArray, List.getElem?_cons_succ, List.getElem?_cons_zero]; rfl) (by kernel_rfl) (by kernel_rfl) (by kernel_rfl) (by exact fun _ _ _ h => h) (Or.inl ⟨by rfl, ?_⟩) (by assumption) ?_
                rotate_left
                · intro w hSw
                  try dsimp only at hSw
                  go_simp
                  try with_reducible rfl
                try simp only [Act.put, List.setIfInBounds_toArray, List.set_cons_zero, List.set_cons_succ]
                refine wpAnyH_take (i := 12) (oi := _) (v := ?_) (by simp only [List.getElem?_toArray, List.getElem?_cons_succ, List.getElem?_cons_zero]; rfl) (by kernel_rfl) (by kernel_rfl) (by kernel_rfl) (by exact fun _ _ _ h => h) (Or.inl ⟨by rfl, ?_⟩) (by assumption) ?_
                rotate_left
                · intro w hSw
                  try dsimp only at hSw
                  go_simp
                  try with_reducible rfl
                try simp only [Act.put, List.setIfInBounds_toArray, List.set_cons_zero, List.set_cons_succ]
                refine wpAnyH_take (i := 13) (oi := _) (v := ?_) (by simp only [List.getElem?_toArray, List.getElem?_cons_succ, List.getElem?_cons_zero]; rfl) (by kernel_rfl) (by kernel_rfl) (by kernel_rfl) (by exact fun _ _ _ h => h) (Or.inl ⟨by rfl, ?_⟩) (by assumption) ?_
                rotate_left
                · intro w hSw
                  try dsimp only at hSw
                  go_simp
                  try with_reducible rfl
                try simp only [Act.put, List.setIfInBounds_toArray, List.set_cons_zero, List.set_cons_succ]
                refine wpAnyH_done (by kernel_rfl) ?_ _
                refine NoPanic.normal ?_
                go_wp2_with fail
                go_ret
                exact ⟨by first | rfl | simp, hB9⟩
              exact AllReadyH.nil
            refine AllReadyH.cons (o := _) (by simp only [List.getElem?_toArray, List.getElem?_cons_succ, List.getElem?_cons_zero]; rfl) (fun K hK => ?_) ?_
            · go_simp
              refine hK.out _ _ ?_ (fun hHeld => ?_)
              · first | exact sx _ hIa hJa | exact sx _ hId hJd | exact sx _ hI6 hJ6 | exact sx _ hI7 hJ7 | exact sx _ hI8 hJ8 | exact sx _ hI9 hJ9
              clear hK K
              try simp only [Act.put, List.setIfInBounds_toArray, List.set_cons_zero, List.set_cons_succ]
              refine wpAnyH_ready (rs := [3]) (by kernel_rfl) (by simp) ?_
              refine AllReadyH.cons (o := _) (by simp only [List.getElem?_toArray, List.getElem?_cons_succ, List.getElem?_cons_zero]; rfl) (fun K hK => ?_) ?_
              · go_simp
                refine hK.out _ _ ?_ (fun hHeld => ?_)
                · first | exact sx _ hIa hJa | exact sx _ hId hJd | exact sx _ hI6 hJ6 | exact sx _ hI7 hJ7 | exact sx _ hI8 hJ8 | exact sx _ hI9 hJ9
                clear hK K
                try simp only [Act.put, List.setIfInBounds_toArray, List.set_cons_zero, List.set_cons_succ]
                refine wpAnyH_take (i := 8) (oi := _) (v := ?_) (by simp only [List.getElem?_toArray, List.getElem?_cons_succ, List.getElem?_cons_zero]; rfl) (by kernel_rfl) (by kernel_rfl) (by kernel_rfl) (by exact fun _ _ _ h => h) (Or.inl ⟨by rfl, ?_⟩) (by assumption) ?_
                rotate_left
                · intro w hSw
                  try dsimp only at hSw
                  go_simp
                  try with_reducible rfl
                try simp only [Act.put, List.setIfInBounds_toArray, List.set_cons_zero, List.set_cons_succ]
                refine wpAnyH_take (i := 12) (oi := _) (v := ?_) (by simp only [List.getElem?_toArray, List.getElem?_cons_succ, List.getElem?_cons_zero]; rfl) (by kernel_rfl) (by kernel_rfl) (by kernel_rfl) (by exact fun _ _ _ h => h) (Or.inl ⟨by rfl, ?_⟩) (by assumption) ?_
                rotate_left
                · intro w hSw
                  try dsimp only at hSw
                  go_simp
                  try with_reducible rfl
                try simp only [Act.put, List.setIfInBounds_toArray, List.set_cons_zero, List.set_cons_succ]
                refine wpAnyH_take (i := 13) (oi := _) (v := ?_) (by simp only [List.getElem?_toArray, List.getElem?_cons_succ, List.getElem?_cons_zero]; rfl) (by kernel_rfl) (by kernel_rfl) (by kernel_rfl) (by exact fun _ _ _ h => h) (Or.inl ⟨by rfl, ?_⟩) (by assumption) ?_
                rotate_left
                · intro w hSw
                  try dsimp only at hSw
                  go_simp
                  try with_reducible rfl
                try simp only [Act.put, List.setIfInBounds_toArray, List.set_cons_zero, List.set_cons_succ]
                refine wpAnyH_done (by kernel_rfl) ?_ _
                refine NoPanic.normal ?_
                go_wp2_with fail
                go_ret
                exact ⟨by first | rfl | simp, hB9⟩
              exact AllReadyH.nil
            exact AllReadyH.nil
          exact AllReadyH.nil
        exact AllReadyH.nil
      exact AllReadyH.nil
    exact AllReadyH.nil
end Go.Proofs.Ytfhepoihhigcaaa.codecOrders
