/- The record that stands behind a log's. -/
import Derived.Test.YtccdifplpbnclaaDoorWalE
import Derived.Test.YtccdifplpbnclaaDoorDskR
import Derived.Deep.DeepCutAuto
namespace Go.Proofs.YtccdifplpbnclaaDoor
open Go.RowKit Go.Maps

attribute [local go_sem ↓] loadS_fold storeS_fold allocS_fold sliceL_fold makeSecF_fold
attribute [local go_sem] loadS_has storeS_has allocS_run sliceL_7 makeSecF_run

/-! ### append of bytes, as a function of the world -/
def app8F (x : Array Value) : Sem Value := Builtin.append_ #[33, 33] 33 x
theorem app8F_fold (x : Array Value) : Builtin.append_ #[33, 33] 33 x = app8F x := rfl
def HasApp8 (w : World) (v x : Value) : Prop := ∃ p : Value × World, (app8F #[v, x]).run Tryd.prog w = .ok p.1 p.2
open Classical in
noncomputable def app8P (w : World) (v x : Value) : Value × World := if h : HasApp8 w v x then Classical.choose h else (v, w)
theorem app8F_has {w : World} {v x : Value} (h : HasApp8 w v x) : (app8F #[v, x]).run Tryd.prog w = .ok (app8P w v x).1 (app8P w v x).2 := by
  unfold app8P
  rw [dif_pos h]
  exact Classical.choose_spec h
theorem app8_any {w : World} {base n : Nat} {v : Value} {xs : List Value} (hown : w.ownsRow base 5 1 v n xs) {B : Nat} {A : Option Addr} {m c : Nat} {zs : List Int} (hr : Reads w B 1 A m (u8V zs)) (h1 : n + m ≤ 100000) (hb : base ≤ w.heap.size) :
    HasApp8 w v (.slice A m c) ∧ ∀ p, app8P w v (.slice A m c) = p → p.2.ownsRow base 5 1 p.1 (n + m) (xs ++ u8V zs) ∧ w.grownBy p.2 v.ownBlock := by
  obtain ⟨i, hi, hz, hsz, hby⟩ := info_parts Tryd.infoByte
  obtain ⟨v', w', hrun, h2, h3, _⟩ := run_append_any (P := Tryd.prog) w base 33 33 5 i _ 1 1 Tryd.underlying33 hi hz hsz hby rfl (by decide) v n xs hown B A m c (u8V zs) hr (u8V_one zs) (by unfold maxLen; omega) (by omega) hb
  have hh : HasApp8 w v (.slice A m c) := ⟨(v', w'), hrun⟩
  refine ⟨hh, ?_⟩
  rintro p rfl
  have e := (app8F_has hh).symm.trans (show (app8F #[v, .slice A m c]).run Tryd.prog w = .ok v' w' from hrun)
  generalize app8P w v (.slice A m c) = p at e
  obtain ⟨a, w2⟩ := p
  simp only [Result.ok.injEq] at e
  obtain ⟨rfl, rfl⟩ := e
  exact ⟨h2, h3⟩
attribute [local go_sem ↓] app8F_fold
attribute [local go_sem] app8F_has

theorem sect_at {s : List Int} (h : Sect s) {i : Nat} (hi : i < 64) : ∃ m : Nat, s.getD i 0 = (m : Int) ∧ m ≤ 255 ∧ s[i]? = some (m : Int) := by
  have hl : i < s.length := by rw [h.1]; exact hi
  have := bounds_u8 (h.2 s[i] (List.getElem_mem _))
  refine ⟨s[i].toNat, ?_, by omega, ?_⟩
  · rw [List.getD_eq_getElem?_getD, List.getElem?_eq_getElem hl]; simp; omega
  · rw [List.getElem?_eq_getElem hl]; simp; omega
theorem u8V_at {s : List Int} {i m : Nat} (h : s[i]? = some (m : Int)) : (u8V s)[i]? = some (.int .u8 m) := by simp [u8V, h]
theorem readF_nil (f : Sects) (x : Int) : readF f [] x = f x := rfl
theorem bytesOf_succ (f : Sects) (a j : Nat) : bytesOf f a (j + 1) = bytesOf f a j ++ ((f ((a + j : Nat) : Int)).drop 7).take (sizeB (f ((a + j : Nat) : Int))) := by
  simp [bytesOf, List.range_succ, List.flatMap_append]
theorem bytesOf_len {f : Sects} (a : Nat) : ∀ j, (bytesOf f a j).length ≤ 52 * j
  | 0 => by simp [bytesOf]
  | j + 1 => by
    rw [bytesOf_succ, List.length_append, List.length_take]
    have := bytesOf_len (f := f) a j
    have : sizeB (f ((a + j : Nat) : Int)) ≤ 52 := Nat.min_le_right _ _
    omega
theorem bytesOf_bd {f : Sects} (hf : ∀ y, Sect (f y)) (a : Nat) : ∀ j, bytes8 (bytesOf f a j)
  | 0 => by intro z hz; simp [bytesOf] at hz
  | j + 1 => by
    intro z hz
    rw [bytesOf_succ] at hz
    rcases List.mem_append.1 hz with hz | hz
    · exact bytesOf_bd hf a j z hz
    · have := bounds_u8 ((hf _).2 z (List.mem_of_mem_drop (List.mem_of_mem_take hz)))
      omega
theorem foundL_len (f : Sects) (a c : Nat) : (foundL f a c).length = c := by simp [foundL]
theorem foundL_sects {f : Sects} (hf : ∀ y, Sect (f y)) (a c : Nat) : Sects64 (foundL f a c) := fun s hs => by
  obtain ⟨j, _, rfl⟩ := List.mem_map.1 hs
  exact hf _
theorem foundL_at (f : Sects) (a c : Nat) {j : Nat} (hj : j < (foundL f a c).length) : (foundL f a c)[j] = f ((a + j : Nat) : Int) := by simp [foundL]

/-- An owned slice: how long it is, what it could hold. -/
theorem own_form {w : World} {base n size : Nat} {e : TypeId} {v : Value} {xs : List Value} (h : w.ownsRow base e size v n xs) : ∃ A c, v = .slice A n c ∧ n ≤ c ∧ c ≤ maxLen := by
  rcases h.2 with ⟨rfl, rfl⟩ | ⟨g, cap, cur, rfl, _, _, h1, h2, _⟩
  · exact ⟨_, _, rfl, Nat.le_refl _, Nat.zero_le _⟩
  · exact ⟨_, _, rfl, h1, h2⟩
theorem VBlk.readsAt {w : World} {g B : Nat} {t : TypeId} {vs : List Value} (h : VBlk w g t vs) (o n : Nat) (hn : o + n ≤ vs.length) (hB : g < B) : Reads w B 1 (some ⟨g, o, none⟩) n ((vs.drop o).take n) :=
  ⟨by rw [List.length_take, List.length_drop]; omega, fun _ => ⟨_, rfl, hB, fun j u hu => by
    rw [Go.WideShapes.add_plain]
    refine h.cellAt ?_
    rw [List.getElem?_take] at hu
    split at hu
    · rwa [List.getElem?_drop] at hu
    · cases hu⟩⟩
theorem Read_nil (w : World) (B : Nat → Prop) (d N : Nat) (S : DS) (x : Int) (h : DiskAt w B d N S) (hN : N < 50000) (hx : Key x) (hws : S.ws = []) :
    Calls Tryd.prog 29 #[.pointer (some ⟨d, 0, none⟩), .int .i64 x] w fun e w' => e = .returned (secV (S.f x)) ∧ Below w.heap.size w w' := by
  have := Read_runs w B d N S x h hN hx
  rw [hws] at this
  exact this
theorem new_fill {n0 : Nat} {w0 w : World} {s : List Int} (hs : Sect s) (hB : Below n0 w0 w) (hn : n0 ≤ w.heap.size) :
    Room (w.alloc (.cells (u8V zs64).toArray 61)) w.heap.size 0 64 ∧ n0 ≤ w.heap.size ∧ VBlk ((w.alloc (.cells (u8V zs64).toArray 61)).setCells w.heap.size 0 (u8V s)) w.heap.size 61 (u8V s) ∧ Below n0 w0 ((w.alloc (.cells (u8V zs64).toArray 61)).setCells w.heap.size 0 (u8V s)) := by
  have a := VBlk.new w 61 (u8V zs64)
  exact ⟨a.room 0 64 (by decide), hn, a.fill (by rw [hs.vlen]; rfl), below_only (hB.alloc hn _) (only_cells _ _ 0 _) (fun i (e : i = w.heap.size) => by omega) (by simp; omega)⟩
theorem old_fill {n0 g : Nat} {w0 w w1 : World} {s : List Int} (hs : Sect s) (hB : Below n0 w0 w) (hn : n0 ≤ w.heap.size) (hg : w.heap.size = g) (h1 : Below (w.heap.size + 1) (w.alloc (.cells (u8V zs64).toArray 61)) w1) :
    Room w1 g 0 64 ∧ n0 ≤ g ∧ VBlk (w1.setCells g 0 (u8V s)) g 61 (u8V s) ∧ Below n0 w0 (w1.setCells g 0 (u8V s)) := by
  subst hg
  have a := (VBlk.new w 61 (u8V zs64)).below h1 (by omega)
  have hb := (hB.alloc hn (.cells (u8V zs64).toArray 61)).trans (h1.mono (by omega))
  exact ⟨a.room 0 64 (by decide), hn, a.fill (by rw [hs.vlen]; rfl), below_only hb (only_cells _ _ 0 _) (fun i (e : i = w.heap.size) => by omega) (by have := h1.size; simp at this; omega)⟩
set_option maxRecDepth 100000 in
set_option maxHeartbeats 8000000 in
theorem next_runs (w : World) (B : Nat → Prop) (d N l k e : Nat) (S : DS) (h : DiskAt w B d N S) (hN : N < 50000) (hL : LogIs w l d k e) (hT : Laid w) (hws : S.ws = []) (hk : k ≤ 10000) (he : e ≤ 10000) :
    Calls Tryd.prog 23 #[.pointer (some ⟨l, 0, none⟩)] w fun x w' => Below w.heap.size w w' ∧
      ((∃ v b, x = .returned (.tuple #[v, .bool true]) ∧ w'.ownsRow w.heap.size 5 1 v b.length (u8V b) ∧ bytes8 b ∧ Whole S.f (k + 1) e b ∧ pcs b.length ≤ 255) ∨
        (x = .returned (.tuple #[.slice none 0 0, .bool false]) ∧ NoneAt S.f (k + 1) e)) := by
  have hsf := h.sure
  go_enter Tryd.func23, Tryd.ntmps23
  go_upto_region 2 with fail
  have kx : Key (e : Int) := WalkArith.wf_i64 (by omega)
  have D0 := h.drew
  have D1 : DiskAt (w.alloc (.cells (u8V zs64).toArray 61)).drew B d N S := (h.below ((Below.refl _ _).alloc (Nat.le_refl _) _)).drew
  have c0 := (VBlk.drew hL).cellAt (i := 0) rfl
  have c2 := (VBlk.drew hL).cellAt (i := 2) rfl
  have b0 := ((VBlk.alloc hL (.cells (u8V zs64).toArray 61)).drew).cellAt (i := 0) rfl
  have b2 := ((VBlk.alloc hL (.cells (u8V zs64).toArray 61)).drew).cellAt (i := 2) rfl
  go_cut [5] (fun s5 wx => ∃ g, s5 = .pointer (some ⟨g, 0, none⟩) ∧ w.heap.size ≤ g ∧ VBlk wx g 61 (u8V (S.f e)) ∧ Below w.heap.size w wx)
  case first =>
    have hse := hsf (e : Int)
    have hi : Is 64 (u8V (S.f e)) := ⟨hse.vlen, u8V_one _⟩
    go_region_with (go_at_call 29; first
      | (refine (Read_nil w.drew B d N S e D0 hN kx hws).mono ?_; rintro e' w1 ⟨rfl, hB1⟩; obtain ⟨r1, K⟩ := new_fill hse ((Below.refl w.heap.size w).drew.trans hB1) hB1.size)
      | (refine (Read_nil (w.alloc (.cells (u8V zs64).toArray 61)).drew B d N S e D1 hN kx hws).mono ?_; rintro e' w1 ⟨rfl, hB1⟩; obtain ⟨r1, K⟩ := old_fill (g := w.heap.size) (w := w.drew) hse (Below.refl w.heap.size w).drew (Nat.le_refl _) rfl (by have hq := hB1; simp at hq; exact hq)))
    all_goals
      go_wp2_with fail
      go_meet
      exact ⟨_, rfl, K⟩
  case rest =>
    clear D0 D1 c0 c2 b0 b2
    obtain ⟨g, rfl, hg, hs, hB⟩ := hcut
    obtain ⟨c, e5, hc, hc5⟩ := sect_at (hsf (e : Int)) (i := 5) (by decide)
    have c5 := hs.cellAt (u8V_at hc5)
    have hfew : FewS c := by show c ≤ 1000; omega
    have hFS := foundL_sects hsf e c
    have hFL := foundL_len S.f e c
    have a6 : SBlk (wc.alloc (.cells (flatV (List.replicate c zs64)).toArray 61)) wc.heap.size (partL (foundL S.f e c) 0) := by
      rw [partL_zero, hFL]; exact VBlk.new wc _ _
    have B6 := hB.alloc hB.size (.cells (flatV (List.replicate c zs64)).toArray 61)
    go_upto_region 4 with fail
    have hg6 := hB.size
    clear hs c5 hB hg
    generalize wc.alloc (.cells (flatV (List.replicate c zs64)).toArray 61) = w1 at *
    generalize wc.heap.size = g6 at *
    have hgl : g6 < w1.heap.size := VBlk.lt a6
    go_wp2_with fail
    go_loopw [4, 7, 8, 23] (fun s4 _ _ s23 wr => ∃ j : Nat, j ≤ c ∧ s23 = .int .i64 j ∧ wr.ownsRow w.heap.size 5 1 s4 (bytesOf S.f e j).length (u8V (bytesOf S.f e j)) ∧ SBlk wr g6 (partL (foundL S.f e c) j) ∧ Below w.heap.size w wr) (fun _ _ _ s23 _ => c - (intOf s23).toNat)
    case atStart => exact ⟨0, Nat.zero_le _, rfl, World.ownsRow_nil _ _ _ _, a6, B6⟩
    case round =>
      obtain ⟨j, hj, rfl, hO, hS, hB⟩ := hrel
      have Dr := h.below hB
      have Lr : LogIs wr l d k e := VBlk.below hL hB (VBlk.lt hL)
      have Tr := hT.below hB hT.lt
      have hwr := hB.size
      have hgr := VBlk.lt hS
      by_cases hlt : j < c
      · have dl : (j : Int) < (c : Int) := by omega
        go_upto_region 7 with fail
        have kx : Key ((e : Int) + (j : Int)) := WalkArith.wf_i64 (by omega)
        have hw7 : IntKind.i64.wrap ((e : Int) + (j : Int)) = (e : Int) + (j : Int) := IntWalk.i64_in _ (by omega)
        have D0 := Dr.drew
        have D1 : DiskAt (wr.alloc (.cells (u8V zs64).toArray 61)).drew B d N S := (Dr.below ((Below.refl _ _).alloc (Nat.le_refl _) _)).drew
        have c0 := (VBlk.drew Lr).cellAt (i := 0) rfl
        have c2 := (VBlk.drew Lr).cellAt (i := 2) rfl
        have b0 := ((VBlk.alloc Lr (.cells (u8V zs64).toArray 61)).drew).cellAt (i := 0) rfl
        have b2 := ((VBlk.alloc Lr (.cells (u8V zs64).toArray 61)).drew).cellAt (i := 2) rfl
        go_cut [8] (fun s8 wx => ∃ g8, s8 = .pointer (some ⟨g8, 0, none⟩) ∧ wr.heap.size ≤ g8 ∧ VBlk wx g8 61 (u8V (S.f ((e : Int) + (j : Int)))) ∧ Below wr.heap.size wr wx)
        case first =>
          have hse := hsf ((e : Int) + (j : Int))
          have hi : Is 64 (u8V (S.f ((e : Int) + (j : Int)))) := ⟨hse.vlen, u8V_one _⟩
          have Bd : Below wr.heap.size wr wr.drew := (Below.refl wr.heap.size wr).drew
          clear hO hS hB Dr Lr Tr dl
          go_region_with (go_at_call 29; first
            | (refine (Read_nil wr.drew B d N S ((e : Int) + (j : Int)) D0 hN kx hws).mono ?_; rintro e' w1 ⟨rfl, hB1⟩; obtain ⟨r1, K⟩ := new_fill hse (Bd.trans hB1) hB1.size)
            | (refine (Read_nil (wr.alloc (.cells (u8V zs64).toArray 61)).drew B d N S ((e : Int) + (j : Int)) D1 hN kx hws).mono ?_; rintro e' w1 ⟨rfl, hB1⟩; obtain ⟨r1, K⟩ := old_fill (g := wr.heap.size) (w := wr.drew) hse Bd (Nat.le_refl _) rfl (by have hq := hB1; simp at hq; exact hq)))
          all_goals
            go_wp2_with fail
            go_meet
            exact ⟨_, rfl, K⟩
        case rest =>
          clear D0 D1 c0 c2 b0 b2 hw7
          obtain ⟨g8, rfl, h8, hs8, hBx⟩ := hcut
          have hse := hsf ((e : Int) + (j : Int))
          have hfj : (foundL S.f e c)[j]'(by omega) = S.f ((e : Int) + (j : Int)) := foundL_at S.f e c (by omega)
          have hbs : bytesOf S.f e (j + 1) = bytesOf S.f e j ++ ((S.f ((e : Int) + (j : Int))).drop 7).take (sizeB (S.f ((e : Int) + (j : Int)))) := bytesOf_succ S.f e j
          obtain ⟨m6, e6, hm6, h6⟩ := sect_at hse (i := 6) (by decide)
          have hqd : sizeB (S.f ((e : Int) + (j : Int))) = min m6 52 := by unfold sizeB; rw [e6]; simp
          have hbl := bytesOf_len (f := S.f) e j
          have hpt := partL_set (L := foundL S.f e c) (j := j) (by omega)
          rw [hfj] at hpt
          generalize S.f ((e : Int) + (j : Int)) = s at *
          have hOx := own_only hO (only_of_below hBx (fun _ => False)) (fun _ _ e => e)
          have hSx : SBlk wc g6 (partL (foundL S.f e c) j) := VBlk.below hS hBx hgr
          have hBc := hB.trans (hBx.mono hwr)
          obtain ⟨rr, hh⟩ := hs8.whole (n := 64) hse.vlen
          have hi : Is 64 (u8V s) := ⟨hse.vlen, u8V_one _⟩
          have hrm := hSx.room (partL_sects hFS j) (j := j) (by rw [partL_len (by omega)]; omega)
          have hS2 := hSx.put (partL_sects hFS j) (j := j) (by rw [partL_len (by omega)]; omega) hse
          rw [hpt] at hS2
          have o2 := only_cells wc g6 (j * 64) (u8V s)
          have hs82 := hs8.only o2 (by show ¬ g8 = g6; omega)
          have hO2 := own_only hOx o2 (fun g hg (e : g = g6) => own_blk_ne hOx hSx (by decide) (by rw [hg]; exact congrArg some e))
          have hB2 := below_only hBc o2 (fun i (e : i = g6) => by omega) hBc.size
          go_upto_region 9 with fail
          clear rr hh hrm hSx hOx hBc hs8 hBx hO hS hB Dr Lr Tr
          generalize wc.setCells g6 (j * 64) (u8V s) = w3 at *
          have q6 := hs82.drew.cellAt (u8V_at h6)
          have hq : (if (52 : Int) < (m6 : Int) then 52 else (m6 : Int)) = ((min m6 52 : Nat) : Int) := by split <;> omega
          have hq' : (if (m6 : Int) < 52 then (m6 : Int) else 52) = ((min m6 52 : Nat) : Int) := by split <;> omega
          have hq52 : min m6 52 ≤ 52 := Nat.min_le_right _ _
          rw [hqd] at hbs
          generalize min m6 52 = q at *
          have hsl : (u8V s).length = 64 := hse.vlen
          have hRd := hs82.drew.readsAt (B := w3.heap.size) 7 q (by omega) hs82.lt
          have hpl : ((s.drop 7).take q).length = q := by rw [List.length_take, List.length_drop, hse.1]; omega
          rw [← u8V_drop, ← u8V_take] at hRd
          obtain ⟨ha, hp⟩ := app8_any (w := w3.drew) (c := 57) hO2 hRd (by omega) hB2.size
          have hS2d : SBlk w3.drew g6 (partL (foundL S.f e c) (j + 1)) := hS2
          have hne := own_blk_ne hO2 hS2 (by decide)
          have hob := own_base hO2
          have hB2d := hB2.drew
          generalize hpp : app8P w3.drew u4 (.slice (some ⟨g8, 7, none⟩) q 57) = p at hp
          obtain ⟨p1, p2⟩ := hp p rfl
          have K1 : p.2.ownsRow w.heap.size 5 1 p.1 (bytesOf S.f e (j + 1)).length (u8V (bytesOf S.f e (j + 1))) := by
            rw [hbs, List.length_append, hpl, u8V_append]; exact p1
          have K2 : SBlk p.2 g6 (partL (foundL S.f e c) (j + 1)) := Blk.grown hS2d p2 (fun e => hne e.symm)
          have K3 : Below w.heap.size w p.2 := hB2d.grown p2 hB2d.size hob
          clear p1 p2 hS2d hne hob hB2d hS2 hO2 hB2 hp hbs hRd hs82
          go_region
          all_goals
            go_wp2_with fail
            go_roundw
            case rel => go_light; exact ⟨j + 1, by omega, by go_num, K1, K2, K3⟩
            case measure => go_light; simp [intOf]; omega
      · obtain rfl : j = c := by omega
        have hSa : SBlk wr g6 (foundL S.f e j) := by
          have := partL_all (foundL S.f e j)
          rw [hFL] at this
          rw [this] at hS
          exact hS
        have hbl := bytesOf_len (f := S.f) e j
        have hbb := bytesOf_bd hsf e j
        have hfw := found_whole (f := S.f) (k := k + 1) (a := e) (b := bytesOf S.f e j) (c := j)
        have hnf := none_of_found (f := S.f) (k := k + 1) (a := e) (c := j) e5
        generalize bytesOf S.f e j = b at *
        obtain ⟨A, cp, rfl, hcp, hcm⟩ := own_form hO
        have c0 := VBlk.cellAt Lr (i := 1) rfl
        go_wp2_with fail
        have hsr := sectors_runs wr (k + 1) b.length cp A b Tr (Reads.of_own hO) (by omega) hcp hcm hbb (by omega)
        rw [show ((k + 1 : Nat) : Int) = (k : Int) + 1 from rfl] at hsr
        (with_reducible refine hsr.mono ?_)
        rintro e' w4 ⟨h4, rfl, hg4, hS4, hB4⟩
        have hSb : SBlk w4 g6 (foundL S.f e j) := VBlk.below hSa hB4 (by omega)
        go_wp2_with fail
        (with_reducible refine (EqualS_runs w4 g6 h4 j (pcs b.length) j (pcs b.length) (foundL S.f e j) (secsL (k + 1) b) hSb hS4 hFL (secsL_len _ _) hFS (secsL_sects _ hbb) (by omega) (by unfold pcs; omega)).mono ?_)
        rintro e' w5 ⟨rfl, hB5⟩
        have hO5 := own_only (own_only hO (only_of_below hB4 (fun _ => False)) (fun _ _ e => e)) (only_of_below hB5 (fun _ => False)) (fun _ _ e => e)
        have hBe := (hB.trans (hB4.mono hwr)).trans (hB5.mono (by have := hB4.size; omega))
        cases hd : decide (foundL S.f e j = secsL (k + 1) b) with
        | true =>
          obtain ⟨h1, h2⟩ := hfw (of_decide_eq_true hd)
          go_wp2_with fail
          go_ret2
          exact ⟨hBe, .inl ⟨_, b, rfl, hO5, hbb, h2, by omega⟩⟩
        | false =>
          have h2 := hnf (of_decide_eq_false hd)
          go_wp2_with fail
          go_ret2
          exact ⟨hBe, .inr ⟨rfl, h2⟩⟩
end Go.Proofs.YtccdifplpbnclaaDoor
