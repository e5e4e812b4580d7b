/- A disk in memory, and its small calls. -/
import Derived.Test.YtccdifplpbnclaaDoorDskS
namespace Go.Proofs.YtccdifplpbnclaaDoor
open Go.RowKit Go.Maps

attribute [local go_sem ↓] loadS_fold storeS_fold allocS_fold loadW_fold storeW_fold allocW_fold buildW_fold boxW_fold lookS_fold putS_fold sliceS_fold copyS_fold
attribute [local go_sem] loadS_has storeS_has allocS_run loadW_has storeW_has allocW_run buildW_run boxW_run lookS_has putS_has sliceS_all sliceS_k copyS_k

/-- A result that lies in a variable. -/
theorem results_v {P : Program} {fn : Func} {s : Tmp} {ty : TypeId} (h : fn.results = #[.cell s ty]) {tmps : Array Value} {w : World} {b n : Nat} {t : TypeId} {vs : List Value} (hI : VBlk w b t vs) (hl : vs.length = n)
    {d : TypeDesc} (hu : P.underlying ty = some d) (hd : d.isRow = true) (hi : (P.info? ty).map (·.size) = some n) (hs : tmps.getD s undef = .pointer (some ⟨b, 0, none⟩)) : (results fn tmps).run P w = .ok (.agg vs.toArray) w := by
  have hl := run_loadVar_mid (P := P) w b 0 ty vs d (fun j v hv => by rw [Nat.zero_add]; exact hI.cellAt hv) hu hd (by rw [hl]; exact hi)
  have hs' : tmps[s]?.getD undef = .pointer (some ⟨b, 0, none⟩) := by simpa using hs
  simp [results, h, hs', asAddr, hl]
/-- What a disk holds. -/
structure DS where
  f : Int → List Int
  ws : List (Int × List Int)
  armed : Bool
  left : Int
  down : Bool
def wsV (ws : List (Int × List Int)) : List Value := ws.flatMap fun p => wrV p.1 p.2
def Wrs (ws : List (Int × List Int)) : Prop := ∀ p ∈ ws, Key p.1 ∧ Sect p.2
/-- The disk d lies in the blocks B and holds S; it takes no more than N sectors. -/
structure DiskAt (w : World) (B : Nat → Prop) (d N : Nat) (S : DS) : Prop where
  is_ : ∃ m n v, VBlk w d 54 [.map (some m), v, .bool S.armed, .int .i64 S.left, .bool S.down] ∧ MapIs w m n S.f ∧ w.ownsRow 0 63 65 v S.ws.length (wsV S.ws) ∧ B m ∧ (∀ g, v.ownBlock = some g → B g) ∧ n + S.ws.length ≤ N
  own : B d
  lt : ∀ b, B b → b < w.heap.size
  wrs : Wrs S.ws
  sure : ∀ k, Sect (S.f k)
  left0 : 0 ≤ S.left
  left1 : S.left ≤ 9223372036854775807
section
variable {w w' : World} {B : Nat → Prop} {d N : Nat} {S : DS}
theorem DiskAt.only {T : Nat → Prop} (h : DiskAt w B d N S) (k : Only T w w') (hn : ∀ b, B b → ¬ T b) : DiskAt w' B d N S := by
  obtain ⟨m, n, v, h1, h2, h3, h4, h5, h6⟩ := h.is_
  exact ⟨⟨m, n, v, h1.only k (hn _ h.own), h2.only k (hn _ h4), own_only h3 k (fun g hg => hn _ (h5 g hg)), h4, h5, h6⟩, h.own, fun b hb => by have := h.lt b hb; have := k.size; omega, h.wrs, h.sure, h.left0, h.left1⟩
theorem DiskAt.below (h : DiskAt w B d N S) (k : Below w.heap.size w w') : DiskAt w' B d N S := h.only (only_of_below k fun _ => False) (fun _ _ e => e)
theorem DiskAt.drew (h : DiskAt w B d N S) : DiskAt w.drew B d N S := h.only (T := fun _ => False) (Only.refl _ _).drew (fun _ _ e => e)
theorem DiskAt.dlt (h : DiskAt w B d N S) : d < w.heap.size := h.lt d h.own
end
theorem map_ne {w : World} {m n g : Nat} {f : Int → List Int} {t : TypeId} {vs : List Value} (h : MapIs w m n f) (h' : VBlk w g t vs) : m ≠ g := by
  rintro rfl
  obtain ⟨D, ⟨es, cl, hb, _⟩, _⟩ := h
  have : w.heap[m]? = some (.cells vs.toArray t (0, 0)) := h'
  rw [hb] at this
  injection this with this
  cases this
theorem map_own_ne {w : World} {m n base size k : Nat} {f : Int → List Int} {e : TypeId} {v : Value} {xs : List Value} (h : MapIs w m n f) (h' : w.ownsRow base e size v k xs) : v.ownBlock ≠ some m := by
  rcases h'.2 with ⟨rfl, _⟩ | ⟨g, cap, cur, rfl, _, hh, _⟩
  · simp [Value.ownBlock]
  · intro he
    have : g = m := by simpa [Value.ownBlock] using he
    subst this
    obtain ⟨D, ⟨es, cl, hb, _⟩, _⟩ := h
    rw [hb] at hh
    cases hh

/-- The disk with other small fields. -/
theorem DiskAt.mk_ {w w' : World} {B : Nat → Prop} {d N m n : Nat} {S : DS} {v : Value} {vs : List Value} (h : DiskAt w B d N S) (h1 : VBlk w d 54 vs) (h2 : MapIs w m n S.f) (h3 : w.ownsRow 0 63 65 v S.ws.length (wsV S.ws)) (h4 : B m) (h5 : ∀ g, v.ownBlock = some g → B g) (h6 : n + S.ws.length ≤ N)
    (a b : Bool) (l : Int) (l0 : 0 ≤ l) (l1 : l ≤ 9223372036854775807) (hv : VBlk w' d 54 [.map (some m), v, .bool a, .int .i64 l, .bool b]) (ho : Only (· = d) w w') : DiskAt w' B d N { S with armed := a, left := l, down := b } :=
  ⟨⟨m, n, v, hv, h2.only ho (map_ne h2 h1), own_only h3 ho (fun g hg e => own_blk_ne h3 h1 (by decide) (by rw [hg]; exact congrArg some e)), h4, h5, h6⟩, h.own, fun b hb => by have := h.lt b hb; have := ho.size; omega, h.wrs, h.sure, l0, l1⟩
def newS : DS := ⟨fun _ => zs64, [], false, 0, false⟩
set_option maxRecDepth 100000 in
set_option maxHeartbeats 4000000 in
theorem New_runs (w : World) : Calls Tryd.prog 11 #[] w fun e w' => ∃ d B, e = .returned (.pointer (some ⟨d, 0, none⟩)) ∧ DiskAt w' B d 0 newS ∧ (∀ b, B b → w.heap.size ≤ b) ∧ Below w.heap.size w w' := by
  have hmm := @run_makeMap Tryd.prog
  go_enter Tryd.func11, Tryd.ntmps11
  have h2 := (mapIs_made w).alloc (.cells #[.map (some w.heap.size), .slice none 0 0, .bool false, .int .i64 0, .bool false] 54)
  have h1 := VBlk.new (w.alloc (.map #[] 0)) 54 [.map (some w.heap.size), .slice none 0 0, .bool false, .int .i64 0, .bool false]
  have hsz : (w.alloc (.map #[] 0)).heap.size = w.heap.size + 1 := by simp
  have hB : Below w.heap.size w ((w.alloc (.map #[] 0)).alloc (.cells #[.map (some w.heap.size), .slice none 0 0, .bool false, .int .i64 0, .bool false] 54)) := ((Below.refl _ w).alloc (Nat.le_refl _) _).alloc (by omega) _
  rw [hsz] at h1
  go_wp2_with fail
  go_ret
  refine ⟨w.heap.size + 1, fun b => b = w.heap.size ∨ b = w.heap.size + 1, rfl, ⟨⟨w.heap.size, 0, .slice none 0 0, h1, h2, World.ownsRow_nil _ _ _ _, .inl rfl, fun g hg => by simp [Value.ownBlock] at hg, by simp [newS]⟩, .inr rfl, fun b hb => by simp; omega, fun p hp => by simp [newS] at hp, fun k => sect_zs, Int.le_refl _, by simp [newS]⟩, fun b hb => by omega, hB⟩

def armS (n : Int) (S : DS) : DS := { S with armed := true, left := max n 0 }
set_option maxRecDepth 100000 in
set_option maxHeartbeats 4000000 in
theorem Arm_runs (w : World) (B : Nat → Prop) (d N : Nat) (S : DS) (n : Int) (h : DiskAt w B d N S) (_ : -9223372036854775808 ≤ n) (_ : n ≤ 9223372036854775807) :
    Calls Tryd.prog 13 #[.pointer (some ⟨d, 0, none⟩), .int .i64 n] w fun e w' => (∃ v, e = .returned v) ∧ DiskAt w' B d N (armS n S) ∧ Only B w w' := by
  obtain ⟨m, k, v, h1, h2, h3, h4, h5, h6⟩ := h.is_
  have c2 := h1.cellAt (i := 2) rfl
  have c3 := h1.cellAt (i := 3) rfl
  have z2 := h1.frozen 2
  have z3 := h1.frozen 3
  go_enter Tryd.func13, Tryd.ntmps13
  have hv : ∀ l : Int, VBlk ((w.setCell ⟨d, 2, none⟩ (.bool true)).setCell ⟨d, 3, none⟩ (.int .i64 l)) d 54 [.map (some m), v, .bool true, .int .i64 l, .bool S.down] := fun l => (h1.set 2 (.bool true)).set 3 (.int .i64 l)
  have ho : ∀ l : Int, Only (· = d) w ((w.setCell ⟨d, 2, none⟩ (.bool true)).setCell ⟨d, 3, none⟩ (.int .i64 l)) := fun l => (only_cell w d 2 _).trans_ (only_cell _ d 3 _)
  have K : ∀ l : Int, l = max n 0 → DiskAt ((w.setCell ⟨d, 2, none⟩ (.bool true)).setCell ⟨d, 3, none⟩ (.int .i64 l)) B d N (armS n S) ∧ Only B w ((w.setCell ⟨d, 2, none⟩ (.bool true)).setCell ⟨d, 3, none⟩ (.int .i64 l)) := fun l e => by
    subst e
    exact ⟨h.mk_ h1 h2 h3 h4 h5 h6 true S.down (max n 0) (by omega) (by omega) (hv _) (ho _), (ho _).mono fun i _ (e : i = d) => by rw [e]; exact h.own⟩
  go_wp2_with fail
  all_goals
    go_end0
    refine ⟨⟨_, rfl⟩, K _ (by go_light; omega)⟩
theorem Sure_runs (w : World) (B : Nat → Prop) (d N : Nat) (S : DS) (x : Int) (h : DiskAt w B d N S) (hN : N < 50000) (hx : Key x) :
    Calls Tryd.prog 33 #[.pointer (some ⟨d, 0, none⟩), .int .i64 x] w fun e w' => e = .returned (secV (S.f x)) ∧ Below w.heap.size w w' := by
  obtain ⟨m, k, v, h1, h2, h3, h4, h5, h6⟩ := h.is_
  have hf := (h.sure x).vlen
  have h1' := h1.alloc (.cells (u8V zs64).toArray 61)
  have h2' := h2.alloc (.cells (u8V zs64).toArray 61)
  have ha := VBlk.new w 61 (u8V zs64)
  have hB : Below w.heap.size w (w.alloc (.cells (u8V zs64).toArray 61)) := (Below.refl _ _).alloc (Nat.le_refl _) _
  go_enter Tryd.func33, Tryd.ntmps33
  go_upto_region 1 with fail
  generalize w.alloc (.cells (u8V zs64).toArray 61) = w1 at *
  have c0 := h1'.cellAt (i := 0) rfl
  obtain ⟨rm, hhm⟩ := h2'.got (by omega) x
  have hr := ha.room 0 64 (by decide)
  have hi : Is 64 (u8V (S.f x)) := ⟨hf, u8V_one _⟩
  have hz := ha.fill (us := u8V (S.f x)) (by rw [hf]; rfl)
  have hBz := below_only hB (only_cells w1 w.heap.size 0 (u8V (S.f x))) (fun i (e : i = w.heap.size) => by omega) hB.size
  go_wp2_with fail
  exact bodyPost_ret (results_v rfl hz hf Tryd.underlying61 rfl Tryd.info64 rfl) rfl ⟨rfl, hBz⟩
end Go.Proofs.YtccdifplpbnclaaDoor
