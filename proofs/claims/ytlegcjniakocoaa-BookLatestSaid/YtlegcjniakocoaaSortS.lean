/- slices.Sort of a short list of integers: what the insertion sort makes of it. -/
import Derived.Test.YtlegcjniakocoaaRowP
import Derived.Deep.Light
import Derived.BigQuiet
namespace Go.Proofs.Ytlegcjniakocoaa
open Go.RowKit

/-! ### plain -/
def down : Nat → List Int → List Int
  | 0, l => l
  | j + 1, l => if l.getD (j + 1) 0 < l.getD j 0 then down j ((l.set (j + 1) (l.getD j 0)).set j (l.getD (j + 1) 0)) else l
def isortTo (l : List Int) : Nat → List Int
  | 0 => l
  | i + 1 => down i (isortTo l i)
theorem down_length : ∀ (j : Nat) (l : List Int), (down j l).length = l.length
  | 0, _ => rfl
  | j + 1, l => by
    rw [down]
    split
    · rw [down_length j]; simp
    · rfl
theorem isortTo_length (l : List Int) : ∀ i, (isortTo l i).length = l.length
  | 0 => rfl
  | i + 1 => by rw [isortTo, down_length, isortTo_length l i]

theorem isNaN_any (x : Int) (w : World) : Calls Try.prog 53 #[.int .i64 x] w fun e w' => e = .returned (.bool false) ∧ w = w' := by
  go_enter Try.func53, Try.ntmps53
  go_wp2
  go_ret
  exact ⟨by simp, rfl⟩
theorem less_any (x y : Int) (w : World) : Calls Try.prog 43 #[.int .i64 x, .int .i64 y] w fun e w' => e = .returned (.bool (decide (x < y))) ∧ w' = w := by
  go_enter Try.func43, Try.ntmps43
  go_wp2_with fail
  (with_reducible refine (isNaN_any x w).mono ?_)
  rintro e w' ⟨rfl, rfl⟩
  go_wp2_with fail
  go_ret
  exact ⟨rfl, rfl⟩
def IOwn (w : World) (base g n c : Nat) (zs : List Int) : Prop := w.ownsRow base 3 1 (.slice (some ⟨g, 0, none⟩) n c) n (zs.map (Value.int .i64))
theorem IOwn.cell {w : World} {base g n c : Nat} {zs : List Int} (h : IOwn w base g n c zs) {k : Nat} (hk : k < n) : w.cell? ⟨g, k, none⟩ = some (.int .i64 (zs.getD k 0)) ∧ w.frozen? ⟨g, k, none⟩ = false := by
  have hl : zs.length = n := by have := h.1; simpa using this
  refine ⟨?_, h.frozenAt k⟩
  rw [h.cellAt k (by omega)]
  simp [List.getD, show k < zs.length by omega]
theorem IOwn.set {w : World} {base g n c : Nat} {zs : List Int} (h : IOwn w base g n c zs) (k : Nat) (x : Int) : IOwn (w.setCell ⟨g, k, none⟩ (.int .i64 x)) base g n c (zs.set k x) := by
  have := (h.stored k (.int .i64 x)).1
  unfold IOwn
  rw [List.map_set]
  exact this
theorem IOwn.drew {w : World} {base g n c : Nat} {zs : List Int} (h : IOwn w base g n c zs) : IOwn w.drew base g n c zs := own_only h ((Only.refl (fun _ => False) w).drew) (fun _ _ h => h)
theorem IOwn.drewN {w : World} {base g n c : Nat} {zs : List Int} (h : IOwn w base g n c zs) (k : Nat) : IOwn (w.drewN k) base g n c zs := h
theorem Only.drewN {S : Nat → Prop} {a w : World} (h : Only S a w) (k : Nat) : Only S a (w.drewN k) := ⟨h.os, h.tape, h.output, h.size, h.block⟩

set_option maxRecDepth 100000 in
set_option maxHeartbeats 1600000 in
theorem insertion_any (base g n c : Nat) (zs : List Int) (w : World) (h : IOwn w base g n c zs) (hn : 1 ≤ n) (hn6 : n ≤ 6) :
    Calls Try.prog 37 #[.slice (some ⟨g, 0, none⟩) n c, .int .i64 0, .int .i64 n] w fun e w' => e = .returned (.tuple #[]) ∧ IOwn w' base g n c (isortTo zs n) ∧ Only (· = g) w w' := by
  have hzl : zs.length = n := by have := h.1; simpa using this
  have HZ := hide hzl
  clear hzl
  go_enter Try.func37, Try.ntmps37
  go_wp2_with fail
  go_loopw [6] (fun s wr => ∃ i : Nat, 1 ≤ i ∧ i ≤ n ∧ s = .int .i64 i ∧ IOwn wr base g n c (isortTo zs i) ∧ Only (· = g) w wr) (fun s _ => 7 - (intOf s).toNat)
  case atStart => exact ⟨1, by omega, hn, rfl, h, Only.refl _ _⟩
  case round =>
    clear h
    obtain ⟨i, hi1, hin, rfl, hI, hO⟩ := hrel
    by_cases hlt : i < n
    · have hd : decide ((i : Int) < (n : Int)) = true := decide_eq_true (by omega)
      go_wp2_with fail
      go_loopw [7] (fun s wr => ∃ (j : Nat) (l : List Int), j ≤ i ∧ s = .int .i64 j ∧ IOwn wr base g n c l ∧ Hid (down j l = isortTo zs (i + 1)) ∧ Only (· = g) w wr) (fun s _ => (intOf s).toNat)
      case atStart => exact ⟨i, _, Nat.le_refl _, rfl, hI, hide rfl, hO⟩
      case round =>
        clear hI hO
        obtain ⟨j, l, hji, rfl, hI, HD, hO⟩ := hrel
        by_cases hj : 0 < j
        · obtain ⟨j', hj'⟩ : ∃ j' : Nat, j = j' + 1 := ⟨j - 1, by go_light; omega⟩
          have hjj : (j : Int) - 1 = (j' : Int) := by go_light; omega
          have hjn : j < n := by go_light; omega
          have hjn' : j' < n := by go_light; omega
          have d0 : decide (0 < (j : Int)) = true := decide_eq_true (by go_light; omega)
          obtain ⟨c1, z1⟩ := hI.cell hjn
          obtain ⟨c2, z2⟩ := hI.cell hjn'
          have HS : Hid (down j l = if l.getD j 0 < l.getD j' 0 then down j' ((l.set j (l.getD j' 0)).set j' (l.getD j 0)) else l) := hide (by rw [hj', down])
          have hIN := fun q => ((hI.drewN q).drew.set j (l.getD j' 0)).set j' (l.getD j 0)
          have hON := fun q => (((hO.drewN q).drew).trans_ (only_cell _ g j (.int .i64 (l.getD j' 0)))).trans_ (only_cell _ g j' (.int .i64 (l.getD j 0)))
          have hIS := fun q => hI.drewN q
          have hOS := fun q => hO.drewN q
          have HL : Hid (j = j' + 1) := hide hj'
          have hlt0 : (j : Int) < (n : Int) := by go_light; omega
          have hlt1 : (j' : Int) < (n : Int) := by go_light; omega
          clear hj' hI hO
          generalize l.getD j 0 = x at c1 HS hIN hON
          generalize l.getD j' 0 = y at c2 HS hIN hON
          by_cases hxy : x < y
          · have HD2 : Hid (down j' ((l.set j y).set j' x) = isortTo zs (i + 1)) := hide (by rw [← HD.out, HS.out, if_pos hxy])
            have dxy : decide (x < y) = true := decide_eq_true hxy
            clear HS HD
            generalize (l.set j y).set j' x = l2 at hIN HD2
            go_wp2_with fail
            go_quiet (first | (go_at_call 43; refine Calls.quiet_of_same (less_any _ _ _)))
            go_wp2_with fail
            go_region
            all_goals
              go_wp2_with fail
              go_roundw
              case rel => go_light; exact ⟨j', l2, by omega, rfl, hIN _, HD2, hON _⟩
              case measure => go_light; have := HL.out; simp [intOf]; omega
          · have HD2 : Hid (l = isortTo zs (i + 1)) := hide (by rw [← HD.out, HS.out, if_neg hxy])
            have dxy : decide (x < y) = false := decide_eq_false hxy
            clear HS HD hIN hON
            go_wp2_with fail
            go_quiet (first | (go_at_call 43; refine Calls.quiet_of_same (less_any _ _ _)))
            go_wp2_with fail
            go_roundw
            case rel => go_light; exact ⟨i + 1, by omega, by omega, by go_num, by rw [← HD2.out]; exact hIS _, hOS _⟩
            case measure => go_light; simp [intOf]; omega
        · obtain rfl : j = 0 := by go_light; omega
          have HD2 : Hid (l = isortTo zs (i + 1)) := hide HD.out
          have hIS := fun q => hI.drewN q
          have hOS := fun q => hO.drewN q
          go_wp2_with fail
          go_quiet (first | (go_at_call 43; refine Calls.quiet_of_same (less_any _ _ _)))
          go_wp2_with fail
          go_roundw
          case rel => go_light; exact ⟨i + 1, by omega, by omega, by go_num, by rw [← HD2.out]; exact hIS _, hOS _⟩
          case measure => go_light; simp [intOf]; omega
    · have hd : decide ((i : Int) < (n : Int)) = false := decide_eq_false (by omega)
      obtain rfl : i = n := by omega
      go_wp2_with fail
      go_end0
      exact ⟨rfl, hI, hO⟩

/-! ### Sort, of one to six -/
set_option maxRecDepth 100000 in
set_option maxHeartbeats 1600000 in
theorem len64_any (n : Nat) (h1 : 1 ≤ n) (h6 : n ≤ 6) (w : World) : Calls Try.prog 47 #[.int .u64 (n : Int)] w fun e w' => (∃ r : Int, e = .returned (.int .i64 r)) ∧ w' = w := by
  rcases (by omega : n = 1 ∨ n = 2 ∨ n = 3 ∨ n = 4 ∨ n = 5 ∨ n = 6) with rfl | rfl | rfl | rfl | rfl | rfl
  all_goals
    go_enter Try.func47, Try.ntmps47
    go_wp2_with fail
    go_ret
    exact ⟨⟨_, rfl⟩, rfl⟩
theorem len_any (n : Nat) (h1 : 1 ≤ n) (h6 : n ≤ 6) (w : World) : Calls Try.prog 35 #[.int .u64 (n : Int)] w fun e w' => (∃ r : Int, e = .returned (.int .i64 r)) ∧ w' = w := by
  go_enter Try.func35, Try.ntmps35
  go_wp2_with fail
  (with_reducible refine (len64_any n h1 h6 w).mono ?_)
  rintro e w' ⟨⟨r, rfl⟩, rfl⟩
  go_wp2_with fail
  go_ret
  exact ⟨⟨r, rfl⟩, rfl⟩
set_option maxRecDepth 100000 in
set_option maxHeartbeats 1600000 in
theorem pdq_any (base g n c : Nat) (zs : List Int) (lim : Int) (w : World) (h : IOwn w base g n c zs) (hn : 1 ≤ n) (hn6 : n ≤ 6) :
    Calls Try.prog 34 #[.slice (some ⟨g, 0, none⟩) n c, .int .i64 0, .int .i64 n, .int .i64 lim] w fun e w' => e = .returned (.tuple #[]) ∧ IOwn w' base g n c (isortTo zs n) ∧ Only (· = g) w w' := by
  have hd : decide ((n : Int) ≤ 12) = true := decide_eq_true (by omega)
  have HI := insertion_any base g n c zs w h hn hn6
  clear h
  go_enter Try.func34, Try.ntmps34
  go_wp2_with fail
  go_loopw [1, 2] (fun s1 s2 wr => s1 = .int .i64 0 ∧ s2 = .int .i64 n ∧ wr = w) (fun _ _ _ => 0)
  case atStart => exact ⟨rfl, rfl, rfl⟩
  case round =>
    obtain ⟨rfl, rfl, rfl⟩ := hrel
    go_wp2_with fail
    (with_reducible refine HI.mono ?_)
    rintro e w' ⟨rfl, h1, h2⟩
    go_wp2_with fail
    refine bodyPost_ret (results_none rfl _ _ _) rfl ?_
    exact ⟨rfl, h1, h2⟩
set_option maxRecDepth 100000 in
set_option maxHeartbeats 1600000 in
theorem sort_any (base g n c : Nat) (zs : List Int) (w : World) (h : IOwn w base g n c zs) (hn : 1 ≤ n) (hn6 : n ≤ 6) :
    Calls Try.prog 31 #[.slice (some ⟨g, 0, none⟩) n c] w fun e w' => e = .returned (.tuple #[]) ∧ IOwn w' base g n c (isortTo zs n) ∧ Only (· = g) w w' := by
  have HP := fun lim => pdq_any base g n c zs lim w h hn hn6
  have HL := len_any n hn hn6 w
  have hw : IntKind.u64.wrap (n : Int) = n := by
    rw [IntKind.wrap_u64]; omega
  clear h
  go_enter Try.func31, Try.ntmps31
  go_wp2_with fail
  (with_reducible refine HL.mono ?_)
  rintro e w' ⟨⟨r, rfl⟩, rfl⟩
  go_wp2_with fail
  (with_reducible refine (HP r).mono ?_)
  rintro e w' ⟨rfl, h1, h2⟩
  go_wp2_with fail
  go_end0
  exact ⟨rfl, h1, h2⟩
end Go.Proofs.Ytlegcjniakocoaa
