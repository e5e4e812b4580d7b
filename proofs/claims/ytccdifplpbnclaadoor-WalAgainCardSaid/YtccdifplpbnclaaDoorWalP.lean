/- Records on a disk, in plain words. -/
import Derived.Test.YtccdifplpbnclaaDoorCrc
import Derived.Test.YtccdifplpbnclaaDoorDskC
namespace Go.Proofs.YtccdifplpbnclaaDoor

/-- How many sectors n bytes take. -/
def pcs (n : Nat) : Nat := (max n 1 - 1) / 52 + 1
theorem pcs_pos (n : Nat) : 0 < pcs n := Nat.succ_pos _
theorem pcs_cover (n : Nat) : n ≤ 52 * pcs n := by unfold pcs; omega
theorem pcs_le {n : Nat} (h : n ≤ 3000) : pcs n ≤ 58 := by unfold pcs; omega
def partAt (b : List Int) (j : Nat) : List Int := (b.drop (52 * j)).take 52
theorem partAt_le (b : List Int) (j : Nat) : (partAt b j).length ≤ 52 := by unfold partAt; rw [List.length_take]; omega
theorem parts_join (b : List Int) : ∀ c, (List.range c).flatMap (partAt b) = b.take (52 * c)
  | 0 => by simp
  | c + 1 => by
    rw [List.range_succ, List.flatMap_append, parts_join b c, Nat.mul_succ, List.take_add]
    simp [partAt]
theorem parts_all (b : List Int) : (List.range (pcs b.length)).flatMap (partAt b) = b := by
  rw [parts_join, List.take_of_length_le (pcs_cover _)]
def headS (k j c n : Nat) : List Int := [((k / 16777216 % 256 : Nat) : Int), ((k / 65536 % 256 : Nat) : Int), ((k / 256 % 256 : Nat) : Int), ((k % 256 : Nat) : Int), ((j % 256 : Nat) : Int), ((c % 256 : Nat) : Int), ((n % 256 : Nat) : Int)]
def bodyS (k j c : Nat) (p : List Int) : List Int := headS k j c p.length ++ (p ++ List.replicate (52 - p.length) 0)
/-- One sector of a record. -/
def layL (k j c : Nat) (p : List Int) : List Int := putL (bodyS k j c p) ++ [1]
section
variable (k j c : Nat) (p : List Int)
theorem body_len (h : p.length ≤ 52) : (bodyS k j c p).length = 59 := by simp [bodyS, headS]; omega
theorem body_bd (h : ∀ z ∈ p, 0 ≤ z ∧ z < 256) : ∀ z ∈ bodyS k j c p, 0 ≤ z ∧ z < 256 := by
  intro z hz
  unfold bodyS at hz
  rcases List.mem_append.1 hz with hz | hz
  · simp only [headS, List.mem_cons, List.not_mem_nil, or_false] at hz
    omega
  · rcases List.mem_append.1 hz with hz | hz
    · exact h z hz
    · rw [List.eq_of_mem_replicate hz]; omega
theorem lay_len (h : p.length ≤ 52) : (layL k j c p).length = 64 := by
  unfold layL
  rw [List.length_append, putL_length, body_len k j c p h]; rfl
theorem lay_last (h : p.length ≤ 52) : (layL k j c p).getD 63 0 = 1 := by
  unfold layL
  have : (putL (bodyS k j c p)).length = 63 := by rw [putL_length, body_len k j c p h]
  rw [List.getD_eq_getElem?_getD, List.getElem?_append_right (by omega), this]; rfl
theorem lay_5 : (layL k j c p).getD 5 0 = ((c % 256 : Nat) : Int) := rfl
theorem lay_6 : (layL k j c p).getD 6 0 = ((p.length % 256 : Nat) : Int) := rfl
theorem lay_part : ((layL k j c p).drop 7).take p.length = p := by
  have : (layL k j c p).drop 7 = p ++ (List.replicate (52 - p.length) 0 ++ sumBytes (crcOf (bodyS k j c p)) ++ [1]) := by
    unfold layL putL
    conv => lhs; unfold bodyS
    simp [headS, bodyS]
  rw [this, List.take_left']
  rfl
theorem lay_sect (h : p.length ≤ 52) (hb : ∀ z ∈ p, 0 ≤ z ∧ z < 256) : Sect (layL k j c p) := by
  refine ⟨lay_len k j c p h, fun z hz => ?_⟩
  have : 0 ≤ z ∧ z < 256 := by
    unfold layL at hz
    rcases List.mem_append.1 hz with hz | hz
    · exact putL_bd (body_bd k j c p hb) z hz
    · simp at hz; omega
  exact WalkArith.wf_u8 (by omega)
end

/-! ### records that are whole -/
abbrev Sects := Int → List Int
def Whole (f : Sects) (k a : Nat) (b : List Int) : Prop := ∀ j, j < pcs b.length → f ((a + j : Nat) : Int) = layL k j (pcs b.length) (partAt b j)
def sizeB (s : List Int) : Nat := min (s.getD 6 0).toNat 52
def bytesOf (f : Sects) (a c : Nat) : List Int := (List.range c).flatMap fun j => ((f ((a + j : Nat) : Int)).drop 7).take (sizeB (f ((a + j : Nat) : Int)))
def foundL (f : Sects) (a c : Nat) : List (List Int) := (List.range c).map fun j => f ((a + j : Nat) : Int)
def secsL (k : Nat) (b : List Int) : List (List Int) := (List.range (pcs b.length)).map fun j => layL k j (pcs b.length) (partAt b j)
def NoneAt (f : Sects) (k a : Nat) : Prop := ∀ b, pcs b.length ≤ 255 → ¬ Whole f k a b
section
variable {f f' : Sects} {k a : Nat} {b b' : List Int}
theorem whole_count (h : Whole f k a b) (hc : pcs b.length ≤ 255) : (f (a : Int)).getD 5 0 = (pcs b.length : Int) := by
  have := h 0 (pcs_pos _)
  rw [Nat.add_zero] at this
  rw [this, lay_5, Nat.mod_eq_of_lt (by omega)]
theorem flatMap_same {α β : Type} {g h : α → List β} : ∀ {l : List α}, (∀ x ∈ l, g x = h x) → l.flatMap g = l.flatMap h
  | [], _ => rfl
  | x :: l, hx => by
    rw [List.flatMap_cons, List.flatMap_cons, hx x (by simp), flatMap_same fun y hy => hx y (by simp [hy])]
theorem whole_bytes (h : Whole f k a b) : bytesOf f a (pcs b.length) = b := by
  unfold bytesOf
  refine (flatMap_same fun j hj => ?_).trans (parts_all b)
  have hj : j < pcs b.length := by simpa using hj
  have hl := partAt_le b j
  rw [h j hj]
  have : sizeB (layL k j (pcs b.length) (partAt b j)) = (partAt b j).length := by
    unfold sizeB
    rw [lay_6]
    omega
  rw [this, lay_part]
theorem whole_one (h : Whole f k a b) (h' : Whole f k a b') (hc : pcs b.length ≤ 255) (hc' : pcs b'.length ≤ 255) : b = b' := by
  have e := (whole_count h hc).symm.trans (whole_count h' hc')
  have e : pcs b.length = pcs b'.length := by omega
  rw [← whole_bytes h, ← whole_bytes h', e]
theorem found_whole {c : Nat} (h : foundL f a c = secsL k b) : c = pcs b.length ∧ Whole f k a b := by
  have hl : c = pcs b.length := by have := congrArg List.length h; simpa [foundL, secsL] using this
  refine ⟨hl, fun j hj => ?_⟩
  have := congrArg (fun l : List (List Int) => l[j]?) h
  simp only [foundL, secsL, List.getElem?_map] at this
  rw [List.getElem?_range (by omega), List.getElem?_range hj] at this
  simpa using this
theorem whole_found (h : Whole f k a b) : foundL f a (pcs b.length) = secsL k b := by
  unfold foundL secsL
  exact List.map_congr_left fun j hj => h j (by simpa using hj)
theorem none_of_found {c : Nat} (hc : (f (a : Int)).getD 5 0 = (c : Int)) (h : foundL f a c ≠ secsL k (bytesOf f a c)) : NoneAt f k a := by
  intro b hb hw
  have := whole_count hw hb
  obtain rfl : c = pcs b.length := by omega
  exact h (by rw [whole_bytes hw]; exact whole_found hw)
theorem none_of_bad {i p : Nat} (hi : i < p) (hbad : (f ((a + i : Nat) : Int)).getD 63 0 ≠ 1) (hc : i = 0 ∨ (f (a : Int)).getD 5 0 = (p : Int)) : NoneAt f k a := by
  intro b hb hw
  have hlt : i < pcs b.length := by
    rcases hc with rfl | hc
    · exact pcs_pos _
    · have := whole_count hw hb
      omega
  have := hw i hlt
  rw [this, lay_last _ _ _ _ (partAt_le _ _)] at hbad
  exact hbad rfl
theorem zs_last : zs64.getD 63 0 ≠ 1 := by decide
theorem none_of_zero (h : f (a : Int) = zs64) : NoneAt f k a := none_of_bad (i := 0) (p := 1) (by omega) (by rw [Nat.add_zero, h]; exact zs_last) (.inl rfl)
end

/-! ### many, one behind the other -/
def used : List (List Int) → Nat
  | [] => 0
  | b :: r => pcs b.length + used r
theorem used_append (R R' : List (List Int)) : used (R ++ R') = used R + used R' := by
  induction R with
  | nil => simp [used]
  | cons b R ih => simp only [List.cons_append, used, ih]; omega
theorem used_one (R : List (List Int)) (b : List Int) : used (R ++ [b]) = used R + pcs b.length := by rw [used_append]; simp [used]
theorem used_ge (R : List (List Int)) : R.length ≤ used R := by
  induction R with
  | nil => simp [used]
  | cons b R ih => have := pcs_pos b.length; simp only [List.length_cons, used]; omega
theorem NoneAt.cast {f : Sects} {k k' a a' : Nat} (h : NoneAt f k a) (hk : k = k') (ha : a = a') : NoneAt f k' a' := by subst hk ha; exact h
def Run (f : Sects) : Nat → Nat → List (List Int) → Prop
  | _, _, [] => True
  | k, a, b :: r => pcs b.length ≤ 255 ∧ Whole f (k + 1) a b ∧ Run f (k + 1) (a + pcs b.length) r
section
variable {f f' : Sects}
theorem Run.add : ∀ {R R' : List (List Int)} {k a : Nat}, Run f k a (R ++ R') ↔ Run f k a R ∧ Run f (k + R.length) (a + used R) R'
  | [], _, _, _ => by simp [Run, used]
  | b :: R, R', k, a => by
    simp only [List.cons_append, Run, List.length_cons, used]
    rw [Run.add (R := R)]
    rw [show k + 1 + R.length = k + (R.length + 1) by omega, show a + pcs b.length + used R = a + (pcs b.length + used R) by omega]
    exact ⟨fun ⟨h1, h2, h3, h4⟩ => ⟨⟨h1, h2, h3⟩, h4⟩, fun ⟨⟨h1, h2, h3⟩, h4⟩ => ⟨h1, h2, h3, h4⟩⟩
theorem Run.snoc {R : List (List Int)} {b : List Int} {k a : Nat} (h : Run f k a R) (hb : pcs b.length ≤ 255) (hw : Whole f (k + R.length + 1) (a + used R) b) : Run f k a (R ++ [b]) := Run.add.2 ⟨h, hb, hw, trivial⟩
theorem Run.same : ∀ {R : List (List Int)} {k a : Nat}, Run f k a R → (∀ y : Nat, a ≤ y → y < a + used R → f' (y : Int) = f (y : Int)) → Run f' k a R
  | [], _, _, _, _ => trivial
  | b :: R, k, a, ⟨h1, h2, h3⟩, h => by
    simp only [used] at h
    refine ⟨h1, fun j hj => ?_, h3.same fun y hy hy' => h y (by omega) (by omega)⟩
    rw [h (a + j) (by omega) (by omega)]
    exact h2 j hj
theorem Run.one : ∀ {R R' : List (List Int)} {k a : Nat}, Run f k a R → NoneAt f (k + R.length + 1) (a + used R) → Run f k a R' → NoneAt f (k + R'.length + 1) (a + used R') → R = R'
  | [], [], _, _, _, _, _, _ => rfl
  | [], b :: R', k, a, _, h2, ⟨h3, h4, _⟩, _ => absurd h4 (h2 b h3)
  | b :: R, [], k, a, ⟨h1, h2, _⟩, _, _, h4 => absurd h2 (h4 b h1)
  | b :: R, b' :: R', k, a, ⟨h1, h2, h3⟩, h4, ⟨h5, h6, h7⟩, h8 => by
    obtain rfl := whole_one h2 h6 h1 h5
    simp only [List.length_cons, used] at h4 h8
    rw [h3.one (R' := R') (h4.cast (by omega) (by omega)) h7 (h8.cast (by omega) (by omega))]
/-- Behind the disk's end nothing is. -/
def FinF (f : Sects) : Prop := ∀ y : Int, y < 0 ∨ 2048 ≤ y → f y = zs64
theorem Whole.fits {k a : Nat} {b : List Int} (hF : FinF f) (h : Whole f k a b) : a + pcs b.length ≤ 2048 := by
  have hp := pcs_pos b.length
  have := h (pcs b.length - 1) (by omega)
  rcases Nat.lt_or_ge (a + (pcs b.length - 1)) 2048 with hl | hl
  · omega
  · rw [hF _ (.inr (by omega))] at this
    have e := lay_last k (pcs b.length - 1) (pcs b.length) _ (partAt_le b (pcs b.length - 1))
    rw [← this] at e
    exact absurd e zs_last
theorem Run.fits (hF : FinF f) : ∀ {R : List (List Int)} {k a : Nat}, Run f k a R → a ≤ 2048 → a + used R ≤ 2048
  | [], _, _, _, h => by simpa [used] using h
  | b :: R, k, a, ⟨_, h2, h3⟩, _ => by
    have := h3.fits hF (h2.fits hF)
    simp only [used]; omega
/-- What Open finds. -/
def Opened (f : Sects) (R : List (List Int)) : Prop := Run f 0 0 R ∧ NoneAt f (R.length + 1) (used R)
theorem Opened.one {R R' : List (List Int)} (h : Opened f R) (h' : Opened f R') : R = R' :=
  h.1.one (by simpa using h.2) h'.1 (by simpa using h'.2)
/-- A disk that has records, and nothing else. -/
def LogF (f : Sects) (R : List (List Int)) : Prop := Run f 0 0 R ∧ ∀ y : Int, y < 0 ∨ (used R : Int) ≤ y → f y = zs64
theorem LogF.opened {R : List (List Int)} (h : LogF f R) : Opened f R := ⟨h.1, none_of_zero (h.2 _ (.inr (Int.le_refl _)))⟩
theorem LogF.fin {R : List (List Int)} (h : LogF f R) (hu : used R ≤ 2048) : FinF f := fun y hy => h.2 y (by omega)
theorem logF_nil : LogF (fun _ => zs64) [] := ⟨trivial, fun _ _ => rfl⟩
theorem Opened.fits {R : List (List Int)} (h : Opened f R) (hF : FinF f) : used R ≤ 2048 := by have := h.1.fits hF (Nat.zero_le _); omega
/-- What is wiped. -/
theorem Opened.wiped {R : List (List Int)} (h : Opened f R) (hF : FinF f) (h1 : ∀ y : Int, y < used R → f' y = f y) (h2 : ∀ y : Int, (used R : Int) ≤ y → y < 2048 → f' y = zs64) (h3 : ∀ y : Int, 2048 ≤ y → f' y = zs64) : LogF f' R := by
  refine ⟨h.1.same fun y _ hy => h1 y (by omega), fun y hy => ?_⟩
  rcases hy with hy | hy
  · rw [h1 y (by omega)]; exact hF y (.inl hy)
  · rcases Int.lt_or_le y 2048 with hl | hl
    · exact h2 y hy hl
    · exact h3 y hl
end

/-! ### what a Put writes -/
def putWs (k e : Nat) (b : List Int) (n : Nat) : List (Int × List Int) := (List.range n).map fun j => (((e + j : Nat) : Int), layL k j (pcs b.length) (partAt b j))
theorem putWs_len (k e : Nat) (b : List Int) (n : Nat) : (putWs k e b n).length = n := by simp [putWs]
theorem putWs_succ (k e : Nat) (b : List Int) (n : Nat) : putWs k e b (n + 1) = putWs k e b n ++ [(((e + n : Nat) : Int), layL k n (pcs b.length) (partAt b n))] := by simp [putWs, List.range_succ]
theorem putWs_at (k e : Nat) (b : List Int) {n i : Nat} (h : i < n) : (putWs k e b n).getD i (0, []) = (((e + i : Nat) : Int), layL k i (pcs b.length) (partAt b i)) := by
  rw [List.getD_eq_getElem?_getD, putWs, List.getElem?_map, List.getElem?_range h]; rfl
theorem syncF_put (f : Sects) (k e : Nat) (b : List Int) : ∀ n (y : Int), syncF f (putWs k e b n) y = if (e : Int) ≤ y ∧ y < ((e + n : Nat) : Int) then layL k (y - e).toNat (pcs b.length) (partAt b (y - e).toNat) else f y
  | 0, y => by
    rw [if_neg (by omega)]; rfl
  | n + 1, y => by
    rw [putWs_succ]
    have : syncF f (putWs k e b n ++ [(((e + n : Nat) : Int), layL k n (pcs b.length) (partAt b n))]) = updF (syncF f (putWs k e b n)) ((e + n : Nat) : Int) (layL k n (pcs b.length) (partAt b n)) := by
      unfold syncF
      rw [List.foldl_append]; rfl
    rw [this]
    unfold updF
    by_cases hy : y = ((e + n : Nat) : Int)
    · subst hy
      rw [if_pos rfl, if_pos (by omega), show (((e + n : Nat) : Int) - (e : Int)).toNat = n by omega]
    · rw [if_neg hy, syncF_put f k e b n y]
      by_cases h : (e : Int) ≤ y ∧ y < ((e + n : Nat) : Int)
      · rw [if_pos h, if_pos (by omega)]
      · rw [if_neg h, if_neg (by omega)]
/-- One more record. -/
theorem LogF.put {f : Sects} {R : List (List Int)} (h : LogF f R) (b : List Int) (hb : pcs b.length ≤ 255) : LogF (syncF f (putWs (R.length + 1) (used R) b (pcs b.length))) (R ++ [b]) := by
  refine ⟨Run.snoc (h.1.same fun y _ hy => ?_) hb (fun j hj => ?_), fun y hy => ?_⟩
  · rw [syncF_put, if_neg (by omega)]
  · simp only [Nat.zero_add]
    rw [syncF_put, if_pos (by omega), show (((used R + j : Nat) : Int) - (used R : Int)).toNat = j by omega]
  · rw [used_one] at hy
    rw [syncF_put, if_neg (by omega)]
    exact h.2 y (by omega)

/-! ### a crash while a record is put -/
theorem crash_out {mask torn : Int} {q k e : Nat} {b : List Int} {N : Nat} (f : Sects) : ∀ n, n ≤ N → ∀ y : Int, y < e ∨ ((e + n : Nat) : Int) ≤ y → crashF mask torn q (putWs k e b N) f n y = f y
  | 0, _, _, _ => rfl
  | n + 1, hn, y, hy => by
    rw [crashF, putWs_at k e b (by omega)]
    unfold crashStep updF
    have h := crash_out (mask := mask) (torn := torn) (q := q) (k := k) (e := e) (b := b) (N := N) f n (by omega) y (by omega)
    have hne : ¬ y = ((e + n : Nat) : Int) := by omega
    simp only
    split
    · exact (if_neg hne).trans h
    · split
      · exact (if_neg hne).trans h
      · exact h
theorem crash_first {mask torn : Int} {q k e : Nat} {b : List Int} {N : Nat} (f : Sects) (hz : f (e : Int) = zs64) : ∀ n, n ≤ N → ∃ g : List Int, crashF mask torn q (putWs k e b N) f n (e : Int) = g ∧ (g = zs64 ∨ g = layL k 0 (pcs b.length) (partAt b 0) ∨ g = mixB q (layL k 0 (pcs b.length) (partAt b 0)) zs64)
  | 0, _ => ⟨_, rfl, .inl hz⟩
  | n + 1, hn => by
    rw [crashF, putWs_at k e b (by omega)]
    obtain ⟨g, hg, h⟩ := crash_first (mask := mask) (torn := torn) (q := q) (k := k) (e := e) (b := b) (N := N) f hz n (by omega)
    unfold crashStep updF
    simp only
    rcases Nat.eq_zero_or_pos n with rfl | h0
    · have e0 : (e : Int) = ((e + 0 : Nat) : Int) := rfl
      split
      · exact ⟨_, rfl, .inr (.inr ((if_pos e0).trans (by rw [← e0]; unfold crashF; rw [hz])))⟩
      · split
        · exact ⟨_, rfl, .inr (.inl (if_pos e0))⟩
        · exact ⟨g, hg, h⟩
    · have hne : ¬ (e : Int) = ((e + n : Nat) : Int) := by omega
      split
      · exact ⟨g, (if_neg hne).trans hg, h⟩
      · split
        · exact ⟨g, (if_neg hne).trans hg, h⟩
        · exact ⟨g, hg, h⟩
theorem mix_last {q : Nat} {s : List Int} (hs : s.length = 64) (hq : q < 64) : (mixB q s zs64).getD 63 0 ≠ 1 := by
  unfold mixB
  rw [List.getD_eq_getElem?_getD, List.getElem?_append_right (by rw [List.length_take]; omega)]
  unfold zs64
  rw [List.drop_replicate, List.getElem?_replicate]
  split <;> simp
/-- Fewer sectors than a record has: it is not there. -/
theorem LogF.crashed {f : Sects} {R : List (List Int)} (h : LogF f R) (b : List Int) (hb : pcs b.length ≤ 255) (n : Nat) (hn : n < pcs b.length) (mask torn : Int) (q : Nat) (hq : q ≤ 64) : Opened (crashF mask torn q (putWs (R.length + 1) (used R) b n) f n) R := by
  have hout := crash_out (mask := mask) (torn := torn) (q := q) (k := R.length + 1) (e := used R) (b := b) (N := n) f n (Nat.le_refl _)
  refine ⟨h.1.same fun y _ hy => hout y (by omega), ?_⟩
  have hz : f (used R : Int) = zs64 := h.2 _ (.inr (Int.le_refl _))
  obtain ⟨g, hg, hc⟩ := crash_first (mask := mask) (torn := torn) (q := q) (k := R.length + 1) (e := used R) (b := b) (N := n) f hz n (Nat.le_refl _)
  have full : g = layL (R.length + 1) 0 (pcs b.length) (partAt b 0) → NoneAt (crashF mask torn q (putWs (R.length + 1) (used R) b n) f n) (R.length + 1) (used R) := fun e => by
    refine none_of_bad (i := n) (p := pcs b.length) hn ?_ (.inr ?_)
    · rw [hout _ (.inr (Int.le_refl _)), h.2 _ (.inr (by omega))]; exact zs_last
    · rw [hg, e, lay_5, Nat.mod_eq_of_lt (by omega)]
  rcases hc with rfl | e | e
  · exact none_of_zero hg
  · exact full e
  · rcases Nat.lt_or_ge q 64 with hl | hl
    · refine none_of_bad (i := 0) (p := 1) (by omega) ?_ (.inl rfl)
      have e0 : ((used R + 0 : Nat) : Int) = (used R : Int) := rfl
      rw [e0, hg, e]
      exact mix_last (lay_len _ _ _ _ (partAt_le _ _)) hl
    · obtain rfl : q = 64 := by omega
      refine full (e.trans ?_)
      unfold mixB
      rw [List.take_of_length_le (by rw [lay_len _ _ _ _ (partAt_le _ _)]; exact Nat.le_refl _)]
      simp [zs64]
theorem LogF.crashFin {f : Sects} {R : List (List Int)} (h : LogF f R) (b : List Int) (n : Nat) (hn : used R + n ≤ 2048) (mask torn : Int) (q : Nat) : FinF (crashF mask torn q (putWs (R.length + 1) (used R) b n) f n) := fun y hy => by
  rw [crash_out f n (Nat.le_refl _) y (by omega)]
  exact h.2 y (by omega)
end Go.Proofs.YtccdifplpbnclaaDoor
