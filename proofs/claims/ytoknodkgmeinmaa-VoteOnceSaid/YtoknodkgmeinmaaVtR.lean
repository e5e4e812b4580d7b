/- All that law 13's VoteOnce holds; what its calls and stores make of it. -/
import Derived.Test.YtoknodkgmeinmaaVtS
namespace Go.Proofs.Ytoknodkgmeinmaa.vx
open Go.RowKit

/-- A slice of one that was just made, appended. -/
theorem ap_new {s e : TypeId} {z : Value} {size bytes : Nat} (hu : Try.prog.underlying s = some (.slice e)) (hinfo : (Try.prog.info? e).map (fun i => (i.zero, i.size, i.bytes)) = some (some z, size, bytes)) (hzs : z.cells.size = size) (hsz : 0 < size) (hby2 : bytes ≤ 100000)
    {w : World} {base n : Nat} {v : Value} {xs : List Value} (hown : w.ownsRow base e size v n xs) {us : List Value} (hus : IsV size us) (h2 : n ≤ 900) (hb : base ≤ w.heap.size) :
    ∃ v' w', HasAp s (w.alloc (.cells us.toArray e)) v (.slice (some ⟨w.heap.size, 0, none⟩) 1 1) ∧ apP s (w.alloc (.cells us.toArray e)) v (.slice (some ⟨w.heap.size, 0, none⟩) 1 1) = (v', w') ∧ w'.ownsRow base e size v' (n + 1) (xs ++ us) ∧
      (w.alloc (.cells us.toArray e)).grownBy w' v.ownBlock ∧ (v'.ownBlock = v.ownBlock ∨ v'.ownBlock = some (w.alloc (.cells us.toArray e)).heap.size) :=
  ap_any hu hinfo hzs hsz hby2 (hown.alloc _) (B := w.heap.size + 1)
    ⟨by rw [hus.1, Nat.one_mul], fun _ => ⟨_, rfl, Nat.lt_succ_self _, fun j u hj => by
      have := (VBlk.new w e us).cellAt hj
      rwa [show (Addr.add ⟨w.heap.size, 0, none⟩ j) = ⟨w.heap.size, j, none⟩ by simp [Addr.add]; exact fun h => h.symm]⟩⟩ hus.2 (by omega) (by simp; omega)
def ptrV (g : Nat) : Value := .pointer (some ⟨g, 0, none⟩)
structure On (w0 : World) (p5 p7 : Nat) (v9 v10 v11 v12 v13 : Value) (gs : List Nat) (v : V) (s : Ps) (ch : List (List Int)) (a b c d : Nat) (w : World) : Prop where
  vw : IBlk w p5 27 (zV v)
  ac : IBlk w p7 36 (fl 5 (accF s))
  g1 : w.ownsRow w0.heap.size 45 1 v9 a (gs.map ptrV)
  g2 : ∀ i, i < a → ∃ g, gs[i]? = some g ∧ w0.heap.size ≤ g ∧ IBlk w g 70 (vtL (s.vt i))
  g3 : ∀ i j g, i < a → j < a → gs[i]? = some g → gs[j]? = some g → i = j
  o1 : w.ownsRow w0.heap.size 49 30 v10 b (fl (b * 5) (vowF s))
  o2 : w.ownsRow w0.heap.size 50 5 v11 c (fl (c * 5) (tokF s))
  o3 : ∃ xs, w.ownsRow w0.heap.size 33 3 v12 d xs
  o4 : w.ownsRow w0.heap.size 33 3 v13 ch.length (fl ch.length fun i => iV (ch.getD i []))
  ne : ∀ g, v12.ownBlock = some g → v13.ownBlock ≠ some g
  under : Below w0.heap.size w0 w
  p70 : w0.heap.size ≤ p7
section
variable {w0 w w' : World} {p5 p7 : Nat} {v9 v10 v11 v12 v13 : Value} {gs : List Nat} {v : V} {s s' : Ps} {ch : List (List Int)} {a b c d : Nat}
theorem On.next (h : On w0 p5 p7 v9 v10 v11 v12 v13 gs v s ch a b c d w) (k : Below w.heap.size w w') : On w0 p5 p7 v9 v10 v11 v12 v13 gs v s ch a b c d w' := by
  have o := only_of_below k (fun _ => False)
  have ow : ∀ {e : TypeId} {size n : Nat} {v : Value} {xs : List Value}, w.ownsRow w0.heap.size e size v n xs → w'.ownsRow w0.heap.size e size v n xs := fun h => own_only h o (fun _ _ hf => hf)
  refine ⟨h.vw.below k h.vw.lt, h.ac.below k h.ac.lt, ow h.g1, fun i hi => ?_, h.g3, ow h.o1, ow h.o2, ?_, ow h.o4, h.ne, h.under.trans (k.mono h.under.size), h.p70⟩
  · obtain ⟨g, h1, h2, h3⟩ := h.g2 i hi
    exact ⟨g, h1, h2, h3.below k h3.lt⟩
  · obtain ⟨xs, hx⟩ := h.o3
    exact ⟨xs, ow hx⟩
theorem On.drew (h : On w0 p5 p7 v9 v10 v11 v12 v13 gs v s ch a b c d w) : On w0 p5 p7 v9 v10 v11 v12 v13 gs v s ch a b c d w.drew := h.next (Below.drewR (Below.refl _ _))
theorem On.drewN (h : On w0 p5 p7 v9 v10 v11 v12 v13 gs v s ch a b c d w) (k : Nat) : On w0 p5 p7 v9 v10 v11 v12 v13 gs v s ch a b c d (w.drewN k) := h.next ⟨rfl, rfl, rfl, Nat.le_refl _, fun _ _ => rfl⟩
/-- A vote has turned. -/
theorem On.vote (h : On w0 p5 p7 v9 v10 v11 v12 v13 gs v s ch a b c d w) {i g : Nat} (hi : i < a) (hg : gs[i]? = some g) {x : Vt} (hx : IBlk w' g 70 (vtL x)) (k : Only (· = g) w w') :
    On w0 p5 p7 v9 v10 v11 v12 v13 gs v (setVt s i x) ch a b c d w' := by
  obtain ⟨g', hg', hg0, hb⟩ := h.g2 i hi
  obtain rfl : g' = g := Option.some.inj (hg'.symm.trans hg)
  refine ⟨blk_keep h.vw hb (by decide) k, blk_keep h.ac hb (by decide) k, own_keep h.g1 hb (by decide) k, fun j hj => ?_, h.g3, own_keep h.o1 hb (by decide) k, own_keep h.o2 hb (by decide) k, ?_, own_keep h.o4 hb (by decide) k, h.ne, below_only h.under k (fun i (e : i = g') => by omega) h.under.size, h.p70⟩
  · obtain ⟨gj, h1, h2, h3⟩ := h.g2 j hj
    by_cases e : j = i
    · subst e
      obtain rfl : g' = gj := Option.some.inj (hg.symm.trans h1)
      exact ⟨g', h1, h2, by rw [show (setVt s j x).vt j = x from if_pos rfl]; exact hx⟩
    · exact ⟨gj, h1, h2, by rw [show (setVt s i x).vt j = s.vt j from if_neg e]; exact h3.only k (fun e2 => e (h.g3 j i gj hj hi h1 (by rw [e2]; exact hg)))⟩
  · obtain ⟨xs, hx⟩ := h.o3
    exact ⟨xs, own_keep hx hb (by decide) k⟩
/-- One who vows and takes has turned. -/
theorem On.acc (h : On w0 p5 p7 v9 v10 v11 v12 v13 gs v s ch a b c d w) {q : Nat} (hq : q < 5) (A : Acc) :
    On w0 p5 p7 v9 v10 v11 v12 v13 gs v { s with acc := fun p => if p = q then A else s.acc p } ch a b c d (w.setCells p7 (q * 8) (iV (accL A))) := by
  have k := only_cells w p7 (q * 8) (iV (accL A))
  have hb := h.ac
  have hl := fl_len (accF_len s)
  refine ⟨blk_keep h.vw hb (by decide) k, ?_, own_keep h.g1 hb (by decide) k, fun j hj => ?_, h.g3, own_keep h.o1 hb (by decide) k, own_keep h.o2 hb (by decide) k, ?_, own_keep h.o4 hb (by decide) k, h.ne, below_only h.under k (fun i (e : i = p7) => by have := h.p70; omega) h.under.size, h.p70⟩
  · have := h.ac.setN (o := q * 8) (xs := accL A) (by rw [hl, accL_length]; omega)
    rw [accL_length, fl_set (accF_len s) hq] at this
    rw [show fl 5 (accF { s with acc := fun p => if p = q then A else s.acc p }) = fl 5 (fun j => if j = q then accL A else accF s j) from fl_ext fun j _ => by
      show accL (if j = q then A else s.acc j) = _
      split <;> rfl]
    exact this
  · obtain ⟨gj, h1, h2, h3⟩ := h.g2 j hj
    exact ⟨gj, h1, h2, blk_keep h3 hb (by decide) k⟩
  · obtain ⟨xs, hx⟩ := h.o3
    exact ⟨xs, own_keep hx hb (by decide) k⟩
/-- What was told is written down. -/
theorem On.vow (h : On w0 p5 p7 v9 v10 v11 v12 v13 gs v s ch a b c d w) (hvl : ∀ m, m < b * 5 → (vowF s m).length = 6) {i q : Nat} (hi : i < b) (hq : q < 5) {o : Int × Int × List Int} (hol : (vowL (some o)).length = 6) {g cap : Nat} (hv : v10 = .slice (some ⟨g, 0, none⟩) b cap) :
    On w0 p5 p7 v9 v10 v11 v12 v13 gs v { s with vow := fun j p => if j = i ∧ p = q then some o else s.vow j p } ch a b c d (w.setCells g ((i * 5 + q) * 6) (vowL (some o))) := by
  subst hv
  have k := only_cells w g ((i * 5 + q) * 6) (vowL (some o))
  obtain ⟨cs, hb, hg0⟩ := own_type h.o1 (g := g) rfl
  refine ⟨blk_keep h.vw hb (by decide) k, blk_keep h.ac hb (by decide) k, own_keep h.g1 hb (by decide) k, fun j hj => ?_, h.g3, ?_, own_keep h.o2 hb (by decide) k, ?_, own_keep h.o4 hb (by decide) k, h.ne, below_only h.under k (fun i (e : i = g) => by omega) h.under.size, h.p70⟩
  · obtain ⟨gj, h1, h2, h3⟩ := h.g2 j hj
    exact ⟨gj, h1, h2, blk_keep h3 hb (by decide) k⟩
  · have hl := fl_len hvl
    have := own_store h.o1 (o := (i * 5 + q) * 6) (us := vowL (some o)) (by rw [hl, hol]; omega)
    rw [hol, fl_set hvl (show i * 5 + q < b * 5 by omega)] at this
    rw [show fl (b * 5) (vowF { s with vow := fun j p => if j = i ∧ p = q then some o else s.vow j p }) = fl (b * 5) (fun j => if j = i * 5 + q then vowL (some o) else vowF s j) from fl_ext fun j _ => by
      show vowL (if j / 5 = i ∧ j % 5 = q then some o else s.vow (j / 5) (j % 5)) = _
      by_cases e : j = i * 5 + q
      · rw [if_pos e, if_pos (by omega)]
      · rw [if_neg e, if_neg (by omega)]; rfl]
    exact this
  · obtain ⟨xs, hx⟩ := h.o3
    exact ⟨xs, own_keep hx hb (by decide) k⟩
/-- One took it. -/
theorem On.tok (h : On w0 p5 p7 v9 v10 v11 v12 v13 gs v s ch a b c d w) {i q : Nat} (hi : i < c) (hq : q < 5) {g cap : Nat} (hv : v11 = .slice (some ⟨g, 0, none⟩) c cap) :
    On w0 p5 p7 v9 v10 v11 v12 v13 gs v { s with tk := fun j p => if j = i ∧ p = q then true else s.tk j p } ch a b c d (w.setCell ⟨g, i * 5 + q, none⟩ (.bool true)) := by
  subst hv
  have k := only_cell w g (i * 5 + q) (.bool true)
  obtain ⟨cs, hb, hg0⟩ := own_type h.o2 (g := g) rfl
  refine ⟨blk_keep h.vw hb (by decide) k, blk_keep h.ac hb (by decide) k, own_keep h.g1 hb (by decide) k, fun j hj => ?_, h.g3, own_keep h.o1 hb (by decide) k, ?_, ?_, own_keep h.o4 hb (by decide) k, h.ne, below_only h.under k (fun i (e : i = g) => by omega) h.under.size, h.p70⟩
  · obtain ⟨gj, h1, h2, h3⟩ := h.g2 j hj
    exact ⟨gj, h1, h2, blk_keep h3 hb (by decide) k⟩
  · have hl := fl_len (tokF_len s (c * 5))
    have := own_store h.o2 (o := i * 5 + q) (us := [.bool true]) (by rw [hl]; show i * 5 + q + 1 ≤ _; omega)
    have e2 := fl_set (tokF_len s (c * 5)) (show i * 5 + q < c * 5 by omega) [.bool true]
    rw [Nat.mul_one] at e2
    rw [show ([Value.bool true]).length = 1 from rfl, e2] at this
    rw [show fl (c * 5) (tokF { s with tk := fun j p => if j = i ∧ p = q then true else s.tk j p }) = fl (c * 5) (fun j => if j = i * 5 + q then [.bool true] else tokF s j) from fl_ext fun j _ => by
      show [Value.bool (if j / 5 = i ∧ j % 5 = q then true else s.tk (j / 5) (j % 5))] = _
      by_cases e : j = i * 5 + q
      · rw [if_pos e, if_pos (by omega)]
      · rw [if_neg e, if_neg (by omega)]; rfl]
    exact this
  · obtain ⟨xs, hx⟩ := h.o3
    exact ⟨xs, own_keep hx hb (by decide) k⟩
/-! ### rows that grow -/
theorem On.addVote (h : On w0 p5 p7 v9 v10 v11 v12 v13 gs v s ch s.n b c d w) (hbn : b ≤ s.n) (hcn : c ≤ s.n) {g : Nat} (hg : ∀ i g', i < s.n → gs[i]? = some g' → g' ≠ g) (hg0 : w0.heap.size ≤ g) {x : Vt} (hx : IBlk w g 70 (vtL x)) {v9' : Value}
    (ho : w'.ownsRow w0.heap.size 45 1 v9' (s.n + 1) (gs.map ptrV ++ [ptrV g])) (k : w.grownBy w' v9.ownBlock) :
    On w0 p5 p7 v9' v10 v11 v12 v13 (gs ++ [g]) v (newS s x) ch (s.n + 1) b c d w' := by
  have hl : gs.length = s.n := by have := h.g1.1; simpa using this
  refine ⟨blk_keepA h.vw h.g1 (by decide) k, blk_keepA h.ac h.g1 (by decide) k, by rw [List.map_append]; exact ho, fun j hj => ?_, fun i j g' hi hj h1 h2 => ?_, ?_, ?_, ?_, own_keepA h.o4 h.g1 (by decide) k, h.ne, below_grown h.under h.g1 (Nat.le_refl _) k, h.p70⟩
  · by_cases e : j = s.n
    · subst e
      exact ⟨g, by rw [List.getElem?_append_right (by omega), hl]; simp, hg0, by rw [show (newS s x).vt s.n = x from if_pos rfl]; exact blk_keepA hx h.g1 (by decide) k⟩
    · obtain ⟨gj, h1, h2, h3⟩ := h.g2 j (by omega)
      exact ⟨gj, by rw [List.getElem?_append_left (by omega)]; exact h1, h2, by rw [show (newS s x).vt j = s.vt j from if_neg e]; exact blk_keepA h3 h.g1 (by decide) k⟩
  · have key : ∀ m, m < s.n + 1 → (gs ++ [g])[m]? = some g' → (m = s.n ∧ g' = g) ∨ (m < s.n ∧ gs[m]? = some g') := fun m hm he => by
      by_cases e : m = s.n
      · subst e
        rw [List.getElem?_append_right (by omega), hl] at he
        exact .inl ⟨rfl, by simpa using he.symm⟩
      · rw [List.getElem?_append_left (by omega)] at he
        exact .inr ⟨by omega, he⟩
    rcases key i hi h1 with ⟨e1, e2⟩ | ⟨e1, e2⟩ <;> rcases key j hj h2 with ⟨f1, f2⟩ | ⟨f1, f2⟩
    · omega
    · exact absurd e2 (hg j g' f1 f2)
    · exact absurd f2 (hg i g' e1 e2)
    · exact h.g3 i j g' e1 f1 e2 f2
  · rw [show fl (b * 5) (vowF (newS s x)) = fl (b * 5) (vowF s) from fl_ext fun m hm => by
      show vowL (if m / 5 = s.n then none else s.vow (m / 5) (m % 5)) = _
      rw [if_neg (by omega)]; rfl]
    exact own_keepA h.o1 h.g1 (by decide) k
  · rw [show fl (c * 5) (tokF (newS s x)) = fl (c * 5) (tokF s) from fl_ext fun m hm => by
      show [Value.bool (if m / 5 = s.n then false else s.tk (m / 5) (m % 5))] = _
      rw [if_neg (by omega)]; rfl]
    exact own_keepA h.o2 h.g1 (by decide) k
  · obtain ⟨xs, hx⟩ := h.o3
    exact ⟨xs, own_keepA hx h.g1 (by decide) k⟩
theorem On.addVows (h : On w0 p5 p7 v9 v10 v11 v12 v13 gs v s ch a b c d w) (hb : ∀ q, q < 5 → s.vow b q = none) {v10' : Value} (ho : w'.ownsRow w0.heap.size 49 30 v10' (b + 1) (fl (b * 5) (vowF s) ++ zvows)) (k : w.grownBy w' v10.ownBlock) :
    On w0 p5 p7 v9 v10' v11 v12 v13 gs v s ch a (b + 1) c d w' := by
  refine ⟨blk_keepA h.vw h.o1 (by decide) k, blk_keepA h.ac h.o1 (by decide) k, own_keepA h.g1 h.o1 (by decide) k, fun j hj => ?_, h.g3, ?_, own_keepA h.o2 h.o1 (by decide) k, ?_, own_keepA h.o4 h.o1 (by decide) k, h.ne, below_grown h.under h.o1 (Nat.le_refl _) k, h.p70⟩
  · obtain ⟨gj, h1, h2, h3⟩ := h.g2 j hj
    exact ⟨gj, h1, h2, blk_keepA h3 h.o1 (by decide) k⟩
  · have e : ∀ q, q < 5 → vowF s (b * 5 + q) = vowL none := fun q hq => by
      show vowL (s.vow ((b * 5 + q) / 5) ((b * 5 + q) % 5)) = _
      rw [show (b * 5 + q) / 5 = b by omega, show (b * 5 + q) % 5 = q by omega, hb q hq]
    rw [show (b + 1) * 5 = b * 5 + 0 + 1 + 1 + 1 + 1 + 1 by omega, fl_succ, fl_succ, fl_succ, fl_succ, fl_succ, show vowF s (b * 5) = _ from e 0 (by omega), show vowF s (b * 5 + 1) = _ from e 1 (by omega), show vowF s (b * 5 + 2) = _ from e 2 (by omega), show vowF s (b * 5 + 3) = _ from e 3 (by omega), show vowF s (b * 5 + 4) = _ from e 4 (by omega)]
    have ez : zvows = vowL none ++ vowL none ++ vowL none ++ vowL none ++ vowL none := rfl
    rw [ez] at ho
    simpa only [List.append_assoc, Nat.add_zero] using ho
  · obtain ⟨xs, hx⟩ := h.o3
    exact ⟨xs, own_keepA hx h.o1 (by decide) k⟩
theorem On.addToks (h : On w0 p5 p7 v9 v10 v11 v12 v13 gs v s ch a b c d w) (hb : ∀ q, q < 5 → s.tk c q = false) {v11' : Value} (ho : w'.ownsRow w0.heap.size 50 5 v11' (c + 1) (fl (c * 5) (tokF s) ++ ztoks)) (k : w.grownBy w' v11.ownBlock) :
    On w0 p5 p7 v9 v10 v11' v12 v13 gs v s ch a b (c + 1) d w' := by
  refine ⟨blk_keepA h.vw h.o2 (by decide) k, blk_keepA h.ac h.o2 (by decide) k, own_keepA h.g1 h.o2 (by decide) k, fun j hj => ?_, h.g3, own_keepA h.o1 h.o2 (by decide) k, ?_, ?_, own_keepA h.o4 h.o2 (by decide) k, h.ne, below_grown h.under h.o2 (Nat.le_refl _) k, h.p70⟩
  · obtain ⟨gj, h1, h2, h3⟩ := h.g2 j hj
    exact ⟨gj, h1, h2, blk_keepA h3 h.o2 (by decide) k⟩
  · have e : ∀ q, q < 5 → tokF s (c * 5 + q) = [.bool false] := fun q hq => by
      show [Value.bool (s.tk ((c * 5 + q) / 5) ((c * 5 + q) % 5))] = _
      rw [show (c * 5 + q) / 5 = c by omega, show (c * 5 + q) % 5 = q by omega, hb q hq]
    rw [show (c + 1) * 5 = c * 5 + 0 + 1 + 1 + 1 + 1 + 1 by omega, fl_succ, fl_succ, fl_succ, fl_succ, fl_succ, show tokF s (c * 5) = _ from e 0 (by omega), show tokF s (c * 5 + 1) = _ from e 1 (by omega), show tokF s (c * 5 + 2) = _ from e 2 (by omega), show tokF s (c * 5 + 3) = _ from e 3 (by omega), show tokF s (c * 5 + 4) = _ from e 4 (by omega)]
    have ez : ztoks = [Value.bool false] ++ [Value.bool false] ++ [Value.bool false] ++ [Value.bool false] ++ [Value.bool false] := rfl
    rw [ez] at ho
    simpa only [List.append_assoc, Nat.add_zero] using ho
  · obtain ⟨xs, hx⟩ := h.o3
    exact ⟨xs, own_keepA hx h.o2 (by decide) k⟩
theorem On.addPuts (h : On w0 p5 p7 v9 v10 v11 v12 v13 gs v s ch a b c d w) {v12' : Value} {xs ys : List Value} (h3 : w.ownsRow w0.heap.size 33 3 v12 d xs) (ho : w'.ownsRow w0.heap.size 33 3 v12' (d + 1) ys) (k : w.grownBy w' v12.ownBlock) (hn : v12'.ownBlock = v12.ownBlock ∨ v12'.ownBlock = some w.heap.size) :
    On w0 p5 p7 v9 v10 v11 v12' v13 gs v s ch a b c (d + 1) w' := by
  refine ⟨blk_keepA h.vw h3 (by decide) k, blk_keepA h.ac h3 (by decide) k, own_keepA h.g1 h3 (by decide) k, fun j hj => ?_, h.g3, own_keepA h.o1 h3 (by decide) k, own_keepA h.o2 h3 (by decide) k, ⟨ys, ho⟩, ?_, fun g hg => ?_, below_grown h.under h3 (Nat.le_refl _) k, h.p70⟩
  · obtain ⟨gj, h1, h2, hj3⟩ := h.g2 j hj
    exact ⟨gj, h1, h2, blk_keepA hj3 h3 (by decide) k⟩
  · refine h.o4.kept k ?_
    cases hb : v13.ownBlock with
    | none => exact .inl rfl
    | some g => exact .inr fun hg => h.ne g hg.symm hb
  · rcases hn with hn | hn
    · rw [hn] at hg; exact h.ne g hg
    · rw [hn] at hg
      injection hg with hg
      intro h4
      have := (h.o4.lt g h4).2
      omega
theorem On.addChosen (h : On w0 p5 p7 v9 v10 v11 v12 v13 gs v s ch a b c d w) {v13' : Value} {x : List Int} (ho : w'.ownsRow w0.heap.size 33 3 v13' (ch.length + 1) ((fl ch.length fun i => iV (ch.getD i [])) ++ iV x)) (k : w.grownBy w' v13.ownBlock) (hn : v13'.ownBlock = v13.ownBlock ∨ v13'.ownBlock = some w.heap.size) :
    On w0 p5 p7 v9 v10 v11 v12 v13' gs v s (ch ++ [x]) a b c d w' := by
  refine ⟨blk_keepA h.vw h.o4 (by decide) k, blk_keepA h.ac h.o4 (by decide) k, own_keepA h.g1 h.o4 (by decide) k, fun j hj => ?_, h.g3, own_keepA h.o1 h.o4 (by decide) k, own_keepA h.o2 h.o4 (by decide) k, ?_, ?_, fun g hg h4 => ?_, below_grown h.under h.o4 (Nat.le_refl _) k, h.p70⟩
  · obtain ⟨gj, h1, h2, hj3⟩ := h.g2 j hj
    exact ⟨gj, h1, h2, blk_keepA hj3 h.o4 (by decide) k⟩
  · obtain ⟨xs, h3⟩ := h.o3
    refine ⟨xs, h3.kept k ?_⟩
    cases hb : v12.ownBlock with
    | none => exact .inl rfl
    | some g => exact .inr fun hg => h.ne g hb hg.symm
  · rw [List.length_append, show [x].length = 1 from rfl, fl_succ]
    have e1 : (fl ch.length fun i => iV ((ch ++ [x]).getD i [])) = fl ch.length fun i => iV (ch.getD i []) := fl_ext fun i hi => by
      rw [List.getD_eq_getElem?_getD, List.getD_eq_getElem?_getD, List.getElem?_append_left hi]
    rw [e1]
    simpa using ho
  · rcases hn with hn | hn
    · rw [hn] at h4; exact h.ne g hg h4
    · rw [hn] at h4
      injection h4 with h4
      obtain ⟨xs, h3⟩ := h.o3
      have := (h3.lt g hg).2
      omega
end
end Go.Proofs.Ytoknodkgmeinmaa.vx
