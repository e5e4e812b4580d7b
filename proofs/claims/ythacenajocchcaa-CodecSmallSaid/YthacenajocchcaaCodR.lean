/- The contracts of codec's Reader: need, Num, Small. -/
import Derived.Test.YthacenajocchcaaCod
import Derived.Test.YthacenajocchcaaOnly
import Derived.Test.YthacenajocchcaaBitsI
import Derived.OpenShut
import Derived.WalkLawsBesides
namespace Go.Proofs.Ythacenajocchcaa
open Go.RowKit

/-- A Reader at block g: the bytes that are left lie below it, and not in T. -/
def Rd (w : World) (g : Nat) (T : Nat → Prop) (bs : List Int) (gave : Bool) : Prop :=
  ∃ (A : Option Addr) (n c : Nat), Blk w g 72 #[.slice A n c, .bool gave] ∧ Reads w g 1 A n (bs.map (Value.int .u8)) ∧ n ≤ c ∧ c ≤ maxLen ∧ ∀ ad, 0 < n → A = some ad → ¬ T ad.block
/-- What a Reader throws. -/
def thrown : List PanicEntry := [{ v := .iface 74 (.agg #[]), recovered := false }]
section
variable {w w' : World} {g : Nat} {T : Nat → Prop} {bs : List Int} {gave : Bool}
theorem Rd.lt (h : Rd w g T bs gave) : g < w.heap.size := by obtain ⟨_, _, _, h, _⟩ := h; exact h.lt
theorem Rd.only {S : Nat → Prop} (h : Rd w g T bs gave) (k : Only S w w') (hg : ¬ S g) (hn : ∀ i, i < g → S i → T i) : Rd w' g T bs gave := by
  obtain ⟨A, n, c, h1, h2, h3, h4, h5⟩ := h
  have hlt := h1.lt
  refine ⟨A, n, c, h1.only k hg, ⟨h2.1, fun h0 => ?_⟩, h3, h4, h5⟩
  obtain ⟨ad, e, hb, hc⟩ := h2.2 h0
  exact ⟨ad, e, hb, fun j u hu => (k.cell (by rw [block_of_add]; omega) (by rw [block_of_add]; exact fun hs => h5 ad h0 e (hn _ hb hs))).trans (hc j u hu)⟩
end

theorem need_ok (g : Nat) (w : World) : Calls Try.prog 36 #[.pointer (some ⟨g, 0, none⟩), .bool true] w fun e w' => e = .returned (.tuple #[]) ∧ w = w' := by
  go_enter Try.func36, Try.ntmps36
  go_wp2
  go_end0
  exact ⟨rfl, rfl⟩
theorem need_no (g : Nat) (x : Value) (gave : Bool) (w : World) (hb : Blk w g 72 #[x, .bool gave]) :
    Calls Try.prog 36 #[.pointer (some ⟨g, 0, none⟩), .bool false] w fun e w' => e = .panicked thrown ∧ w' = w.setCell ⟨g, 1, none⟩ (.bool true) := by
  have hc : w.cell? ⟨g, 1, none⟩ = some (.bool gave) := by rw [hb.cell]; rfl
  have hz := hb.frozen 1
  clear hb
  go_enter Try.func36, Try.ntmps36
  go_wp2
  exact ⟨rfl, rfl, rfl⟩

/-- How a reading call ends: with what a reader told, or it gave up. -/
def Told {α : Type} (val : α → Value) (x : Option (α × List Int)) (w : World) (g : Nat) (T : Nat → Prop) (e : Ending) (w' : World) : Prop :=
  Only (· = g) w w' ∧ match x with
    | some (v, r) => e = .returned (val v) ∧ Rd w' g T r false
    | none => e = .panicked thrown ∧ ∃ r, Rd w' g T r true

theorem or_piece {k : Nat} {m x : Int} (hk : k < 9) (m0 : 0 ≤ m) (m1 : m < 128 ^ k) : bits .or .i64 m (wrap64 (x % 128 * 2 ^ (7 * k))) = m + 128 ^ k * (x % 128) ∧ m + 128 ^ k * (x % 128) < 128 ^ (k + 1) ∧ 0 ≤ m + 128 ^ k * (x % 128) := by
  have hx0 : 0 ≤ x % 128 := Int.emod_nonneg _ (by omega)
  have hx1 : x % 128 < 128 := Int.emod_lt_of_pos _ (by omega)
  generalize x % 128 = y at hx0 hx1
  obtain ⟨y, rfl⟩ := Int.eq_ofNat_of_zero_le hx0
  obtain ⟨m, rfl⟩ := Int.eq_ofNat_of_zero_le m0
  have hm : m < 2 ^ (7 * k) := by
    rw [Nat.pow_mul]; exact_mod_cast m1
  have hy : y < 128 := by omega
  have h9 : 2 ^ (7 * k) ≤ 2 ^ 56 := Nat.pow_le_pow_right (by omega) (by omega)
  have hprod : y * 2 ^ (7 * k) ≤ 127 * 2 ^ 56 := Nat.mul_le_mul (by omega) h9
  have hor : m ||| (y <<< (7 * k)) = m + y * 2 ^ (7 * k) := by
    rw [Nat.or_comm, ← Nat.shiftLeft_add_eq_or_of_lt hm, Nat.shiftLeft_eq, Nat.add_comm]
  have hpow : (128 : Int) ^ k = ((2 ^ (7 * k) : Nat) : Int) := by rw [Nat.pow_mul]; push_cast; rfl
  have hle : 127 * 2 ^ 56 + 2 ^ 56 < 9223372036854775809 := by decide
  have hmul : ((2 ^ (7 * k) : Nat) : Int) * (y : Int) = ((y * 2 ^ (7 * k) : Nat) : Int) := by push_cast; rw [Int.mul_comm]
  refine ⟨?_, ?_, ?_⟩
  · rw [IntWalk.wrap64_in _ (by rw [show (2 : Int) ^ (7 * k) = ((2 ^ (7 * k) : Nat) : Int) by push_cast; rfl, ← Int.natCast_mul]; omega)]
    rw [show (y : Int) * 2 ^ (7 * k) = ((y * 2 ^ (7 * k) : Nat) : Int) by push_cast; rfl, i64_or_nat _ _ (by omega) (by omega), ← Nat.shiftLeft_eq, hor, hpow, hmul]
    push_cast; rfl
  · rw [Int.pow_succ, hpow, hmul]
    have : y * 2 ^ (7 * k) ≤ 127 * 2 ^ (7 * k) := Nat.mul_le_mul_right _ (by omega)
    omega
  · rw [hpow, hmul]; omega

/-- What Num's loop knows: more is to come, or the last piece was read. -/
def NumSt (w : World) (g : Nat) (T : Nat → Prop) (bs : List Int) (k : Nat) (m b : Int) (wr : World) : Prop :=
  ∃ r, Rd wr g T r false ∧ Only (· = g) w wr ∧ (∀ z ∈ r, 0 ≤ z ∧ z < 256) ∧
    ((128 ≤ b ∧ b < 256 ∧ k ≤ 9 ∧ 0 ≤ m ∧ m < 128 ^ k ∧ rdN 9 bs = fin k m (rdN (9 - k) r)) ∨
     (0 ≤ b ∧ b < 128 ∧ 1 ≤ k ∧ k ≤ 9 ∧ rdN 9 bs = if k ≠ 1 ∧ b = 0 then none else some (m, r)))

set_option maxHeartbeats 1600000 in
theorem num_any (g : Nat) (T : Nat → Prop) (bs : List Int) (w : World) (h : Rd w g T bs false) (hb : ∀ z ∈ bs, 0 ≤ z ∧ z < 256) :
    Calls Try.prog 35 #[.pointer (some ⟨g, 0, none⟩)] w (Told (Value.int .i64) (rdN 9 bs) w g T) := by
  go_enter Try.func35, Try.ntmps35
  go_wp2_with fail
  go_loopw [3, 4, 5] (fun n c l wr => ∃ (k : Nat) (m b : Int), n = .int .i64 m ∧ c = .int .i64 k ∧ l = .int .u8 b ∧ NumSt w g T bs k m b wr) (fun _ c _ _ => 10 - (intOf c).toNat)
  case atStart => exact ⟨0, 0, 128, rfl, rfl, rfl, bs, h, Only.refl _ _, hb, .inl ⟨by omega, by omega, by omega, by omega, by simp, (fin_start _).symm⟩⟩
  case round =>
    obtain ⟨k, m, b, rfl, rfl, rfl, r, hR, hO, hbr, hs⟩ := hrel
    rcases hs with ⟨b0, b1, k9, m0, m1, hf⟩ | ⟨b0, b1, k1, k9, hf⟩
    · obtain ⟨A, n, c, hB, hr, hnc, hcm, hT⟩ := hR
      have hc0 : wr.cell? ⟨g, 0, none⟩ = some (.slice A n c) := by rw [hB.cell]; rfl
      have hz0 := hB.frozen 0
      by_cases hk : k < 9
      · have HF := hide hf
        clear hf
        obtain ⟨f, hf9⟩ : ∃ f, 9 - k = f + 1 := ⟨8 - k, by omega⟩
        have H9 := hide hf9
        clear hf9
        cases r with
        | nil =>
          have h0 : n = 0 := by have := hr.1; simpa using this.symm
          subst h0
          go_wp2_with fail
          refine (need_no g _ _ _ hB).mono ?_
          rintro e w' ⟨rfl, rfl⟩
          refine ⟨rfl, hO.setCell (.inl rfl) _, ?_⟩
          rw [HF.out, H9.out, fin_empty]
          exact ⟨rfl, [], A, 0, c, hB.set_ 1 _, hr.setCell (Nat.le_refl _) _, hnc, hcm, hT⟩
        | cons x r =>
          have hx := hbr x (by simp)
          have hn : n = r.length + 1 := by have := hr.1; simpa using this.symm
          subst hn
          obtain ⟨blk, off, rfl, hbg, hcell⟩ := hr.ints (by omega)
          have hx0 : wr.cell? ⟨blk, off, none⟩ = some (.int .u8 x) := by simpa using hcell 0 (by omega)
          obtain ⟨o1, o2, o3⟩ := or_piece (x := x) hk m0 m1
          have hcut := hr.cut (k := 1) (by omega) hnc
          have HR : Hid (∀ q, wr.setCell ⟨g, 0, none⟩ (.slice (if c = 1 then some ⟨blk, off, none⟩ else some ⟨blk, off + 1, none⟩) r.length (c - 1)) = q → Rd q g T r false) := hide (by
            rintro q rfl
            refine ⟨_, _, _, hB.set_ 0 _, ?_, by omega, by omega, by intro ad _ e; split at e <;> cases e <;> exact (hT ⟨blk, off, none⟩ (by omega) rfl : ¬ T blk)⟩
            have := hcut.setCell (w := wr) (p := ⟨g, 0, none⟩) (Nat.le_refl _) (.slice (if c = 1 then some ⟨blk, off, none⟩ else some ⟨blk, off + 1, none⟩) r.length (c - 1))
            simpa [Addr.add] using this)
          have HO : Hid (∀ u, Only (· = g) w (wr.setCell ⟨g, 0, none⟩ u)) := hide fun u => hO.setCell (.inl rfl) u
          have HP : Hid (bits .or .i64 m (wrap64 (x % 128 * 2 ^ (7 * k))) = m + 128 ^ k * (x % 128)) := hide o1
          have HN : Hid (∀ q, Rd q g T r false → Only (· = g) w q → NumSt w g T bs (k + 1) (m + 128 ^ k * (x % 128)) x q) := hide (by
            intro q h1 h2
            refine ⟨r, h1, h2, fun z hz => hbr z (by simp [hz]), ?_⟩
            have hf := HF.out
            rw [H9.out] at hf
            by_cases hlt : x < 128
            · refine .inr ⟨hx.1, hlt, by omega, by omega, ?_⟩
              rw [hf, fin_last hlt, Int.emod_eq_of_lt hx.1 hlt]
              by_cases hk0 : k = 0
              · subst hk0; simp
              · simp [hk0]
            · have e : x % 128 = x - 128 := by omega
              refine .inl ⟨by omega, hx.2, by omega, o3, o2, ?_⟩
              rw [hf, fin_more hlt fun m' r' h => (rdN_sound f (fun z hz => hbr z (by simp [hz])) h).1, e, show 9 - (k + 1) = f by have := H9.out; omega])
          clear hcell hcut o1 hB hr hO
          by_cases hc1 : c = 1
          · subst hc1
            obtain rfl : r = [] := List.eq_nil_of_length_eq_zero (by omega)
            go_wp2_with fail
            refine (need_ok _ _).mono ?_
            rintro e w' ⟨rfl, rfl⟩
            go_wp2_with fail
            go_roundw
            case rel => exact ⟨k + 1, _, x, by rw [HP.out], by go_num, rfl, HN.out _ (HR.out _ (by simp)) (HO.out _)⟩
            case measure => simp [intOf]; omega
          · go_wp2_with fail
            refine (need_ok _ _).mono ?_
            rintro e w' ⟨rfl, rfl⟩
            go_wp2_with fail
            go_roundw
            case rel => exact ⟨k + 1, _, x, by rw [HP.out], by go_num, rfl, HN.out _ (HR.out _ (by simp [hc1])) (HO.out _)⟩
            case measure => simp [intOf]; omega
      · obtain rfl : k = 9 := by omega
        rw [fin_zero (k := 9)] at hf
        have HF := hide hf
        clear hf m1 k9 hk
        go_wp2_with fail
        (with_reducible refine (need_no g _ _ _ hB).mono ?_)
        rintro e w' ⟨rfl, rfl⟩
        refine ⟨rfl, hO.setCell (.inl rfl) _, ?_⟩
        rw [HF.out]
        exact ⟨rfl, r, A, n, c, hB.set_ 1 _, hr.setCell (Nat.le_refl _) _, hnc, hcm, hT⟩
    · have HF := hide hf
      clear hf
      by_cases hbad : k ≠ 1 ∧ b = 0
      · obtain ⟨hk1, rfl⟩ := hbad
        have hk1' : ((k : Int) == 1) = false := by simp; omega
        obtain ⟨A, n, c, hB, hr, hnc, hcm, hT⟩ := hR
        go_wp2_with fail
        (with_reducible refine (need_no g _ _ _ hB).mono ?_)
        rintro e w' ⟨rfl, rfl⟩
        refine ⟨rfl, hO.setCell (.inl rfl) _, ?_⟩
        rw [HF.out, if_pos ⟨hk1, by trivial⟩]
        exact ⟨rfl, r, A, n, c, hB.set_ 1 _, hr.setCell (Nat.le_refl _) _, hnc, hcm, hT⟩
      · by_cases hb0 : 0 < b
        · go_wp2_with fail
          refine (need_ok _ _).mono ?_
          rintro e w' ⟨rfl, rfl⟩
          go_wp2_with fail
          go_ret
          refine ⟨hO, ?_⟩
          rw [HF.out, if_neg hbad]
          exact ⟨rfl, hR⟩
        · obtain rfl : b = 0 := by omega
          obtain rfl : k = 1 := by omega
          go_wp2_with fail
          refine (need_ok _ _).mono ?_
          rintro e w' ⟨rfl, rfl⟩
          go_wp2_with fail
          go_ret
          refine ⟨hO, ?_⟩
          rw [HF.out, if_neg hbad]
          exact ⟨rfl, hR⟩

theorem Told.rd {α : Type} {val : α → Value} {w w' : World} {g : Nat} {T : Nat → Prop} {v : α} {r : List Int} {e : Ending} (h : Told val (some (v, r)) w g T e w') : e = .returned (val v) ∧ Rd w' g T r false ∧ Only (· = g) w w' := ⟨h.2.1, h.2.2, h.1⟩
theorem Told.no {α : Type} {val : α → Value} {w w' : World} {g : Nat} {T : Nat → Prop} {e : Ending} (h : Told val none w g T e w') : e = .panicked thrown ∧ (∃ r, Rd w' g T r true) ∧ Only (· = g) w w' := ⟨h.2.1, h.2.2, h.1⟩
/-- A call that began later. -/
theorem Told.later {α : Type} {val : α → Value} {w w1 w' : World} {g : Nat} {T : Nat → Prop} {x : Option (α × List Int)} {e : Ending} (h : Told val x w1 g T e w') (k : Only (· = g) w w1) : Told val x w g T e w' := ⟨k.trans_ h.1, h.2⟩
theorem Told.give {α β : Type} {val : α → Value} {val' : β → Value} {w w1 w' : World} {g : Nat} {T : Nat → Prop} {e : Ending} (h : Told val none w1 g T e w') (k : Only (· = g) w w1) : Told val' none w g T e w' := ⟨k.trans_ h.1, h.2⟩
theorem Told.mk_ {α : Type} {val : α → Value} {w w' : World} {g : Nat} {T : Nat → Prop} {v : α} {r : List Int} (k : Only (· = g) w w') (h : Rd w' g T r false) : Told val (some (v, r)) w g T (.returned (val v)) w' := ⟨k, rfl, h⟩

set_option maxHeartbeats 800000 in
theorem small_any (g : Nat) (T : Nat → Prop) (bs : List Int) (lim : Int) (w : World) (h : Rd w g T bs false) (hb : ∀ z ∈ bs, 0 ≤ z ∧ z < 256) :
    Calls Try.prog 15 #[.pointer (some ⟨g, 0, none⟩), .int .i64 lim] w (Told (Value.int .i64) (rdS lim bs) w g T) := by
  have HS : Hid (rdS lim bs = match rdN 9 bs with | none => none | some (n, r) => if n < lim then some (n, r) else none) := hide rfl
  have HN := num_any g T bs w h hb
  generalize rdS lim bs = x at HS
  cases hr : rdN 9 bs with
  | none =>
    rw [hr] at HS HN
    obtain rfl := HS.out
    clear hr HS
    go_enter Try.func15, Try.ntmps15
    go_wp2_with fail
    refine HN.mono ?_
    rintro e w1 hT
    obtain ⟨rfl, hR, hO⟩ := hT.no
    exact ⟨rfl, hO, rfl, hR⟩
  | some y =>
    obtain ⟨n, r⟩ := y
    rw [hr] at HS HN
    clear hr
    have HS := HS
    go_enter Try.func15, Try.ntmps15
    go_wp2_with fail
    refine HN.mono ?_
    rintro e w1 hT
    obtain ⟨rfl, hR, hO⟩ := hT.rd
    by_cases hl : n < lim
    · have HS := HS.out
      simp only [if_pos hl] at HS
      subst HS
      go_wp2_with fail
      (with_reducible refine (need_ok _ _).mono ?_)
      rintro e w' ⟨rfl, rfl⟩
      go_wp2_with fail
      go_ret
      exact ⟨hO, rfl, hR⟩
    · have HS := HS.out
      simp only [if_neg hl] at HS
      subst HS
      obtain ⟨A, m, c, hB, hr, hnc, hcm, hT⟩ := hR
      have hd : decide (n < lim) = false := by simpa using hl
      go_wp2_with fail
      (with_reducible refine (need_no g _ _ _ hB).mono ?_)
      rintro e w' ⟨rfl, rfl⟩
      exact ⟨rfl, hO.setCell (.inl rfl) _, rfl, r, A, m, c, hB.set_ 1 _, hr.setCell (Nat.le_refl _) _, hnc, hcm, hT⟩
end Go.Proofs.Ythacenajocchcaa
