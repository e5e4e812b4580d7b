/- The walk of CodecAny: it returns true at all arguments and leaves what was there as it was. -/
import Derived.Test.YtfhepoihhigcaaaCodB
import Derived.Test.YtfhepoihhigcaaaCodRead
import Derived.Test.YtfhepoihhigcaaaStr
import Derived.RegionTactic
import Derived.Deep.Draws
import Derived.Deep.RegionWith
namespace Go.Proofs.Ytfhepoihhigcaaa.codecAny
open Go.RowKit

/-- What the reading call leaves: the number in its variable, or nothing. -/
def AnyQ (q : Nat) (bs : List Int) (x : Option (List Int)) (w2 : World) : Prop :=
  match rdN 9 bs with
  | some (n, r) => x = some r ∧ w2.cell? ⟨q, 0, none⟩ = some (.int .i64 n)
  | none => x = none

theorem call_any (g q : Nat) (bs : List Int) (u : Value) (w : World) (h : Rd w g (· = q) bs false) (hb : ∀ z ∈ bs, 0 ≤ z ∧ z < 256) (hq : q < g) (hB : Blk w q 3 #[u]) :
    Calls Try.prog 15 #[.pointer (some ⟨g, 0, none⟩), .pointer (some ⟨q, 0, none⟩)] w (Calling g (· = q) (AnyQ q bs) w) := by
  have HN := num_any g (· = q) bs w h hb
  have HQ : Hid (∀ x w2, AnyQ q bs x w2 = match rdN 9 bs with | some (n, r) => x = some r ∧ w2.cell? ⟨q, 0, none⟩ = some (.int .i64 n) | none => x = none) := hide fun _ _ => rfl
  generalize AnyQ q bs = Q at HQ
  cases hr : rdN 9 bs with
  | none =>
    rw [hr] at HN HQ
    clear hr
    go_enter Try.func15, Try.ntmps15
    go_wp2_with fail
    refine HN.mono ?_
    rintro e w2 hX
    obtain ⟨rfl, hR, hO⟩ := hX.no
    refine ⟨rfl, hO.mono fun i _ h => .inl h, .inr ⟨rfl, hR, ?_⟩⟩
    rw [HQ.out]
  | some y =>
    obtain ⟨n, r⟩ := y
    rw [hr] at HN HQ
    clear hr
    go_enter Try.func15, Try.ntmps15
    go_wp2_with fail
    refine HN.mono ?_
    rintro e w2 hX
    obtain ⟨rfl, hR, hO⟩ := hX.rd
    have hB2 := hB.only hO (by omega)
    have hc : w2.cell? ⟨q, 0, none⟩ = some u := by rw [hB2.cell]; rfl
    have hz := hB2.frozen 0
    go_wp2_with fail
    go_end0
    have hO2 := (hO.mono (S' := fun i => i = g ∨ i = q) fun i _ h => .inl h).setCell (p := ⟨q, 0, none⟩) (.inl (.inr rfl)) (.int .i64 n)
    refine ⟨hO2, .inl ⟨r, rfl, hR.only ((Only.refl (· = q) w2).setCell (p := ⟨q, 0, none⟩) (.inl rfl) _) (by omega) (fun i _ e => e), ?_⟩⟩
    rw [HQ.out]
    exact ⟨rfl, World.cell?_setCell_same _ _ _ hc⟩

theorem enters (args : Array Value) (w : World) : (callFunc 15 args).run Try.prog w = .ok (.enter 15 args) w := by kernel_rfl
set_option maxRecDepth 100000 in
set_option maxHeartbeats 1600000 in
theorem walk (w : World) (A : Option Addr) (n c : Nat) (bs : List Int) (hr : Reads w w.heap.size 1 A n (bs.map (Value.int .u8))) (hnc : n ≤ c) (hcm : c ≤ maxLen) (_ : c * 1 ≤ 140737488351232) (hwf : ∀ z ∈ bs, (Lit.int .u8 z).wf = true) :
    Calls Try.prog 4 #[.slice A n c] w fun e w' => e = .returned (.bool true) ∧ Below w.heap.size w w' := by
  have hb := bytes_bd hwf
  have hmf : ∀ (fn : Fn) (first cap : Array Value) (w : World), (Instr.makeFunc fn first cap).run Try.prog w = .ok (.func fn first cap) w := fun _ _ _ _ => rfl
  clear hwf
  have HM := hide hcm
  clear hcm
  have hlen : Hid (bs.length = n) := hide (by have := hr.1; simpa using this)
  go_enter Try.func4, Try.ntmps4
  go_wp2_with fail
  refine (fit_any _).mono ?_
  rintro e w1 ⟨rfl, hb1⟩
  by_cases hbig : 50 < n
  · go_wp2_with fail
    go_ret
    exact ⟨rfl, hb1⟩
  · go_wp2_with fail
    have hr1 := hr.below hb1
    have hA : ∀ ad, 0 < n → A = some ad → ¬ (ad.block = w1.heap.size) := fun ad h0 e h => by
      obtain ⟨ad', e', hlt, _⟩ := hr.2 h0
      rw [e] at e'; cases e'
      have := hb1.size; omega
    have hs1 := hb1.size
    have hBn : Blk (w1.alloc (.cells #[.int .i64 (-1)] 3)) w1.heap.size 3 #[.int .i64 (-1)] := Blk.new _ _ _
    refine (read_any _ _ enters A n c bs _ ((hr1.alloc (by omega) _).more (by simp; omega)) hnc HM.out (· = w1.heap.size) (AnyQ w1.heap.size bs) hA (by simp) ?_).mono ?_
    · intro w2 hb2 _ hR
      exact call_any _ w1.heap.size bs _ w2 hR hb (by simp) (hBn.below hb2 (by simp))
    · rintro e w3 ⟨x, w2, hQ, hO1, hO2, rfl⟩
      have hB3 : Below w.heap.size w w3 := below_only (hb1.alloc hs1 (.cells #[.int .i64 (-1)] 3)) hO2 (by intro i hi; omega) (by simp; omega)
      unfold AnyQ at hQ
      cases hx : rdN 9 bs with
      | none =>
        rw [hx] at hQ
        subst hQ
        rw [show endB none = false from rfl]
        clear hx
        go_wp2_with fail
        go_ret
        exact ⟨rfl, hB3⟩
      | some y =>
        obtain ⟨m, r⟩ := y
        rw [hx] at hQ
        obtain ⟨rfl, hc⟩ := hQ
        obtain ⟨m0, m1, he⟩ := rdN_sound9 hb hx
        clear hx
        cases r with
        | cons y r =>
          rw [show endB (some (y :: r)) = false from rfl]
          go_wp2_with fail
          go_ret
          exact ⟨rfl, hB3⟩
        | nil =>
          rw [List.append_nil] at he
          rw [show endB (some []) = true from rfl]
          have hc3 : w3.cell? ⟨w1.heap.size, 0, none⟩ = some (.int .i64 m) := by
            rw [hO1.cell (by have := World.block_lt_of_cell? w2 _ hc; exact this) (by simp), hc]
          have hr3 := hr.below hB3
          have hs3 := hB3.size
          have m2 : m ≤ 9223372036854775807 := by omega
          subst he
          have hEq : ((strOfNums (enc m)).toList == (strOfNums (enc m)).toList) = true := by simp
          have HLn := hide (enc_len (n := m) (by omega))
          have hW0 : Wr (w3.alloc (.cells #[.slice none 0 0] 26)).drew w3.heap.size (.slice none 0 0) [] := (Wr.new w3).drew
          have hB0 : Below w3.heap.size w3 (w3.alloc (.cells #[.slice none 0 0] 26)).drew := ((Below.refl _ _).alloc (Nat.le_refl _) _).drew
          have k1 := reads_string (hr3.below (hB0.mono hs3)) c
          have hB1 : Below w3.heap.size w3 ((w3.alloc (.cells #[.slice none 0 0] 26)).alloc (.cells #[.int .i64 m] 3)).drew := (((Below.refl _ _).alloc (Nat.le_refl _) _).alloc (by simp) _).drew
          have k2 := reads_string (hr3.below (hB1.mono hs3)) c
          have hcd : (w3.alloc (.cells #[.slice none 0 0] 26)).drew.cell? ⟨w1.heap.size, 0, none⟩ = some (.int .i64 m) := (hB0.cell (World.block_lt_of_cell? w3 _ hc3)).trans hc3
          clear hc hO1 hO2 hr1 hr m1
          go_wp2_with fail
          go_region_with (first
            | (go_at_call 10; refine (wnum_one w3.heap.size (w3.heap.size + 1) _ [] m _ (by simp) hW0 m0 m2 (by decide)).mono ?_; rintro e w4 ⟨rfl, v4, hW4, hO4⟩; rw [List.nil_append] at hW4; have hB4 := hO4.below hB0 (Nat.le_refl _) (by simp [Value.ownBlock]) (by simp); have k4 := reads_string (hr3.below (hB4.mono hs3)) c)
            | (go_at_call 12; refine (bytes_any w3.heap.size v4 (enc m) w4 hW4 (by have := HLn.out; omega)).mono ?_; rintro e w5 ⟨v5, rfl, hown5, hB5⟩; obtain ⟨A5, c5, rfl⟩ := own_slice hown5; have hB35 := hB4.trans (hB5.mono hB4.size); have k5 := reads_string (Reads.of_own hown5) c5; have k6 := reads_string (hr3.below (hB35.mono hs3)) c))
          all_goals
            go_wp2_with fail
            go_ret
            exact ⟨rfl, hB3.trans (hB35.mono hs3)⟩
end Go.Proofs.Ytfhepoihhigcaaa.codecAny
