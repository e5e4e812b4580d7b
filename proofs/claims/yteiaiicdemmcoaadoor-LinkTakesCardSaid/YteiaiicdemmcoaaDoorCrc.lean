/- CRC-32 by shifting: plain facts on the register of a sum (bit by bit, by half bytes, by bytes), and that unlike windows of up to four bytes leave unlike registers. -/
import Derived.Laws.BitsAllLaws
namespace Go.Proofs.YteiaiicdemmcoaaDoor

def crcP : BitVec 32 := 0xEDB88320#32
/-- One bit. -/
def crcG (x : BitVec 32) : BitVec 32 := if x.getLsbD 0 then (x >>> 1) ^^^ crcP else x >>> 1
theorem crcG_xor (x y : BitVec 32) : crcG (x ^^^ y) = crcG x ^^^ crcG y := by
  unfold crcG
  rw [BitVec.getLsbD_xor, BitVec.ushiftRight_xor_distrib]
  cases x.getLsbD 0 <;> cases y.getLsbD 0 <;> simp
  · rw [BitVec.xor_assoc]
  · rw [BitVec.xor_assoc, BitVec.xor_assoc, BitVec.xor_comm crcP]
  · rw [BitVec.xor_assoc, BitVec.xor_comm crcP, BitVec.xor_assoc, BitVec.xor_self, BitVec.xor_zero]
theorem crcG_zero (z : BitVec 32) (h : crcG z = 0#32) : z = 0#32 := by
  unfold crcG at h
  have hz : z.toNat < 4294967296 := z.isLt
  have hl : z.getLsbD 0 = decide (z.toNat % 2 = 1) := by rw [BitVec.getLsbD, Nat.testBit_zero]
  by_cases hb : z.toNat % 2 = 1
  · rw [hl, if_pos (by simpa using hb)] at h
    have h2 : z >>> 1 = crcP := by
      have := congrArg (· ^^^ crcP) h
      simpa [BitVec.xor_assoc] using this
    have h3 : z.toNat / 2 = 3988292384 := by
      have := congrArg BitVec.toNat h2
      simpa [BitVec.toNat_ushiftRight, Nat.shiftRight_eq_div_pow, crcP] using this
    omega
  · rw [hl, if_neg (by simpa using hb)] at h
    have h3 : z.toNat / 2 = 0 := by
      have := congrArg BitVec.toNat h
      simpa [BitVec.toNat_ushiftRight, Nat.shiftRight_eq_div_pow] using this
    apply BitVec.eq_of_toNat_eq
    show z.toNat = 0
    omega
def crcN (k : Nat) (x : BitVec 32) : BitVec 32 := match k with | 0 => x | k + 1 => crcG (crcN k x)
theorem crcN_xor (k : Nat) (x y : BitVec 32) : crcN k (x ^^^ y) = crcN k x ^^^ crcN k y := by
  induction k with
  | zero => rfl
  | succ k ih => rw [crcN, crcN, crcN, ih, crcG_xor]
theorem crcN_zero {k : Nat} {z : BitVec 32} (h : crcN k z = 0#32) : z = 0#32 := by
  induction k with
  | zero => exact h
  | succ k ih => exact ih (crcG_zero _ h)
theorem xor_zero_eq {x y : BitVec 32} (h : x ^^^ y = 0#32) : x = y := by
  have := congrArg (· ^^^ y) h
  simpa [BitVec.xor_assoc] using this
theorem crcN_inj {k : Nat} {x y : BitVec 32} (h : crcN k x = crcN k y) : x = y := by
  apply xor_zero_eq
  apply crcN_zero (k := k)
  rw [crcN_xor, h, BitVec.xor_self]
theorem crcN_add (j k : Nat) (x : BitVec 32) : crcN j (crcN k x) = crcN (k + j) x := by
  induction j with
  | zero => rfl
  | succ j ih => rw [crcN, ih]; rfl
/-- Low bits that are nothing are shifted out. -/
theorem crcN_low (k : Nat) (w : BitVec 32) (h : ∀ i, i < k → w.getLsbD i = false) : crcN k w = w >>> k := by
  induction k with
  | zero => simp [crcN]
  | succ k ih =>
    rw [crcN, ih (fun i hi => h i (by omega)), crcG]
    have : (w >>> k).getLsbD 0 = false := by simpa using h k (by omega)
    rw [this, if_neg (by simp), BitVec.shiftRight_add]
theorem crcN_shl (k : Nat) (w : BitVec 32) (h : w <<< k >>> k = w) : crcN k (w <<< k) = w := by
  rw [crcN_low k _ (fun i hi => by simp [hi]), h]

/-- What half a byte leaves. -/
def crcTab (k : Nat) : Nat := match k with
  | 0 => 0 | 1 => 498536548 | 2 => 997073096 | 3 => 651767980 | 4 => 1994146192 | 5 => 1802195444 | 6 => 1303535960 | 7 => 1342533948
  | 8 => 3988292384 | 9 => 4027552580 | 10 => 3604390888 | 11 => 3412177804 | 12 => 2607071920 | 13 => 2262029012 | 14 => 2685067896 | 15 => 3183342108 | _ => 0
theorem crcTab_lt (k : Nat) : crcTab k < 4294967296 := by unfold crcTab; split <;> omega
theorem crcTab_eq : ∀ k : Fin 16, crcN 4 (BitVec.ofNat 32 k.val) = BitVec.ofNat 32 (crcTab k.val) := by decide +kernel
theorem split4 (x : BitVec 32) : x = ((x >>> 4) <<< 4) ^^^ (x &&& 15#32) := by
  apply BitVec.eq_of_getLsbD_eq
  intro i hi
  have h15 : (15#32).getLsbD i = decide (i < 4) := by
    have : ∀ i : Fin 32, (15#32).getLsbD i.val = decide (i.val < 4) := by decide +kernel
    exact this ⟨i, hi⟩
  simp only [BitVec.getLsbD_xor, BitVec.getLsbD_shiftLeft, BitVec.getLsbD_ushiftRight, BitVec.getLsbD_and, h15]
  by_cases h4 : i < 4
  · simp [h4, hi]
  · have : 4 + (i - 4) = i := by omega
    simp [h4, hi, this]
theorem crcN_four (x : BitVec 32) : crcN 4 x = (x >>> 4) ^^^ BitVec.ofNat 32 (crcTab (x.toNat % 16)) := by
  have hm : (x &&& 15#32) = BitVec.ofNat 32 (x.toNat % 16) := by
    apply BitVec.eq_of_toNat_eq
    have := x.isLt
    rw [BitVec.toNat_and, BitVec.toNat_ofNat, BitVec.toNat_ofNat, show 15 % 2 ^ 32 = 2 ^ 4 - 1 from rfl, Nat.and_two_pow_sub_one_eq_mod]
    omega
  have e := congrArg (crcN 4) (split4 x)
  rw [crcN_xor, hm, crcTab_eq ⟨x.toNat % 16, by omega⟩, crcN_shl] at e
  · exact e
  · apply BitVec.eq_of_getLsbD_eq
    intro i hi
    simp only [BitVec.getLsbD_shiftLeft, BitVec.getLsbD_ushiftRight]
    by_cases h : 4 + i < 32
    · simp [h]
    · have : x.getLsbD (4 + i) = false := BitVec.getLsbD_of_ge _ _ (by omega)
      simp [h, this]

/-! ### in the words of a walk -/
theorem nat_lt {x : BitVec 32} : x.toNat < 4294967296 := x.isLt
/-- Half a byte, in numbers. -/
theorem crc_half (x : BitVec 32) : bits .xor .u32 ((x.toNat : Int) / 16) ((crcTab (x.toNat % 16) : Nat) : Int) = ((crcN 4 x).toNat : Int) := by
  have h1 : ((x.toNat : Int) / 16) = ((x.toNat / 16 : Nat) : Int) := by omega
  have hx := x.isLt
  rw [h1, u32_xor_nat _ _ (by omega) (crcTab_lt _), crcN_four, BitVec.toNat_xor, BitVec.toNat_ushiftRight, Nat.shiftRight_eq_div_pow, BitVec.toNat_ofNat, Nat.mod_eq_of_lt (crcTab_lt _)]
/-- A byte laid upon the register. -/
def crcB (z : Int) : BitVec 32 := BitVec.ofNat 32 z.toNat
theorem crcB_nat {z : Int} (h0 : 0 ≤ z) (h1 : z < 256) : ((crcB z).toNat : Int) = z := by
  rw [crcB, BitVec.toNat_ofNat, Nat.mod_eq_of_lt (by omega)]; omega
theorem crc_lay (x : BitVec 32) (z : Int) (h0 : 0 ≤ z) (h1 : z < 256) : bits .xor .u32 (x.toNat : Int) z = ((x ^^^ crcB z).toNat : Int) := by
  have hx := x.isLt
  obtain ⟨n, rfl⟩ := Int.eq_ofNat_of_zero_le h0
  rw [BitVec.toNat_xor, show (crcB n).toNat = n by have := crcB_nat h0 h1; omega]
  rw [u32_xor_nat _ _ (by omega) (by omega)]
def crcStep (x : BitVec 32) (z : Int) : BitVec 32 := crcN 8 (x ^^^ crcB z)
theorem crcStep_four (x : BitVec 32) (z : Int) : crcStep x z = crcN 4 (crcN 4 (x ^^^ crcB z)) := by rw [crcN_add]; rfl
def crcSt (x : BitVec 32) (l : List Int) : BitVec 32 := l.foldl crcStep x
theorem crcSt_nil (x : BitVec 32) : crcSt x [] = x := rfl
theorem crcSt_cons (x : BitVec 32) (z : Int) (l : List Int) : crcSt x (z :: l) = crcSt (crcStep x z) l := rfl
theorem crcSt_append (x : BitVec 32) (l m : List Int) : crcSt x (l ++ m) = crcSt (crcSt x l) m := by simp [crcSt]
def crcAll : BitVec 32 := 0xFFFFFFFF#32
def crcOf (l : List Int) : Int := ((~~~ (crcSt crcAll l)).toNat : Int)
theorem crcOf_bd (l : List Int) : 0 ≤ crcOf l ∧ crcOf l < 4294967296 := by
  unfold crcOf
  have := (~~~ (crcSt crcAll l)).isLt
  omega

/-! ### unlike windows -/
theorem crcStep_inj {x y : BitVec 32} {z : Int} (h : crcStep x z = crcStep y z) : x = y := by
  have h1 := crcN_inj h
  have := congrArg (· ^^^ crcB z) h1
  simpa [BitVec.xor_assoc] using this
theorem crcSt_inj {x y : BitVec 32} : ∀ {l : List Int}, crcSt x l = crcSt y l → x = y := by
  intro l
  induction l generalizing x y with
  | nil => exact id
  | cons z l ih => intro h; exact crcStep_inj (ih h)
def leW : List Int → BitVec 32
  | [] => 0#32
  | z :: r => crcB z ^^^ (leW r <<< 8)
def leN : List Int → Nat
  | [] => 0
  | z :: r => z.toNat + 256 * leN r
theorem leN_lt : ∀ {l : List Int}, (∀ z ∈ l, 0 ≤ z ∧ z < 256) → leN l < 256 ^ l.length
  | [], _ => by simp [leN]
  | z :: r, h => by
    have := leN_lt (l := r) (fun y hy => h y (by simp [hy]))
    have hz := h z (by simp)
    rw [leN, List.length_cons, Nat.pow_succ]
    omega
theorem leW_eq : ∀ {l : List Int}, l.length ≤ 4 → (∀ z ∈ l, 0 ≤ z ∧ z < 256) → leW l = BitVec.ofNat 32 (leN l)
  | [], _, _ => rfl
  | z :: r, hl, h => by
    have hr : ∀ y ∈ r, 0 ≤ y ∧ y < 256 := fun y hy => h y (by simp [hy])
    have hz := h z (by simp)
    have ih := leW_eq (l := r) (by simp at hl; omega) hr
    have hlt := leN_lt hr
    have hle : leN r < 16777216 := Nat.lt_of_lt_of_le hlt (by simp at hl; exact Nat.pow_le_pow_right (n := 256) (j := 3) (by omega) (by omega))
    rw [leW, ih, leN, crcB]
    apply BitVec.eq_of_toNat_eq
    rw [BitVec.toNat_xor, BitVec.toNat_shiftLeft, BitVec.toNat_ofNat, BitVec.toNat_ofNat, BitVec.toNat_ofNat, Nat.mod_eq_of_lt (by omega), Nat.mod_eq_of_lt (by omega), Nat.shiftLeft_eq, Nat.mod_eq_of_lt (by omega), Nat.mod_eq_of_lt (by omega)]
    rw [show z.toNat + 256 * leN r = 2 ^ 8 * leN r + z.toNat by omega, Nat.two_pow_add_eq_or_of_lt (by omega), Nat.mul_comm (leN r)]
    apply Nat.eq_of_testBit_eq
    intro i
    rw [Nat.testBit_xor, Nat.testBit_or]
    by_cases hi : i < 8
    · have : (2 ^ 8 * leN r).testBit i = false := by rw [Nat.testBit_two_pow_mul]; simp; omega
      simp [this]
    · have : z.toNat.testBit i = false := Nat.testBit_lt_two_pow (Nat.lt_of_lt_of_le (by omega : z.toNat < 2 ^ 8) (Nat.pow_le_pow_right (by omega) (by omega)))
      simp [this]
theorem leN_inj : ∀ {l m : List Int}, l.length = m.length → (∀ z ∈ l, 0 ≤ z ∧ z < 256) → (∀ z ∈ m, 0 ≤ z ∧ z < 256) → leN l = leN m → l = m
  | [], [], _, _, _, _ => rfl
  | a :: l, b :: m, h, h1, h2, he => by
    have ha := h1 a (by simp)
    have hb := h2 b (by simp)
    simp only [leN] at he
    have e1 : a = b := by omega
    have e2 : leN l = leN m := by omega
    rw [e1, leN_inj (by simpa using h) (fun z hz => h1 z (by simp [hz])) (fun z hz => h2 z (by simp [hz])) e2]
theorem crcSt_word : ∀ {l : List Int} {x : BitVec 32}, l.length ≤ 4 → (∀ z ∈ l, 0 ≤ z ∧ z < 256) → crcSt x l = crcN (8 * l.length) (x ^^^ leW l)
  | [], x, _, _ => by simp [crcSt, crcN, leW]
  | z :: r, x, hl, h => by
    have hr : ∀ y ∈ r, 0 ≤ y ∧ y < 256 := fun y hy => h y (by simp [hy])
    have hl' : r.length ≤ 3 := by simpa using hl
    have hlt := leN_lt hr
    have hle : leN r < 16777216 := Nat.lt_of_lt_of_le hlt (Nat.pow_le_pow_right (n := 256) (j := 3) (by omega) (by omega))
    rw [crcSt_cons, crcSt_word (by omega) hr, leW]
    have hs : (leW r) <<< 8 >>> 8 = leW r := by
      rw [leW_eq (by omega) hr]
      apply BitVec.eq_of_toNat_eq
      rw [BitVec.toNat_ushiftRight, BitVec.toNat_shiftLeft, BitVec.toNat_ofNat, Nat.shiftLeft_eq, Nat.shiftRight_eq_div_pow]
      omega
    have e := crcN_shl 8 (leW r) hs
    rw [crcStep, show crcN 8 (x ^^^ crcB z) ^^^ leW r = crcN 8 (x ^^^ (crcB z ^^^ leW r <<< 8)) by rw [← BitVec.xor_assoc, crcN_xor 8 (x ^^^ crcB z), e]]
    rw [crcN_add, show 8 + 8 * r.length = 8 * (z :: r).length by simp; omega]
/-- Unlike windows of up to four bytes leave unlike registers. -/
theorem crc_window {x : BitVec 32} {l m t : List Int} (hl : l.length ≤ 4) (he : l.length = m.length) (h1 : ∀ z ∈ l, 0 ≤ z ∧ z < 256) (h2 : ∀ z ∈ m, 0 ≤ z ∧ z < 256)
    (h : crcSt x (l ++ t) = crcSt x (m ++ t)) : l = m := by
  rw [crcSt_append, crcSt_append] at h
  have h := crcSt_inj h
  rw [crcSt_word hl h1, crcSt_word (by omega) h2, he] at h
  have h := crcN_inj h
  have h3 : leW l = leW m := by
    have := congrArg (x ^^^ ·) h
    simpa [← BitVec.xor_assoc] using this
  rw [leW_eq hl h1, leW_eq (by omega) h2] at h3
  have h4 := congrArg BitVec.toNat h3
  have b1 := leN_lt h1
  have b2 := leN_lt h2
  have p1 : (256 : Nat) ^ l.length ≤ 256 ^ 4 := Nat.pow_le_pow_right (by omega) hl
  have p2 : (256 : Nat) ^ m.length ≤ 256 ^ 4 := Nat.pow_le_pow_right (by omega) (by omega)
  rw [BitVec.toNat_ofNat, BitVec.toNat_ofNat, Nat.mod_eq_of_lt (by omega), Nat.mod_eq_of_lt (by omega)] at h4
  exact leN_inj he h1 h2 h4

/-! ### sums behind bytes -/
def sumBytes (s : Int) : List Int := [s % 256, s / 256 % 256, s / 65536 % 256, s / 16777216 % 256]
def putL (l : List Int) : List Int := l ++ sumBytes (crcOf l)
theorem sumBytes_bd {s : Int} : ∀ z ∈ sumBytes s, 0 ≤ z ∧ z < 256 := by
  intro z hz
  simp only [sumBytes, List.mem_cons, List.not_mem_nil, or_false] at hz
  omega
theorem putL_length (l : List Int) : (putL l).length = l.length + 4 := by simp [putL, sumBytes]
theorem putL_bd {l : List Int} (h : ∀ z ∈ l, 0 ≤ z ∧ z < 256) : ∀ z ∈ putL l, 0 ≤ z ∧ z < 256 := by
  intro z hz
  rcases List.mem_append.1 hz with hz | hz
  · exact h z hz
  · exact sumBytes_bd z hz
theorem sum_word (c : BitVec 32) : leW (sumBytes (c.toNat : Int)) = c := by
  rw [leW_eq (by simp [sumBytes]) sumBytes_bd]
  apply BitVec.eq_of_toNat_eq
  have hc := c.isLt
  rw [BitVec.toNat_ofNat]
  simp only [sumBytes, leN]
  omega
/-- What has its sum behind it leaves one and the same register. -/
theorem crc_residue (l : List Int) : crcSt crcAll (putL l) = crcN 32 crcAll := by
  rw [putL, crcSt_append, crcSt_word (by simp [sumBytes]) sumBytes_bd, crcOf, sum_word]
  congr 1
  apply BitVec.eq_of_getLsbD_eq
  intro i hi
  have h1 : crcAll.getLsbD i = true := by
    have : ∀ i : Fin 32, crcAll.getLsbD i.val = true := by decide +kernel
    exact this ⟨i, hi⟩
  rw [h1]
  simp [hi]
/-- Of two lists that differ in a window of up to four bytes, both with their sums behind them, there are none. -/
theorem put_window {b b' a u v t : List Int} (hu : u.length ≤ 4) (he : u.length = v.length) (h1 : ∀ z ∈ u, 0 ≤ z ∧ z < 256) (h2 : ∀ z ∈ v, 0 ≤ z ∧ z < 256)
    (hb : putL b = a ++ (u ++ t)) (hb' : putL b' = a ++ (v ++ t)) : u = v := by
  have e1 := crc_residue b
  have e2 := crc_residue b'
  rw [hb, crcSt_append] at e1
  rw [hb', crcSt_append] at e2
  exact crc_window hu he h1 h2 (e1.trans e2.symm)
end Go.Proofs.YteiaiicdemmcoaaDoor
