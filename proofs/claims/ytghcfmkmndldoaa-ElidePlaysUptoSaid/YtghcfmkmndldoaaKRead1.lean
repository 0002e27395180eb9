/-
  Reading a number at the front of bytes: plain numbers.
-/
import Derived.Laws.BitsAllLaws
namespace Go.Proofs.Ytghcfmkmndldoaa

/-- from the byte with number i on, n being what stood ahead: value, how many bytes, error -/
def rnGo : Nat → Nat → Nat → List UInt8 → Nat × Nat × Nat
  | 0, _, _, _ => (0, 0, 22)
  | _ + 1, _, _, [] => (0, 0, 21)
  | f + 1, i, n, x :: l =>
    if i = 9 ∧ 1 < x.toNat then (0, 0, 22)
    else if x.toNat < 128 then (if x.toNat = 0 ∧ 0 < i then (0, 0, 22) else (n + x.toNat % 128 * 128 ^ i, i + 1, 0))
    else rnGo f (i + 1) (n + x.toNat % 128 * 128 ^ i) l
def readNum (l : List UInt8) : Nat × Nat × Nat := rnGo 10 0 0 l
theorem rnGo_nil (f i n : Nat) : rnGo (f + 1) i n [] = (0, 0, 21) := rfl
theorem rnGo_over (f n : Nat) (x : UInt8) (l : List UInt8) (h : 1 < x.toNat) : rnGo (f + 1) 9 n (x :: l) = (0, 0, 22) := by simp [rnGo, h]
theorem rnGo_zero (f i n : Nat) (x : UInt8) (l : List UInt8) (h : x.toNat = 0) (hi : 0 < i) : rnGo (f + 1) i n (x :: l) = (0, 0, 22) := by simp [rnGo, h, hi]
theorem rnGo_end (f i n : Nat) (x : UInt8) (l : List UInt8) (h9 : ¬ (i = 9 ∧ 1 < x.toNat)) (hx : x.toNat < 128) (h : ¬ (x.toNat = 0 ∧ 0 < i)) : rnGo (f + 1) i n (x :: l) = (n + x.toNat % 128 * 128 ^ i, i + 1, 0) := by
  rw [rnGo, if_neg h9, if_pos hx, if_neg h]
theorem rnGo_more (f i n : Nat) (x : UInt8) (l : List UInt8) (h9 : ¬ (i = 9 ∧ 1 < x.toNat)) (hx : ¬ x.toNat < 128) : rnGo (f + 1) i n (x :: l) = rnGo f (i + 1) (n + x.toNat % 128 * 128 ^ i) l := by
  rw [rnGo, if_neg h9, if_neg hx]
/-- what joins the bits: no carry -/
theorem rn_or (n y k : Nat) (h : n < 128 ^ k) : n ||| y * 128 ^ k = n + y * 128 ^ k := by
  have e : (128 : Nat) ^ k = 2 ^ (7 * k) := by rw [Nat.pow_mul]
  rw [e] at h ⊢
  have := Nat.shiftLeft_add_eq_or_of_lt h y
  rw [Nat.shiftLeft_eq] at this
  rw [Nat.or_comm, ← this]
  omega
theorem rn_room (n x k : Nat) (h : n < 128 ^ k) (hk : k < 10) (hx : x < 256) (h9 : ¬ (k = 9 ∧ 1 < x)) : n + x % 128 * 128 ^ k < 128 ^ (k + 1) ∧ n + x % 128 * 128 ^ k < 2 ^ 64 ∧ x % 128 * 128 ^ k < 2 ^ 64 := by
  have h1 : x % 128 * 128 ^ k ≤ 127 * 128 ^ k := Nat.mul_le_mul_right _ (by omega)
  have h2 : (128 : Nat) ^ (k + 1) = 128 * 128 ^ k := by rw [Nat.pow_succ]; omega
  by_cases h8 : k ≤ 8
  · have h3 : (128 : Nat) ^ k ≤ 128 ^ 8 := Nat.pow_le_pow_right (by omega) h8
    have h4 : (128 : Nat) ^ 8 = 72057594037927936 := by decide
    have h5 : (2 : Nat) ^ 64 = 18446744073709551616 := by decide
    omega
  · obtain rfl : k = 9 := by omega
    have h3 : x % 128 ≤ 1 := by omega
    have h4 : (128 : Nat) ^ 9 = 9223372036854775808 := by decide
    have h5 : (2 : Nat) ^ 64 = 18446744073709551616 := by decide
    have h6 : x % 128 * 128 ^ 9 ≤ 1 * 128 ^ 9 := Nat.mul_le_mul_right _ h3
    omega
end Go.Proofs.Ytghcfmkmndldoaa

/-
  The checksum as plain numbers: a bit at a time, and half a byte at a time by a table: both are one. Imports nothing of the program.
-/
namespace Go.Proofs.Ytghcfmkmndldoaa

def polyN : Nat := 2197175160
/-- one bit of the remainder -/
def bitStep (c : Nat) : Nat := if c % 2 = 1 then c / 2 ^^^ polyN else c / 2
/-- the remainders of the sixteen half bytes -/
def halfOf (r : Nat) : Nat := [0, 274646895, 549293790, 820201905, 1098587580, 1361435347, 1640403810, 1905808397, 2197175160, 2460548119, 2722870694, 2987750089, 3280807620, 3553878443, 3811616794, 4084100981].getD r 0
def halfStep (c : Nat) : Nat := c / 16 ^^^ halfOf (c % 16)
/-- so many bits -/
def bitSteps : Nat → Nat → Nat
  | 0, c => c
  | n + 1, c => bitSteps n (bitStep c)
theorem bitSteps_succ' (n c : Nat) : bitSteps (n + 1) c = bitStep (bitSteps n c) := by
  induction n generalizing c with
  | zero => rfl
  | succ n ih => rw [bitSteps, ih]; rfl

theorem xor_half (a b : Nat) : (a ^^^ b) / 2 = a / 2 ^^^ b / 2 := by
  have := Nat.shiftRight_xor_distrib (a := a) (b := b) (i := 1)
  simpa [Nat.shiftRight_eq_div_pow] using this
theorem xor_odd (a b : Nat) : (a ^^^ b) % 2 = (a % 2 + b % 2) % 2 := by
  have := Nat.xor_mod_two_eq_one (a := a) (b := b)
  by_cases h : (a ^^^ b) % 2 = 1
  · have := this.1 h; omega
  · have h' : ¬ (¬ (a % 2 = 1 ↔ b % 2 = 1)) := fun hh => h (this.2 hh)
    omega
theorem bitStep_xor (a b : Nat) : bitStep (a ^^^ b) = bitStep a ^^^ bitStep b := by
  unfold bitStep
  rw [xor_odd, xor_half]
  rcases Nat.mod_two_eq_zero_or_one a with ha | ha <;> rcases Nat.mod_two_eq_zero_or_one b with hb | hb <;> simp [ha, hb]
  · rw [Nat.xor_assoc]
  · rw [Nat.xor_assoc, Nat.xor_comm (b / 2), ← Nat.xor_assoc]
  · rw [Nat.xor_assoc, ← Nat.xor_assoc polyN, Nat.xor_comm polyN, Nat.xor_assoc (b / 2), Nat.xor_self, Nat.xor_zero]
theorem bitSteps_xor (n a b : Nat) : bitSteps n (a ^^^ b) = bitSteps n a ^^^ bitSteps n b := by
  induction n generalizing a b with
  | zero => rfl
  | succ n ih => rw [bitSteps, bitStep_xor, ih]; rfl
theorem split16 (c : Nat) : c = (16 * (c / 16)) ^^^ (c % 16) := by
  have h1 : 16 * (c / 16) = (c / 16) <<< 4 := by rw [Nat.shiftLeft_eq]; omega
  have h2 : (c / 16) <<< 4 ||| c % 16 = (c / 16) <<< 4 + c % 16 := (Nat.shiftLeft_add_eq_or_of_lt (by omega) _).symm
  have h3 : ((c / 16) <<< 4) &&& (c % 16) = 0 := by
    apply Nat.eq_of_testBit_eq
    intro i
    rw [Nat.testBit_and, Nat.testBit_shiftLeft, Nat.zero_testBit]
    by_cases hi : 4 ≤ i
    · have : (c % 16).testBit i = false := Nat.testBit_lt_two_pow (Nat.lt_of_lt_of_le (Nat.mod_lt _ (by omega)) (Nat.pow_le_pow_right (n := 2) (by omega) hi))
      rw [this, Bool.and_false]
    · simp [hi]
  have h4 : ((c / 16) <<< 4) ^^^ (c % 16) = ((c / 16) <<< 4) ||| (c % 16) := by
    apply Nat.eq_of_testBit_eq
    intro i
    have := congrArg (fun x => x.testBit i) h3
    simp only [Nat.testBit_and, Nat.zero_testBit] at this
    rw [Nat.testBit_xor, Nat.testBit_or]
    revert this
    cases ((c / 16) <<< 4).testBit i <;> cases (c % 16).testBit i <;> simp
  rw [h1, h4, h2, Nat.shiftLeft_eq]
  omega
theorem bitStep_even (q : Nat) : bitStep (2 * q) = q := by
  unfold bitStep
  rw [if_neg (by omega)]
  omega
theorem bitSteps_16 (q : Nat) : bitSteps 4 (16 * q) = q := by
  show bitStep (bitStep (bitStep (bitStep (16 * q)))) = q
  rw [show 16 * q = 2 * (2 * (2 * (2 * q))) from by omega, bitStep_even, bitStep_even, bitStep_even, bitStep_even]
theorem bitSteps_half : ∀ r : Fin 16, bitSteps 4 r.val = halfOf r.val := by decide +kernel
theorem halfStep_bits (c : Nat) : halfStep c = bitSteps 4 c := by
  conv => rhs; rw [split16 c]
  rw [bitSteps_xor, bitSteps_16, bitSteps_half ⟨c % 16, by omega⟩]
  rfl

/-- a byte of the remainder: by the table, and bit by bit -/
def crcByte (c x : Nat) : Nat := halfStep (halfStep (c ^^^ x))
theorem crcByte_bits (c x : Nat) : crcByte c x = bitSteps 8 (c ^^^ x) := by
  unfold crcByte
  rw [halfStep_bits, halfStep_bits]
  rfl
/-- of bytes: the remainder, from c on -/
def crcFrom (c : Nat) (l : List UInt8) : Nat := l.foldl (fun c x => crcByte c x.toNat) c
theorem crcFrom_append (c : Nat) (l r : List UInt8) : crcFrom c (l ++ r) = crcFrom (crcFrom c l) r := by simp [crcFrom]
/-- THE SUM -/
def sumOf (l : List UInt8) : Nat := 4294967295 - crcFrom 4294967295 l

theorem lt32_half (c : Nat) (h : c < 4294967296) : halfStep c < 4294967296 := by
  have h1 : ∀ r : Fin 16, halfOf r.val < 4294967296 := by decide +kernel
  have h2 := h1 ⟨c % 16, by omega⟩
  exact Nat.xor_lt_two_pow (n := 32) (by omega) h2
theorem lt32_byte (c x : Nat) (h : c < 4294967296) (hx : x < 256) : crcByte c x < 4294967296 :=
  lt32_half _ (lt32_half _ (Nat.xor_lt_two_pow (n := 32) h (by omega)))
theorem lt32_from (l : List UInt8) : ∀ c, c < 4294967296 → crcFrom c l < 4294967296 := by
  induction l with
  | nil => intro c h; exact h
  | cons x l ih => intro c h; exact ih _ (lt32_byte _ _ h (by have := x.toNat_lt; omega))
theorem sumOf_lt (l : List UInt8) : sumOf l < 4294967296 := by unfold sumOf; omega

/-! a change is found -/
theorem bitStep_pos (d : Nat) (h0 : d ≠ 0) (h : d < 4294967296) : bitStep d ≠ 0 ∧ bitStep d < 4294967296 := by
  unfold bitStep
  have hp : polyN < 2 ^ 32 := by decide
  by_cases ho : d % 2 = 1
  · rw [if_pos ho]
    refine ⟨fun e => ?_, Nat.xor_lt_two_pow (n := 32) (by omega) hp⟩
    have : d / 2 = polyN := by
      have := congrArg (· ^^^ polyN) e
      simpa [Nat.xor_assoc] using this
    unfold polyN at this
    omega
  · rw [if_neg ho]
    omega
theorem bitSteps_pos (n : Nat) : ∀ d, d ≠ 0 → d < 4294967296 → bitSteps n d ≠ 0 := by
  induction n with
  | zero => intro d h _; exact h
  | succ n ih => intro d h h'; exact ih _ (bitStep_pos d h h').1 (bitStep_pos d h h').2
theorem xor_ne {a b : Nat} (h : a ≠ b) : a ^^^ b ≠ 0 := fun e => h (by
  have := congrArg (· ^^^ b) e
  simpa [Nat.xor_assoc] using this)
theorem ne_of_xor {a b : Nat} (h : a ^^^ b ≠ 0) : a ≠ b := fun e => h (by rw [e, Nat.xor_self])
theorem crcByte_ne (a b x y : Nat) (ha : a < 4294967296) (hb : b < 4294967296) (hx : x < 256) (hy : y < 256) (h : a ^^^ x ≠ b ^^^ y) : crcByte a x ≠ crcByte b y := by
  rw [crcByte_bits, crcByte_bits]
  apply ne_of_xor
  rw [← bitSteps_xor]
  exact bitSteps_pos 8 _ (xor_ne h) (Nat.xor_lt_two_pow (n := 32) (Nat.xor_lt_two_pow (n := 32) ha (by omega)) (Nat.xor_lt_two_pow (n := 32) hb (by omega)))
theorem xor_right_ne {a b : Nat} (x : Nat) (h : a ≠ b) : a ^^^ x ≠ b ^^^ x := fun e => h (by
  have := congrArg (· ^^^ x) e
  simpa [Nat.xor_assoc] using this)
theorem xor_left_ne {x y : Nat} (a : Nat) (h : x ≠ y) : a ^^^ x ≠ a ^^^ y := by
  rw [Nat.xor_comm a x, Nat.xor_comm a y]
  exact xor_right_ne a h
theorem crcFrom_ne (l : List UInt8) : ∀ a b, a < 4294967296 → b < 4294967296 → a ≠ b → crcFrom a l ≠ crcFrom b l := by
  induction l with
  | nil => intro a b _ _ h; exact h
  | cons x l ih =>
    intro a b ha hb h
    have hx : x.toNat < 256 := by have := x.toNat_lt; omega
    exact ih _ _ (lt32_byte _ _ ha hx) (lt32_byte _ _ hb hx) (crcByte_ne _ _ _ _ ha hb hx hx (xor_right_ne _ h))
/-- one byte that is another one makes another sum -/
theorem sumOf_ne (l r : List UInt8) (x y : UInt8) (h : x ≠ y) : sumOf (l ++ x :: r) ≠ sumOf (l ++ y :: r) := by
  have hx : x.toNat < 256 := by have := x.toNat_lt; omega
  have hy : y.toNat < 256 := by have := y.toNat_lt; omega
  have hc := lt32_from l 4294967295 (by omega)
  have hne : x.toNat ≠ y.toNat := fun e => h (UInt8.toNat_inj.1 e)
  have h1 := crcFrom_ne r _ _ (lt32_byte _ _ hc hx) (lt32_byte _ _ hc hy) (crcByte_ne _ _ _ _ hc hc hx hy (xor_left_ne _ hne))
  have e1 : crcFrom 4294967295 (l ++ x :: r) = crcFrom (crcByte (crcFrom 4294967295 l) x.toNat) r := by rw [crcFrom_append]; rfl
  have e2 : crcFrom 4294967295 (l ++ y :: r) = crcFrom (crcByte (crcFrom 4294967295 l) y.toNat) r := by rw [crcFrom_append]; rfl
  have l1 := lt32_from (l ++ x :: r) 4294967295 (by omega)
  have l2 := lt32_from (l ++ y :: r) 4294967295 (by omega)
  unfold sumOf
  rw [e1, e2] at *
  omega
end Go.Proofs.Ytghcfmkmndldoaa
