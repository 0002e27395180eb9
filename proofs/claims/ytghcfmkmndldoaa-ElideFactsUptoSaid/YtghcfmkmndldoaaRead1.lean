/-
  Reading a number at the front of bytes: plain numbers.
-/
import Derived.Laws.BitsAllLaws
namespace Go.Proofs.Ytghcfmkmndldoaa

/-- from the byte with number i on, n being what stood ahead: value, how many bytes, error -/
def rnGo : Nat → Nat → Nat → List UInt8 → Nat × Nat × Nat
  | 0, _, _, _ => (0, 0, 22)
  | _ + 1, _, _, [] => (0, 0, 21)
  | f + 1, i, n, x :: l =>
    if i = 9 ∧ 1 < x.toNat then (0, 0, 22)
    else if x.toNat < 128 then (if x.toNat = 0 ∧ 0 < i then (0, 0, 22) else (n + x.toNat % 128 * 128 ^ i, i + 1, 0))
    else rnGo f (i + 1) (n + x.toNat % 128 * 128 ^ i) l
def readNum (l : List UInt8) : Nat × Nat × Nat := rnGo 10 0 0 l
theorem rnGo_nil (f i n : Nat) : rnGo (f + 1) i n [] = (0, 0, 21) := rfl
theorem rnGo_over (f n : Nat) (x : UInt8) (l : List UInt8) (h : 1 < x.toNat) : rnGo (f + 1) 9 n (x :: l) = (0, 0, 22) := by simp [rnGo, h]
theorem rnGo_zero (f i n : Nat) (x : UInt8) (l : List UInt8) (h : x.toNat = 0) (hi : 0 < i) : rnGo (f + 1) i n (x :: l) = (0, 0, 22) := by simp [rnGo, h, hi]
theorem rnGo_end (f i n : Nat) (x : UInt8) (l : List UInt8) (h9 : ¬ (i = 9 ∧ 1 < x.toNat)) (hx : x.toNat < 128) (h : ¬ (x.toNat = 0 ∧ 0 < i)) : rnGo (f + 1) i n (x :: l) = (n + x.toNat % 128 * 128 ^ i, i + 1, 0) := by
  rw [rnGo, if_neg h9, if_pos hx, if_neg h]
theorem rnGo_more (f i n : Nat) (x : UInt8) (l : List UInt8) (h9 : ¬ (i = 9 ∧ 1 < x.toNat)) (hx : ¬ x.toNat < 128) : rnGo (f + 1) i n (x :: l) = rnGo f (i + 1) (n + x.toNat % 128 * 128 ^ i) l := by
  rw [rnGo, if_neg h9, if_neg hx]
/-- what joins the bits: no carry -/
theorem rn_or (n y k : Nat) (h : n < 128 ^ k) : n ||| y * 128 ^ k = n + y * 128 ^ k := by
  have e : (128 : Nat) ^ k = 2 ^ (7 * k) := by rw [Nat.pow_mul]
  rw [e] at h ⊢
  have := Nat.shiftLeft_add_eq_or_of_lt h y
  rw [Nat.shiftLeft_eq] at this
  rw [Nat.or_comm, ← this]
  omega
theorem rn_room (n x k : Nat) (h : n < 128 ^ k) (hk : k < 10) (hx : x < 256) (h9 : ¬ (k = 9 ∧ 1 < x)) : n + x % 128 * 128 ^ k < 128 ^ (k + 1) ∧ n + x % 128 * 128 ^ k < 2 ^ 64 ∧ x % 128 * 128 ^ k < 2 ^ 64 := by
  have h1 : x % 128 * 128 ^ k ≤ 127 * 128 ^ k := Nat.mul_le_mul_right _ (by omega)
  have h2 : (128 : Nat) ^ (k + 1) = 128 * 128 ^ k := by rw [Nat.pow_succ]; omega
  by_cases h8 : k ≤ 8
  · have h3 : (128 : Nat) ^ k ≤ 128 ^ 8 := Nat.pow_le_pow_right (by omega) h8
    have h4 : (128 : Nat) ^ 8 = 72057594037927936 := by decide
    have h5 : (2 : Nat) ^ 64 = 18446744073709551616 := by decide
    omega
  · obtain rfl : k = 9 := by omega
    have h3 : x % 128 ≤ 1 := by omega
    have h4 : (128 : Nat) ^ 9 = 9223372036854775808 := by decide
    have h5 : (2 : Nat) ^ 64 = 18446744073709551616 := by decide
    have h6 : x % 128 * 128 ^ 9 ≤ 1 * 128 ^ 9 := Nat.mul_le_mul_right _ h3
    omega
end Go.Proofs.Ytghcfmkmndldoaa
