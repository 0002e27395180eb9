/-
  The plain program's reader of numbers.
-/
import Derived.Test.YtghcfmkmndldoaaKBase
import Derived.Test.YtghcfmkmndldoaaKRead1
namespace Go.Proofs.Ytghcfmkmndldoaa
open Go.RowKit

/-- the three answers of a reader of numbers -/
def rnVal (r : Nat × Nat × Nat) : Value := .tuple #[.int .u64 (r.1 : Int), .int .i64 (r.2.1 : Int), .int .i64 (r.2.2 : Int)]

/-- what a byte's turn tells the walk -/
theorem rn_facts (n x k : Nat) (h : n < 128 ^ k) (hk : k < 10) (hx : x < 256) (h9 : ¬ (k = 9 ∧ 1 < x)) : ∃ m : Nat, Hid (m = n + x % 128 * 128 ^ k) ∧ Hid (m < 128 ^ (k + 1)) ∧
    bits .or .u64 (n : Int) (IntKind.u64.wrap (bits .and .u64 (x : Int) 127 * 2 ^ (7 * k))) = (m : Int) ∧
    ∃ y : Nat, y < 128 ∧ bits .and .u8 (x : Int) 127 = (y : Int) ∧ bits .or .u64 (n : Int) (IntKind.u64.wrap ((y : Int) * 2 ^ (7 * k))) = (m : Int) := by
  obtain ⟨h1, h2, h3⟩ := rn_room n x k h hk hx h9
  have e64 : (2 : Nat) ^ 64 = 18446744073709551616 := by decide
  have hn : n < 18446744073709551616 := by omega
  have hand : x &&& 127 = x % 128 := Nat.and_two_pow_sub_one_eq_mod x 7
  have a1 : bits .and .u64 (x : Int) 127 = ((x % 128 : Nat) : Int) := by
    have := u64_and_nat x 127 (by omega) (by omega)
    rw [hand] at this
    exact this
  have a2 : bits .and .u8 (x : Int) 127 = ((x % 128 : Nat) : Int) := by
    have := u8_and_nat x 127 (by omega) (by omega)
    rw [hand] at this
    exact this
  have e : (2 : Int) ^ (7 * k) = ((128 ^ k : Nat) : Int) := by
    have : (128 : Nat) ^ k = 2 ^ (7 * k) := by rw [Nat.pow_mul]
    rw [this]
    simp
  have hw : IntKind.u64.wrap (((x % 128 : Nat) : Int) * ((128 ^ k : Nat) : Int)) = ((x % 128 * 128 ^ k : Nat) : Int) := by
    rw [IntKind.wrap_u64, ← Int.natCast_mul]
    omega
  have ho : bits .or .u64 (n : Int) ((x % 128 * 128 ^ k : Nat) : Int) = ((n + x % 128 * 128 ^ k : Nat) : Int) := by
    rw [u64_or_nat n _ hn (by omega), rn_or n _ k h]
  refine ⟨_, rfl, h1, ?_, x % 128, by omega, a2, ?_⟩
  · rw [a1, e, hw, ho]
  · rw [e, hw, ho]
theorem drop_at (l : List UInt8) (k : Nat) (x8 : UInt8) (h : k < l.length) (e : l[k] = x8) : l.drop k = x8 :: l.drop (k + 1) := by
  rw [← e]; exact List.drop_eq_getElem_cons h

end Go.Proofs.Ytghcfmkmndldoaa

/-
  The program's reader of numbers.
-/
namespace Go.Proofs.Ytghcfmkmndldoaa
open Go.RowKit

/-- what holds at a round's head: the number as far as it goes, or that it is no number -/
def Good (l : List UInt8) (k : Nat) (z : Int) : Prop :=
  (k < 10 ∧ ∃ n : Nat, z = (n : Int) ∧ n < 128 ^ k ∧ readNum l = rnGo (10 - k) k n (l.drop k)) ∨ (k = 10 ∧ readNum l = (0, 0, 22))
theorem Good.of_lt {l : List UInt8} {k : Nat} {z : Int} (h : Good l k z) (hk : k < 10) : ∃ n : Nat, z = (n : Int) ∧ n < 128 ^ k ∧ readNum l = rnGo (10 - k) k n (l.drop k) := by
  rcases h with h | h
  · exact h.2
  · omega
theorem Good.at_end {l : List UInt8} {k : Nat} {z : Int} (h : Good l k z) (hk : k < 10) (hl : l.length ≤ k) : readNum l = (0, 0, 21) := by
  obtain ⟨n, _, _, h⟩ := h.of_lt hk
  rw [h, List.drop_eq_nil_of_le hl, show 10 - k = (9 - k) + 1 from by omega, rnGo_nil]
theorem Good.at_ten {l : List UInt8} {z : Int} (h : Good l 10 z) : readNum l = (0, 0, 22) := by
  rcases h with h | h
  · omega
  · exact h.2

end Go.Proofs.Ytghcfmkmndldoaa
