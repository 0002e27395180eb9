/-
  The program's reader of numbers.
-/
import Derived.Test.YtghcfmkmndldoaaRefRn
namespace Go.Proofs.Ytghcfmkmndldoaa
open Go.RowKit

/-- what holds at a round's head: the number as far as it goes, or that it is no number -/
def Good (l : List UInt8) (k : Nat) (z : Int) : Prop :=
  (k < 10 ∧ ∃ n : Nat, z = (n : Int) ∧ n < 128 ^ k ∧ readNum l = rnGo (10 - k) k n (l.drop k)) ∨ (k = 10 ∧ readNum l = (0, 0, 22))
theorem Good.of_lt {l : List UInt8} {k : Nat} {z : Int} (h : Good l k z) (hk : k < 10) : ∃ n : Nat, z = (n : Int) ∧ n < 128 ^ k ∧ readNum l = rnGo (10 - k) k n (l.drop k) := by
  rcases h with h | h
  · exact h.2
  · omega
theorem Good.at_end {l : List UInt8} {k : Nat} {z : Int} (h : Good l k z) (hk : k < 10) (hl : l.length ≤ k) : readNum l = (0, 0, 21) := by
  obtain ⟨n, _, _, h⟩ := h.of_lt hk
  rw [h, List.drop_eq_nil_of_le hl, show 10 - k = (9 - k) + 1 from by omega, rnGo_nil]
theorem Good.at_ten {l : List UInt8} {z : Int} (h : Good l 10 z) : readNum l = (0, 0, 22) := by
  rcases h with h | h
  · omega
  · exact h.2

end Go.Proofs.Ytghcfmkmndldoaa
