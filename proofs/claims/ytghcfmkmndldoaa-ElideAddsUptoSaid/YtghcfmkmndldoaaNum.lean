/-
  Numbers, seven bits a byte: what both programs' writers of numbers tell.
-/
import Derived.Test.YtghcfmkmndldoaaBase
namespace Go.Proofs.Ytghcfmkmndldoaa
open Go.RowKit

/-- seven bits a byte, the lowest first -/
def numBytes (v : Nat) : List UInt8 :=
  if h : v < 128 then [UInt8.ofNat v] else UInt8.ofNat (v % 128 + 128) :: numBytes (v / 128)
termination_by v
decreasing_by omega
theorem numBytes_lt {v : Nat} (h : v < 128) : numBytes v = [UInt8.ofNat v] := by rw [numBytes]; simp [h]
theorem numBytes_ge {v : Nat} (h : ¬ v < 128) : numBytes v = UInt8.ofNat (v % 128 + 128) :: numBytes (v / 128) := by rw [numBytes]; simp [h]
theorem numBytes_len (n : Nat) : ∀ v : Nat, v < 128 ^ (n + 1) → (numBytes v).length ≤ n + 1 := by
  induction n with
  | zero => intro v hv; rw [numBytes_lt (by simpa using hv)]; simp
  | succ n ih =>
    intro v hv
    by_cases h : v < 128
    · rw [numBytes_lt h]; simp
    · rw [numBytes_ge h, List.length_cons]
      have := ih (v / 128) (by rw [Nat.div_lt_iff_lt_mul (by omega)]; rw [Nat.pow_succ] at hv; exact hv)
      omega
theorem numBytes_pos (v : Nat) : 1 ≤ (numBytes v).length := by
  by_cases h : v < 128
  · rw [numBytes_lt h]; simp
  · rw [numBytes_ge h]; simp
/-- 2 to the 64, behind a name: so great a numeral stops a walk -/
def two64 : Nat := 18446744073709551616
theorem two64_eq : two64 = 18446744073709551616 := rfl
theorem numBytes_ten {v : Nat} (h : v < two64) : (numBytes v).length ≤ 10 := numBytes_len 9 v (Nat.lt_of_lt_of_le h (by decide))

theorem byte_low (v : Nat) (h : v < 128) : IntKind.u8.wrap (v : Int) = ((UInt8.ofNat v).toNat : Int) := by
  rw [IntKind.wrap_u8', UInt8.toNat_ofNat']; omega
theorem byte_high (v : Nat) : bits .or .u8 (IntKind.u8.wrap (v : Int)) 128 = ((UInt8.ofNat (v % 128 + 128)).toNat : Int) := by
  rw [IntKind.wrap_u8']
  have e : (v : Int) % 256 = ((v % 256 : Nat) : Int) := by omega
  have e2 : (128 : Int) = ((128 : Nat) : Int) := rfl
  rw [e, e2, u8_or_nat _ _ (by omega) (by omega), UInt8.toNat_ofNat']
  have : v % 256 ||| 128 = v % 128 + 128 := by
    have h : ∀ x : Fin 256, x.val ||| 128 = x.val % 128 + 128 := by decide +kernel
    have := h ⟨v % 256, by omega⟩
    simp only at this
    rw [this]
    omega
  rw [this]
  omega

end Go.Proofs.Ytghcfmkmndldoaa
