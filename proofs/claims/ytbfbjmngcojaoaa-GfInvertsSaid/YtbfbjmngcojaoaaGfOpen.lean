/-
  Arguments opened: a byte.
-/
import Derived.Test.YtbfbjmngcojaoaaZOpen
namespace Go.Proofs.Ytbfbjmngcojaoaa
open Go.ChangeShapes Go.WideShapes Go.ChangeAt Go.RowKit
variable {H : Type} {enc : TypeId × Value → H} {w w' : World} {v : Value} {d : DataW H} {p : List MemPlace} {base : Nat}
theorem bounds_byte {x : Int} (h : (Lit.int .u8 x).wf = true) : 0 ≤ x ∧ x < 256 := by
  simp [Lit.wf, IntKind.min, IntKind.max, IntKind.bits, IntKind.signed] at h
  omega
theorem open_u8 (hok : Value.okWide Try.prog w .any base 5 v) (h : DataW.Trod enc Try.prog w 0 (fun _ => true) true 5 v d p) : ∃ x : Nat, v = .int .u8 (x : Int) ∧ x < 256 := by
  obtain ⟨a, rfl, _, _, wa⟩ := open_int Try.underlying5 hok h
  have ba := bounds_byte wa
  obtain ⟨x, rfl⟩ := Int.eq_ofNat_of_zero_le ba.1
  exact ⟨x, rfl, by omega⟩
end Go.Proofs.Ytbfbjmngcojaoaa
