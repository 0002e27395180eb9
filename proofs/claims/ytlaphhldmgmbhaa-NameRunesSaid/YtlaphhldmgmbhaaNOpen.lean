/-
  Arguments opened: texts, numbers of 64 bits, lists of runes, lists of texts.
-/
import Derived.Test.YtlaphhldmgmbhaaRows
import Derived.Test.YtlaphhldmgmbhaaNOwn
import Derived.Lib.SmallJoins
import Derived.ChangeOld
import Derived.ChangeMaps5
import Derived.SliceStrings
import Derived.Deep.Matrix
import Derived.ProofKit
import Derived.OpenShut
import Derived.Deep.DeepHandedRow
namespace Go.Proofs.Ytlaphhldmgmbhaa
open Go.ChangeShapes Go.WideShapes Go.ChangeAt Go.ChangeMaps Go.RowKit Go.Joins

theorem ownKnob_none : ownKnob Try.prog.godebug = none := by kernel_rfl
theorem laidOut_true : laidOutB Try.prog = true := by kernel_rfl
/-- a world for the witness -/
noncomputable def laidWorld (os : Os) : World := World.holding Try.prog os ⟨#[], #[], []⟩

section
variable {H : Type} {enc : TypeId × Value → H} {w : World} {base : Nat} {v : Value} {d : DataW H} {p : List MemPlace}

theorem open_str (hok : Value.okWide Try.prog w .any base 9 v) (h : DataW.Trod enc Try.prog w 0 (fun _ => true) true 9 v d p) : ∃ s : ByteArray, v = .string s ∧ s.size ≤ maxLen := by
  obtain ⟨s, h1, _, _, h2⟩ := open_string Try.underlying9 hok h
  exact ⟨s, h1, h2⟩
theorem open_u64 (hok : Value.okWide Try.prog w .any base 40 v) (h : DataW.Trod enc Try.prog w 0 (fun _ => true) true 40 v d p) : ∃ x : Nat, v = .int .u64 (x : Int) ∧ x < 18446744073709551616 := by
  obtain ⟨a, rfl, _, _, wa⟩ := open_int Try.underlying40 hok h
  have ba := bounds_u64 wa
  obtain ⟨x, rfl⟩ := Int.eq_ofNat_of_zero_le ba.1
  exact ⟨x, rfl, by omega⟩
/-- a reading lies below the heap's end -/
theorem trod_lt' {t : TypeId} (h : DataW.Trod enc Try.prog w 0 (fun _ => true) true t v d p) : ∀ x ∈ p, x.block < w.heap.size := by
  obtain ⟨m, hm⟩ := h
  exact DataW.trod_lt m _ _ _ hm
end
end Go.Proofs.Ytlaphhldmgmbhaa
