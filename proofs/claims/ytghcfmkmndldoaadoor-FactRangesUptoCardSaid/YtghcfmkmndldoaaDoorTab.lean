/-
  What each card of this seat wants besides its walk: the table out of the row's list, and a world for the witness.
-/
import Derived.Test.YtghcfmkmndldoaaDoorCards
import Derived.Test.YtghcfmkmndldoaaDoorTie
import Derived.Test.YtghcfmkmndldoaaDoorKRefRn
import Derived.ProofKit
import Derived.OpenShut
import Derived.Deep.DeepHandedRow
import Derived.Lib.LaidTab
namespace Go.Proofs.YtghcfmkmndldoaaDoor
open Go.ChangeShapes Go.WideShapes Go.ChangeAt Go.RowKit

theorem ownKnob_none : ownKnob Tryd.prog.godebug = none := by kernel_rfl
theorem laidOut_true : laidOutB Tryd.prog = true := by kernel_rfl
theorem gTab : Tryd.prog.globalNamed "flint/frame.halves" = some 0 := by kernel_rfl
theorem gTabType : (Tryd.prog.globals[0]?).map (·.type) = some 190 := by kernel_rfl
theorem cellsTab : Tryd.prog.cellsOf 190 = 16 := by kernel_rfl
theorem cells32 : Tryd.prog.cellsOf 120 = 1 := by kernel_rfl
def halvesZ : List Int := [0, 274646895, 549293790, 820201905, 1098587580, 1361435347, 1640403810, 1905808397, 2197175160, 2460548119, 2722870694, 2987750089, 3280807620, 3553878443, 3811616794, 4084100981]

theorem tab_of {W : World} (h : laidMet Tryd.prog [("flint/frame.halves", Rows.laid_flint_frame_halves)] W) : Tab W := fun r hr => by
  have ht : Lib.TabIs Tryd.prog W "flint/frame.halves" .u32 halvesZ := Lib.tabIs_of_head (rest := []) gTab gTabType Tryd.underlying190 Tryd.underlying120 cells32 cellsTab h
  have hc := ht.cell gTab r hr
  rw [hc]
  have e : ∀ r : Fin 16, halvesZ.getD r.val 0 = ((halfOf r.val : Nat) : Int) := by decide
  rw [e ⟨r, hr⟩]

/-- a world for the witness: the settled one, the table holding what its initialiser lays -/
noncomputable def laidWorld (os : Os) : World :=
  { World.holding Tryd.prog os ⟨#[], #[], []⟩ with heap := (World.holding Tryd.prog os ⟨#[], #[], []⟩).heap.modify 0 fun
      | .cells _ t frozen => .cells #[.int .u32 0, .int .u32 274646895, .int .u32 549293790, .int .u32 820201905, .int .u32 1098587580, .int .u32 1361435347, .int .u32 1640403810, .int .u32 1905808397, .int .u32 2197175160, .int .u32 2460548119, .int .u32 2722870694, .int .u32 2987750089, .int .u32 3280807620, .int .u32 3553878443, .int .u32 3811616794, .int .u32 4084100981] t frozen
      | o => o }
end Go.Proofs.YtghcfmkmndldoaaDoor
