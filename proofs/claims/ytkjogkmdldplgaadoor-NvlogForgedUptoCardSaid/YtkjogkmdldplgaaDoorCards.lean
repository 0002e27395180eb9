/-
  DERIVED. GIVEN WITH THE SEED: THE CARDS: each row of YtkjogkmdldplgaaDoorRows.lean that lists a variable, with what it lists TIED to the program's text (the seventh form; the later family's looks); each row that meets fmt, with fmt's text TOLD by the authors' own Lean function (tested against real Go, not proved from fmt's source: count such statements apart). THE CARD IS WHAT COUNTS. Prove the row's statement (the work); the ties are given (YtkjogkmdldplgaaDoorTie.lean); close each card by the builder's one call (the guide's Derived/Test/ToyasCard.lean, 'card_holds'). Laid BY PROGRAM, IN A SANDBOX (cutbox-door.mjs). By AI agents, Wed Nov 11 2026. No macro, syntax, notation, axiom, sorry.
-/
import Derived.Test.YtkjogkmdldplgaaDoorRows
import GoSem.ClaimSeven
namespace Go.Proofs.YtkjogkmdldplgaaDoor
namespace Rows

/-- THE TIED CARD OF 'flintlaw7.NvlogRound'. -/
def nvlogRoundCard : Claim7 := { stood := { row := nvlogRoundRow, standIns := [], harness := (true, "ed5d5d3d627afa539fc1a0a7d9679d32253aaa5de845553308c33f1db537c7e6"), looks := true }, kinds := [], alts := [], laidByText := true, laidKinds := [.handle], laidTests := true, laidLooks := .later }
def NvlogRoundCardSaid : Prop := Claim7.holds Tryd.pinned (.plain (OpenSpec.ofChange nvlogRoundSpec)) nvlogRoundCard

/-- THE TIED CARD OF 'flintlaw7.NvlogForged'. -/
def nvlogForgedCard : Claim7 := { stood := { row := nvlogForgedRow, standIns := [], harness := (true, "ed5d5d3d627afa539fc1a0a7d9679d32253aaa5de845553308c33f1db537c7e6"), looks := true }, kinds := [], alts := [], laidByText := true, laidKinds := [.handle], laidTests := true, laidLooks := .later }
def NvlogForgedCardSaid : Prop := Claim7.holds Tryd.pinned (.plain (OpenSpec.ofChange nvlogForgedSpec)) nvlogForgedCard

/-- THE SECOND FORM's CARD OF 'flintlaw7.NvlogRound'. -/
def nvlogRoundUptoCard : Claim7 := { stood := { row := nvlogRoundUptoRow, standIns := [], harness := (true, "ed5d5d3d627afa539fc1a0a7d9679d32253aaa5de845553308c33f1db537c7e6"), looks := true }, kinds := [], alts := [], laidByText := true, laidKinds := [.handle], laidTests := true, laidLooks := .later }
def NvlogRoundUptoCardSaid : Prop := Claim7.holds Tryd.pinned (.plain (OpenSpec.upto nvlogRoundSpec)) nvlogRoundUptoCard

/-- THE SECOND FORM's CARD OF 'flintlaw7.NvlogForged'. -/
def nvlogForgedUptoCard : Claim7 := { stood := { row := nvlogForgedUptoRow, standIns := [], harness := (true, "ed5d5d3d627afa539fc1a0a7d9679d32253aaa5de845553308c33f1db537c7e6"), looks := true }, kinds := [], alts := [], laidByText := true, laidKinds := [.handle], laidTests := true, laidLooks := .later }
def NvlogForgedUptoCardSaid : Prop := Claim7.holds Tryd.pinned (.plain (OpenSpec.upto nvlogForgedSpec)) nvlogForgedUptoCard
end Rows
end Go.Proofs.YtkjogkmdldplgaaDoor
