/-
  DERIVED. GIVEN WITH THE SEED: THE CARDS: each row of YtghcfmkmndldoaaDoorRows.lean that lists a variable, with what it lists TIED to the program's text (the seventh form; the later family's looks); each row that meets fmt, with fmt's text TOLD by the authors' own Lean function (tested against real Go, not proved from fmt's source: count such statements apart). THE CARD IS WHAT COUNTS. Prove the row's statement (the work); the ties are given (YtghcfmkmndldoaaDoorTie.lean); close each card by the builder's one call (the guide's Derived/Test/ToyasCard.lean, 'card_holds'). Laid BY PROGRAM, IN A SANDBOX (cutbox-door.mjs). By AI agents, Wed Nov 11 2026. No macro, syntax, notation, axiom, sorry.
-/
import Derived.Test.YtghcfmkmndldoaaDoorRows
import GoSem.ClaimSeven
namespace Go.Proofs.YtghcfmkmndldoaaDoor
namespace Rows

/-- THE TIED CARD OF 'flintlaw10.ReadPages'. -/
def readPagesCard : Claim7 := { stood := { row := readPagesRow, standIns := [], harness := (true, "b0718d9a7252fd379d51c797df777a50db68d03b1580b28ba1f6f4fb8382f4c8"), looks := true }, kinds := [], alts := [], laidByText := true, laidKinds := [.data], laidTests := true, laidLooks := .later }
def ReadPagesCardSaid : Prop := Claim7.holds Tryd.pinned (.plain (OpenSpec.ofChange readPagesSpec)) readPagesCard

/-- THE TIED CARD OF 'flintlaw11.FactMerges'. -/
def factMergesCard : Claim7 := { stood := { row := factMergesRow, standIns := [], harness := (true, "b0718d9a7252fd379d51c797df777a50db68d03b1580b28ba1f6f4fb8382f4c8"), looks := true }, kinds := [], alts := [], laidByText := true, laidKinds := [.data], laidTests := true, laidLooks := .later }
def FactMergesCardSaid : Prop := Claim7.holds Tryd.pinned (.plain (OpenSpec.ofChange factMergesSpec)) factMergesCard

/-- THE TIED CARD OF 'flintlaw11.FactBuilds'. -/
def factBuildsCard : Claim7 := { stood := { row := factBuildsRow, standIns := [], harness := (true, "b0718d9a7252fd379d51c797df777a50db68d03b1580b28ba1f6f4fb8382f4c8"), looks := true }, kinds := [], alts := [], laidByText := true, laidKinds := [.data], laidTests := true, laidLooks := .later }
def FactBuildsCardSaid : Prop := Claim7.holds Tryd.pinned (.plain (OpenSpec.ofChange factBuildsSpec)) factBuildsCard

/-- THE TIED CARD OF 'flintlaw11.FactOpens'. -/
def factOpensCard : Claim7 := { stood := { row := factOpensRow, standIns := [], harness := (true, "b0718d9a7252fd379d51c797df777a50db68d03b1580b28ba1f6f4fb8382f4c8"), looks := true }, kinds := [], alts := [], laidByText := true, laidKinds := [.data], laidTests := true, laidLooks := .later }
def FactOpensCardSaid : Prop := Claim7.holds Tryd.pinned (.plain (OpenSpec.ofChange factOpensSpec)) factOpensCard

/-- THE TIED CARD OF 'flintlaw11.FactBack'. -/
def factBackCard : Claim7 := { stood := { row := factBackRow, standIns := [], harness := (true, "b0718d9a7252fd379d51c797df777a50db68d03b1580b28ba1f6f4fb8382f4c8"), looks := true }, kinds := [], alts := [], laidByText := true, laidKinds := [.data], laidTests := true, laidLooks := .later }
def FactBackCardSaid : Prop := Claim7.holds Tryd.pinned (.plain (OpenSpec.ofChange factBackSpec)) factBackCard

/-- THE TIED CARD OF 'flintlaw11.FactBits'. -/
def factBitsCard : Claim7 := { stood := { row := factBitsRow, standIns := [], harness := (true, "b0718d9a7252fd379d51c797df777a50db68d03b1580b28ba1f6f4fb8382f4c8"), looks := true }, kinds := [], alts := [], laidByText := true, laidKinds := [.data], laidTests := true, laidLooks := .later }
def FactBitsCardSaid : Prop := Claim7.holds Tryd.pinned (.plain (OpenSpec.ofChange factBitsSpec)) factBitsCard

/-- THE TIED CARD OF 'flintlaw11.FactOwn'. -/
def factOwnCard : Claim7 := { stood := { row := factOwnRow, standIns := [], harness := (true, "b0718d9a7252fd379d51c797df777a50db68d03b1580b28ba1f6f4fb8382f4c8"), looks := true }, kinds := [], alts := [], laidByText := true, laidKinds := [.data], laidTests := true, laidLooks := .later }
def FactOwnCardSaid : Prop := Claim7.holds Tryd.pinned (.plain (OpenSpec.ofChange factOwnSpec)) factOwnCard

/-- THE TIED CARD OF 'flintlaw11.FactSteps'. -/
def factStepsCard : Claim7 := { stood := { row := factStepsRow, standIns := [], harness := (true, "b0718d9a7252fd379d51c797df777a50db68d03b1580b28ba1f6f4fb8382f4c8"), looks := true }, kinds := [], alts := [], laidByText := true, laidKinds := [.data], laidTests := true, laidLooks := .later }
def FactStepsCardSaid : Prop := Claim7.holds Tryd.pinned (.plain (OpenSpec.ofChange factStepsSpec)) factStepsCard

/-- THE TIED CARD OF 'flintlaw11.FactRanges'. -/
def factRangesCard : Claim7 := { stood := { row := factRangesRow, standIns := [], harness := (true, "b0718d9a7252fd379d51c797df777a50db68d03b1580b28ba1f6f4fb8382f4c8"), looks := true }, kinds := [], alts := [], laidByText := true, laidKinds := [.data], laidTests := true, laidLooks := .later }
def FactRangesCardSaid : Prop := Claim7.holds Tryd.pinned (.plain (OpenSpec.ofChange factRangesSpec)) factRangesCard

/-- THE SECOND FORM's CARD OF 'flintlaw10.ReadPages'. -/
def readPagesUptoCard : Claim7 := { stood := { row := readPagesUptoRow, standIns := [], harness := (true, "b0718d9a7252fd379d51c797df777a50db68d03b1580b28ba1f6f4fb8382f4c8"), looks := true }, kinds := [], alts := [], laidByText := true, laidKinds := [.data], laidTests := true, laidLooks := .later }
def ReadPagesUptoCardSaid : Prop := Claim7.holds Tryd.pinned (.plain (OpenSpec.upto readPagesSpec)) readPagesUptoCard

/-- THE SECOND FORM's CARD OF 'flintlaw11.FactMerges'. -/
def factMergesUptoCard : Claim7 := { stood := { row := factMergesUptoRow, standIns := [], harness := (true, "b0718d9a7252fd379d51c797df777a50db68d03b1580b28ba1f6f4fb8382f4c8"), looks := true }, kinds := [], alts := [], laidByText := true, laidKinds := [.data], laidTests := true, laidLooks := .later }
def FactMergesUptoCardSaid : Prop := Claim7.holds Tryd.pinned (.plain (OpenSpec.upto factMergesSpec)) factMergesUptoCard

/-- THE SECOND FORM's CARD OF 'flintlaw11.FactBuilds'. -/
def factBuildsUptoCard : Claim7 := { stood := { row := factBuildsUptoRow, standIns := [], harness := (true, "b0718d9a7252fd379d51c797df777a50db68d03b1580b28ba1f6f4fb8382f4c8"), looks := true }, kinds := [], alts := [], laidByText := true, laidKinds := [.data], laidTests := true, laidLooks := .later }
def FactBuildsUptoCardSaid : Prop := Claim7.holds Tryd.pinned (.plain (OpenSpec.upto factBuildsSpec)) factBuildsUptoCard

/-- THE SECOND FORM's CARD OF 'flintlaw11.FactOpens'. -/
def factOpensUptoCard : Claim7 := { stood := { row := factOpensUptoRow, standIns := [], harness := (true, "b0718d9a7252fd379d51c797df777a50db68d03b1580b28ba1f6f4fb8382f4c8"), looks := true }, kinds := [], alts := [], laidByText := true, laidKinds := [.data], laidTests := true, laidLooks := .later }
def FactOpensUptoCardSaid : Prop := Claim7.holds Tryd.pinned (.plain (OpenSpec.upto factOpensSpec)) factOpensUptoCard

/-- THE SECOND FORM's CARD OF 'flintlaw11.FactBack'. -/
def factBackUptoCard : Claim7 := { stood := { row := factBackUptoRow, standIns := [], harness := (true, "b0718d9a7252fd379d51c797df777a50db68d03b1580b28ba1f6f4fb8382f4c8"), looks := true }, kinds := [], alts := [], laidByText := true, laidKinds := [.data], laidTests := true, laidLooks := .later }
def FactBackUptoCardSaid : Prop := Claim7.holds Tryd.pinned (.plain (OpenSpec.upto factBackSpec)) factBackUptoCard

/-- THE SECOND FORM's CARD OF 'flintlaw11.FactBits'. -/
def factBitsUptoCard : Claim7 := { stood := { row := factBitsUptoRow, standIns := [], harness := (true, "b0718d9a7252fd379d51c797df777a50db68d03b1580b28ba1f6f4fb8382f4c8"), looks := true }, kinds := [], alts := [], laidByText := true, laidKinds := [.data], laidTests := true, laidLooks := .later }
def FactBitsUptoCardSaid : Prop := Claim7.holds Tryd.pinned (.plain (OpenSpec.upto factBitsSpec)) factBitsUptoCard

/-- THE SECOND FORM's CARD OF 'flintlaw11.FactOwn'. -/
def factOwnUptoCard : Claim7 := { stood := { row := factOwnUptoRow, standIns := [], harness := (true, "b0718d9a7252fd379d51c797df777a50db68d03b1580b28ba1f6f4fb8382f4c8"), looks := true }, kinds := [], alts := [], laidByText := true, laidKinds := [.data], laidTests := true, laidLooks := .later }
def FactOwnUptoCardSaid : Prop := Claim7.holds Tryd.pinned (.plain (OpenSpec.upto factOwnSpec)) factOwnUptoCard

/-- THE SECOND FORM's CARD OF 'flintlaw11.FactSteps'. -/
def factStepsUptoCard : Claim7 := { stood := { row := factStepsUptoRow, standIns := [], harness := (true, "b0718d9a7252fd379d51c797df777a50db68d03b1580b28ba1f6f4fb8382f4c8"), looks := true }, kinds := [], alts := [], laidByText := true, laidKinds := [.data], laidTests := true, laidLooks := .later }
def FactStepsUptoCardSaid : Prop := Claim7.holds Tryd.pinned (.plain (OpenSpec.upto factStepsSpec)) factStepsUptoCard

/-- THE SECOND FORM's CARD OF 'flintlaw11.FactRanges'. -/
def factRangesUptoCard : Claim7 := { stood := { row := factRangesUptoRow, standIns := [], harness := (true, "b0718d9a7252fd379d51c797df777a50db68d03b1580b28ba1f6f4fb8382f4c8"), looks := true }, kinds := [], alts := [], laidByText := true, laidKinds := [.data], laidTests := true, laidLooks := .later }
def FactRangesUptoCardSaid : Prop := Claim7.holds Tryd.pinned (.plain (OpenSpec.upto factRangesSpec)) factRangesUptoCard
end Rows
end Go.Proofs.YtghcfmkmndldoaaDoor
