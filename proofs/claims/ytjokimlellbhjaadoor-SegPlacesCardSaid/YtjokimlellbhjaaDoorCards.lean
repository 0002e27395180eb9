/-
  DERIVED. GIVEN WITH THE SEED: THE CARDS: each row of YtjokimlellbhjaaDoorRows.lean that lists a variable, with what it lists TIED to the program's text (the seventh form; the later family's looks); each row that meets fmt, with fmt's text TOLD by the authors' own Lean function (tested against real Go, not proved from fmt's source: count such statements apart). THE CARD IS WHAT COUNTS. Prove the row's statement (the work); the ties are given (YtjokimlellbhjaaDoorTie.lean); close each card by the builder's one call (the guide's Derived/Test/ToyasCard.lean, 'card_holds'). Laid BY PROGRAM, IN A SANDBOX (cutbox-door.mjs). By AI agents, Wed Nov 11 2026. No macro, syntax, notation, axiom, sorry.
-/
import Derived.Test.YtjokimlellbhjaaDoorRows
import GoSem.ClaimSeven
namespace Go.Proofs.YtjokimlellbhjaaDoor
namespace Rows

/-- THE TIED CARD OF 'flintlaw9.SegRows'. -/
def segRowsCard : Claim7 := { stood := { row := segRowsRow, standIns := [], harness := (true, "e327547b62cfdeae5e908155a0ff2c90759537104e5f08a97e55c595e0d4715d"), looks := true }, kinds := [], alts := [], laidByText := true, laidKinds := [.data], laidTests := true, laidLooks := .later }
def SegRowsCardSaid : Prop := Claim7.holds Tryd.pinned (.plain (OpenSpec.ofChange segRowsSpec)) segRowsCard

/-- THE TIED CARD OF 'flintlaw9.SegWrites'. -/
def segWritesCard : Claim7 := { stood := { row := segWritesRow, standIns := [], harness := (true, "e327547b62cfdeae5e908155a0ff2c90759537104e5f08a97e55c595e0d4715d"), looks := true }, kinds := [], alts := [], laidByText := true, laidKinds := [.data], laidTests := true, laidLooks := .later }
def SegWritesCardSaid : Prop := Claim7.holds Tryd.pinned (.plain (OpenSpec.ofChange segWritesSpec)) segWritesCard

/-- THE TIED CARD OF 'flintlaw9.SegHolds'. -/
def segHoldsCard : Claim7 := { stood := { row := segHoldsRow, standIns := [], harness := (true, "e327547b62cfdeae5e908155a0ff2c90759537104e5f08a97e55c595e0d4715d"), looks := true }, kinds := [], alts := [], laidByText := true, laidKinds := [.data], laidTests := true, laidLooks := .later }
def SegHoldsCardSaid : Prop := Claim7.holds Tryd.pinned (.plain (OpenSpec.ofChange segHoldsSpec)) segHoldsCard

/-- THE TIED CARD OF 'flintlaw9.SegPlaces'. -/
def segPlacesCard : Claim7 := { stood := { row := segPlacesRow, standIns := [], harness := (true, "e327547b62cfdeae5e908155a0ff2c90759537104e5f08a97e55c595e0d4715d"), looks := true }, kinds := [], alts := [], laidByText := true, laidKinds := [.data], laidTests := true, laidLooks := .later }
def SegPlacesCardSaid : Prop := Claim7.holds Tryd.pinned (.plain (OpenSpec.ofChange segPlacesSpec)) segPlacesCard

/-- THE TIED CARD OF 'flintlaw9.SegUnlike'. -/
def segUnlikeCard : Claim7 := { stood := { row := segUnlikeRow, standIns := [], harness := (true, "e327547b62cfdeae5e908155a0ff2c90759537104e5f08a97e55c595e0d4715d"), looks := true }, kinds := [], alts := [], laidByText := true, laidKinds := [.data], laidTests := true, laidLooks := .later }
def SegUnlikeCardSaid : Prop := Claim7.holds Tryd.pinned (.plain (OpenSpec.ofChange segUnlikeSpec)) segUnlikeCard

/-- THE SECOND FORM's CARD OF 'flintlaw9.SegRows'. -/
def segRowsUptoCard : Claim7 := { stood := { row := segRowsUptoRow, standIns := [], harness := (true, "e327547b62cfdeae5e908155a0ff2c90759537104e5f08a97e55c595e0d4715d"), looks := true }, kinds := [], alts := [], laidByText := true, laidKinds := [.data], laidTests := true, laidLooks := .later }
def SegRowsUptoCardSaid : Prop := Claim7.holds Tryd.pinned (.plain (OpenSpec.upto segRowsSpec)) segRowsUptoCard

/-- THE SECOND FORM's CARD OF 'flintlaw9.SegWrites'. -/
def segWritesUptoCard : Claim7 := { stood := { row := segWritesUptoRow, standIns := [], harness := (true, "e327547b62cfdeae5e908155a0ff2c90759537104e5f08a97e55c595e0d4715d"), looks := true }, kinds := [], alts := [], laidByText := true, laidKinds := [.data], laidTests := true, laidLooks := .later }
def SegWritesUptoCardSaid : Prop := Claim7.holds Tryd.pinned (.plain (OpenSpec.upto segWritesSpec)) segWritesUptoCard

/-- THE SECOND FORM's CARD OF 'flintlaw9.SegHolds'. -/
def segHoldsUptoCard : Claim7 := { stood := { row := segHoldsUptoRow, standIns := [], harness := (true, "e327547b62cfdeae5e908155a0ff2c90759537104e5f08a97e55c595e0d4715d"), looks := true }, kinds := [], alts := [], laidByText := true, laidKinds := [.data], laidTests := true, laidLooks := .later }
def SegHoldsUptoCardSaid : Prop := Claim7.holds Tryd.pinned (.plain (OpenSpec.upto segHoldsSpec)) segHoldsUptoCard

/-- THE SECOND FORM's CARD OF 'flintlaw9.SegPlaces'. -/
def segPlacesUptoCard : Claim7 := { stood := { row := segPlacesUptoRow, standIns := [], harness := (true, "e327547b62cfdeae5e908155a0ff2c90759537104e5f08a97e55c595e0d4715d"), looks := true }, kinds := [], alts := [], laidByText := true, laidKinds := [.data], laidTests := true, laidLooks := .later }
def SegPlacesUptoCardSaid : Prop := Claim7.holds Tryd.pinned (.plain (OpenSpec.upto segPlacesSpec)) segPlacesUptoCard

/-- THE SECOND FORM's CARD OF 'flintlaw9.SegUnlike'. -/
def segUnlikeUptoCard : Claim7 := { stood := { row := segUnlikeUptoRow, standIns := [], harness := (true, "e327547b62cfdeae5e908155a0ff2c90759537104e5f08a97e55c595e0d4715d"), looks := true }, kinds := [], alts := [], laidByText := true, laidKinds := [.data], laidTests := true, laidLooks := .later }
def SegUnlikeUptoCardSaid : Prop := Claim7.holds Tryd.pinned (.plain (OpenSpec.upto segUnlikeSpec)) segUnlikeUptoCard
end Rows
end Go.Proofs.YtjokimlellbhjaaDoor
