/-
  DERIVED. GIVEN WITH THE SEED: THE CARDS: each row of YtlficcdbnmheeaaDoorRows.lean that lists a variable, with what it lists TIED to the program's text (the seventh form; the later family's looks); each row that meets fmt, with fmt's text TOLD by the authors' own Lean function (tested against real Go, not proved from fmt's source: count such statements apart). THE CARD IS WHAT COUNTS. Prove the row's statement (the work); the ties are given (YtlficcdbnmheeaaDoorTie.lean); close each card by the builder's one call (the guide's Derived/Test/ToyasCard.lean, 'card_holds'). Laid BY PROGRAM, IN A SANDBOX (cutbox-door.mjs). By AI agents, Wed Nov 11 2026. No macro, syntax, notation, axiom, sorry.
-/
import Derived.Test.YtlficcdbnmheeaaDoorRows
import GoSem.ClaimSeven
namespace Go.Proofs.YtlficcdbnmheeaaDoor
namespace Rows

/-- THE TIED CARD OF 'flintlaw9.SegRows'. -/
def segRowsCard : Claim7 := { stood := { row := segRowsRow, standIns := [], harness := (true, "4ce14ad071815208e33b419352e2569a17b396fb8523fabc883061c6140c1e71"), looks := true }, kinds := [], alts := [], laidByText := true, laidKinds := [.data], laidTests := true, laidLooks := .later }
def SegRowsCardSaid : Prop := Claim7.holds Tryd.pinned (.plain (OpenSpec.ofChange segRowsSpec)) segRowsCard

/-- THE TIED CARD OF 'flintlaw9.SegWrites'. -/
def segWritesCard : Claim7 := { stood := { row := segWritesRow, standIns := [], harness := (true, "4ce14ad071815208e33b419352e2569a17b396fb8523fabc883061c6140c1e71"), looks := true }, kinds := [], alts := [], laidByText := true, laidKinds := [.data], laidTests := true, laidLooks := .later }
def SegWritesCardSaid : Prop := Claim7.holds Tryd.pinned (.plain (OpenSpec.ofChange segWritesSpec)) segWritesCard

/-- THE TIED CARD OF 'flintlaw9.SegHolds'. -/
def segHoldsCard : Claim7 := { stood := { row := segHoldsRow, standIns := [], harness := (true, "4ce14ad071815208e33b419352e2569a17b396fb8523fabc883061c6140c1e71"), looks := true }, kinds := [], alts := [], laidByText := true, laidKinds := [.data], laidTests := true, laidLooks := .later }
def SegHoldsCardSaid : Prop := Claim7.holds Tryd.pinned (.plain (OpenSpec.ofChange segHoldsSpec)) segHoldsCard

/-- THE TIED CARD OF 'flintlaw9.SegPlaces'. -/
def segPlacesCard : Claim7 := { stood := { row := segPlacesRow, standIns := [], harness := (true, "4ce14ad071815208e33b419352e2569a17b396fb8523fabc883061c6140c1e71"), looks := true }, kinds := [], alts := [], laidByText := true, laidKinds := [.data], laidTests := true, laidLooks := .later }
def SegPlacesCardSaid : Prop := Claim7.holds Tryd.pinned (.plain (OpenSpec.ofChange segPlacesSpec)) segPlacesCard

/-- THE TIED CARD OF 'flintlaw9.SegUnlike'. -/
def segUnlikeCard : Claim7 := { stood := { row := segUnlikeRow, standIns := [], harness := (true, "4ce14ad071815208e33b419352e2569a17b396fb8523fabc883061c6140c1e71"), looks := true }, kinds := [], alts := [], laidByText := true, laidKinds := [.data], laidTests := true, laidLooks := .later }
def SegUnlikeCardSaid : Prop := Claim7.holds Tryd.pinned (.plain (OpenSpec.ofChange segUnlikeSpec)) segUnlikeCard

/-- THE TIED CARD OF 'flintlaw10.ReadPages'. -/
def readPagesCard : Claim7 := { stood := { row := readPagesRow, standIns := [], harness := (true, "4ce14ad071815208e33b419352e2569a17b396fb8523fabc883061c6140c1e71"), looks := true }, kinds := [], alts := [], laidByText := true, laidKinds := [.data], laidTests := true, laidLooks := .later }
def ReadPagesCardSaid : Prop := Claim7.holds Tryd.pinned (.plain (OpenSpec.ofChange readPagesSpec)) readPagesCard

/-- THE SECOND FORM's CARD OF 'flintlaw9.SegRows'. -/
def segRowsUptoCard : Claim7 := { stood := { row := segRowsUptoRow, standIns := [], harness := (true, "4ce14ad071815208e33b419352e2569a17b396fb8523fabc883061c6140c1e71"), looks := true }, kinds := [], alts := [], laidByText := true, laidKinds := [.data], laidTests := true, laidLooks := .later }
def SegRowsUptoCardSaid : Prop := Claim7.holds Tryd.pinned (.plain (OpenSpec.upto segRowsSpec)) segRowsUptoCard

/-- THE SECOND FORM's CARD OF 'flintlaw9.SegWrites'. -/
def segWritesUptoCard : Claim7 := { stood := { row := segWritesUptoRow, standIns := [], harness := (true, "4ce14ad071815208e33b419352e2569a17b396fb8523fabc883061c6140c1e71"), looks := true }, kinds := [], alts := [], laidByText := true, laidKinds := [.data], laidTests := true, laidLooks := .later }
def SegWritesUptoCardSaid : Prop := Claim7.holds Tryd.pinned (.plain (OpenSpec.upto segWritesSpec)) segWritesUptoCard

/-- THE SECOND FORM's CARD OF 'flintlaw9.SegHolds'. -/
def segHoldsUptoCard : Claim7 := { stood := { row := segHoldsUptoRow, standIns := [], harness := (true, "4ce14ad071815208e33b419352e2569a17b396fb8523fabc883061c6140c1e71"), looks := true }, kinds := [], alts := [], laidByText := true, laidKinds := [.data], laidTests := true, laidLooks := .later }
def SegHoldsUptoCardSaid : Prop := Claim7.holds Tryd.pinned (.plain (OpenSpec.upto segHoldsSpec)) segHoldsUptoCard

/-- THE SECOND FORM's CARD OF 'flintlaw9.SegPlaces'. -/
def segPlacesUptoCard : Claim7 := { stood := { row := segPlacesUptoRow, standIns := [], harness := (true, "4ce14ad071815208e33b419352e2569a17b396fb8523fabc883061c6140c1e71"), looks := true }, kinds := [], alts := [], laidByText := true, laidKinds := [.data], laidTests := true, laidLooks := .later }
def SegPlacesUptoCardSaid : Prop := Claim7.holds Tryd.pinned (.plain (OpenSpec.upto segPlacesSpec)) segPlacesUptoCard

/-- THE SECOND FORM's CARD OF 'flintlaw9.SegUnlike'. -/
def segUnlikeUptoCard : Claim7 := { stood := { row := segUnlikeUptoRow, standIns := [], harness := (true, "4ce14ad071815208e33b419352e2569a17b396fb8523fabc883061c6140c1e71"), looks := true }, kinds := [], alts := [], laidByText := true, laidKinds := [.data], laidTests := true, laidLooks := .later }
def SegUnlikeUptoCardSaid : Prop := Claim7.holds Tryd.pinned (.plain (OpenSpec.upto segUnlikeSpec)) segUnlikeUptoCard

/-- THE SECOND FORM's CARD OF 'flintlaw10.ReadPages'. -/
def readPagesUptoCard : Claim7 := { stood := { row := readPagesUptoRow, standIns := [], harness := (true, "4ce14ad071815208e33b419352e2569a17b396fb8523fabc883061c6140c1e71"), looks := true }, kinds := [], alts := [], laidByText := true, laidKinds := [.data], laidTests := true, laidLooks := .later }
def ReadPagesUptoCardSaid : Prop := Claim7.holds Tryd.pinned (.plain (OpenSpec.upto readPagesSpec)) readPagesUptoCard
end Rows
end Go.Proofs.YtlficcdbnmheeaaDoor
