/-
  NARROWER THAN 'FOR EVERY INPUT', by the rows' own cells (each row's printed sentence says how): SegRows: laid · SegWrites: laid · SegHolds: laid · SegPlaces: laid · SegUnlike: laid · ReadPages: laid.
  DERIVED. THE GIVEN ROWS OF THIS SEAT. 6 by the template 'for every input the law returns true; each argument reads behind the call as it read before'; 0 by the template 'total and deterministic' (their statements: YtlficcdbnmheeaaDoorTotals.lean).
  GIVEN WITH THE SEED: the statements are not yours to turn. If you find one false, say at which input.
  Laid BY PROGRAM, IN A SANDBOX (cutbox-rows.mjs): the forced cells as the released guide's own fill.sh prints them over the translation 6cb2ccce6c9ebd70… (all of the seat's roots in one cut). By AI agents, Wed Nov 11 2026. No macro, syntax, notation, axiom, sorry.
-/
import Derived.Test.YtlficcdbnmheeaaDoorChecked
import GoSem.Claim
import GoSem.ClaimJoined
import GoSem.ClaimMapViews
import Derived.JoinedTies
import Derived.KernelRfl
namespace Go.Proofs.YtlficcdbnmheeaaDoor
/- THE CELL 'sum', in the pinned program and in every row, IS THE sha256 OF THE DUMP (.gsa) THAT YtlficcdbnmheeaaDoorProg.lean LOADS. Nothing in Lean hashes anything: it is a label: what it is worth is what the hold of that sum in a sandbox is worth. -/
noncomputable def Tryd.pinned : Pinned := { name := "ytlficcdbnmheeaadoor", sum := "6cb2ccce6c9ebd70c27b7687f91870355d31c9b5877f3a41c754c9d65d108411", checked := Tryd.checked }
namespace Rows
def none {H : Type} : Left H := { results := [], args := [] }

/- WHAT THE LISTED PACKAGE-LEVEL VARIABLES READ AS WHEN THE CALL BEGINS. Each datum BY PROGRAM (the guide's laid-datum.mjs) off the statement by which the dump's own 'gosem.cut.vars' lays the variable. In a bare row this is a premise. The card (YtlficcdbnmheeaaDoorCards.lean) ties it to the program's text. -/
def laid_flint_frame_halves {H : Type} : DataW H := .agg [.lit (.int .u32 0), .lit (.int .u32 274646895), .lit (.int .u32 549293790), .lit (.int .u32 820201905), .lit (.int .u32 1098587580), .lit (.int .u32 1361435347), .lit (.int .u32 1640403810), .lit (.int .u32 1905808397), .lit (.int .u32 2197175160), .lit (.int .u32 2460548119), .lit (.int .u32 2722870694), .lit (.int .u32 2987750089), .lit (.int .u32 3280807620), .lit (.int .u32 3553878443), .lit (.int .u32 3811616794), .lit (.int .u32 4084100981)]

/-- 'flintlaw9.SegRows': WHATEVER THE INPUT: true; the input reads as it did. -/
def segRowsSpec : ChangeSpec := { name := "segRows", fn := fun _ => fun
  | [d1, d2, d3, d4, d5, d6] => { results := [.lit (.bool true)], args := [d1, d2, d3, d4, d5, d6] }
  | _ => none }
def segRowsRow : OpenClaim := { program := "ytlficcdbnmheeaadoor", sum := "6cb2ccce6c9ebd70c27b7687f91870355d31c9b5877f3a41c754c9d65d108411", func := "flint/flintlaw9.SegRows", spec := "segRows", unfollowed := true, recurses := true, named := ["flint/frame.halves"], apart := false, laid := [("flint/frame.halves", laid_flint_frame_halves)] }
def SegRowsSaid : Prop := segRowsRow.holds Tryd.pinned (OpenSpec.ofChange segRowsSpec)

/-- ITS FALSE NEIGHBOUR: 'it returns false'. Refute it at one input. -/
def segRowsWrong : ChangeSpec := { name := "segRows", fn := fun _ => fun
  | [d1, d2, d3, d4, d5, d6] => { results := [.lit (.bool false)], args := [d1, d2, d3, d4, d5, d6] }
  | _ => none }
def SegRowsWrongFalsely : Prop := segRowsRow.holds Tryd.pinned (OpenSpec.ofChange segRowsWrong)

/-- 'flintlaw9.SegWrites': WHATEVER THE INPUT: true; the input reads as it did. -/
def segWritesSpec : ChangeSpec := { name := "segWrites", fn := fun _ => fun
  | [d1, d2, d3] => { results := [.lit (.bool true)], args := [d1, d2, d3] }
  | _ => none }
def segWritesRow : OpenClaim := { program := "ytlficcdbnmheeaadoor", sum := "6cb2ccce6c9ebd70c27b7687f91870355d31c9b5877f3a41c754c9d65d108411", func := "flint/flintlaw9.SegWrites", spec := "segWrites", unfollowed := true, recurses := true, named := ["flint/frame.halves"], apart := false, laid := [("flint/frame.halves", laid_flint_frame_halves)] }
def SegWritesSaid : Prop := segWritesRow.holds Tryd.pinned (OpenSpec.ofChange segWritesSpec)

/-- ITS FALSE NEIGHBOUR: 'it returns false'. Refute it at one input. -/
def segWritesWrong : ChangeSpec := { name := "segWrites", fn := fun _ => fun
  | [d1, d2, d3] => { results := [.lit (.bool false)], args := [d1, d2, d3] }
  | _ => none }
def SegWritesWrongFalsely : Prop := segWritesRow.holds Tryd.pinned (OpenSpec.ofChange segWritesWrong)

/-- 'flintlaw9.SegHolds': WHATEVER THE INPUT: true; the input reads as it did. -/
def segHoldsSpec : ChangeSpec := { name := "segHolds", fn := fun _ => fun
  | [d1, d2, d3] => { results := [.lit (.bool true)], args := [d1, d2, d3] }
  | _ => none }
def segHoldsRow : OpenClaim := { program := "ytlficcdbnmheeaadoor", sum := "6cb2ccce6c9ebd70c27b7687f91870355d31c9b5877f3a41c754c9d65d108411", func := "flint/flintlaw9.SegHolds", spec := "segHolds", unfollowed := true, recurses := true, named := ["flint/frame.halves"], apart := false, laid := [("flint/frame.halves", laid_flint_frame_halves)] }
def SegHoldsSaid : Prop := segHoldsRow.holds Tryd.pinned (OpenSpec.ofChange segHoldsSpec)

/-- ITS FALSE NEIGHBOUR: 'it returns false'. Refute it at one input. -/
def segHoldsWrong : ChangeSpec := { name := "segHolds", fn := fun _ => fun
  | [d1, d2, d3] => { results := [.lit (.bool false)], args := [d1, d2, d3] }
  | _ => none }
def SegHoldsWrongFalsely : Prop := segHoldsRow.holds Tryd.pinned (OpenSpec.ofChange segHoldsWrong)

/-- 'flintlaw9.SegPlaces': WHATEVER THE INPUT: true; the input reads as it did. -/
def segPlacesSpec : ChangeSpec := { name := "segPlaces", fn := fun _ => fun
  | [d1, d2, d3] => { results := [.lit (.bool true)], args := [d1, d2, d3] }
  | _ => none }
def segPlacesRow : OpenClaim := { program := "ytlficcdbnmheeaadoor", sum := "6cb2ccce6c9ebd70c27b7687f91870355d31c9b5877f3a41c754c9d65d108411", func := "flint/flintlaw9.SegPlaces", spec := "segPlaces", unfollowed := true, recurses := true, named := ["flint/frame.halves"], apart := false, laid := [("flint/frame.halves", laid_flint_frame_halves)] }
def SegPlacesSaid : Prop := segPlacesRow.holds Tryd.pinned (OpenSpec.ofChange segPlacesSpec)

/-- ITS FALSE NEIGHBOUR: 'it returns false'. Refute it at one input. -/
def segPlacesWrong : ChangeSpec := { name := "segPlaces", fn := fun _ => fun
  | [d1, d2, d3] => { results := [.lit (.bool false)], args := [d1, d2, d3] }
  | _ => none }
def SegPlacesWrongFalsely : Prop := segPlacesRow.holds Tryd.pinned (OpenSpec.ofChange segPlacesWrong)

/-- 'flintlaw9.SegUnlike': WHATEVER THE INPUT: true; the input reads as it did. -/
def segUnlikeSpec : ChangeSpec := { name := "segUnlike", fn := fun _ => fun
  | [d1, d2, d3, d4, d5, d6, d7] => { results := [.lit (.bool true)], args := [d1, d2, d3, d4, d5, d6, d7] }
  | _ => none }
def segUnlikeRow : OpenClaim := { program := "ytlficcdbnmheeaadoor", sum := "6cb2ccce6c9ebd70c27b7687f91870355d31c9b5877f3a41c754c9d65d108411", func := "flint/flintlaw9.SegUnlike", spec := "segUnlike", unfollowed := true, recurses := true, named := ["flint/frame.halves"], apart := false, laid := [("flint/frame.halves", laid_flint_frame_halves)] }
def SegUnlikeSaid : Prop := segUnlikeRow.holds Tryd.pinned (OpenSpec.ofChange segUnlikeSpec)

/-- ITS FALSE NEIGHBOUR: 'it returns false'. Refute it at one input. -/
def segUnlikeWrong : ChangeSpec := { name := "segUnlike", fn := fun _ => fun
  | [d1, d2, d3, d4, d5, d6, d7] => { results := [.lit (.bool false)], args := [d1, d2, d3, d4, d5, d6, d7] }
  | _ => none }
def SegUnlikeWrongFalsely : Prop := segUnlikeRow.holds Tryd.pinned (OpenSpec.ofChange segUnlikeWrong)

/-- 'flintlaw10.ReadPages': WHATEVER THE INPUT: true; the input reads as it did. -/
def readPagesSpec : ChangeSpec := { name := "readPages", fn := fun _ => fun
  | [d1, d2, d3, d4, d5] => { results := [.lit (.bool true)], args := [d1, d2, d3, d4, d5] }
  | _ => none }
def readPagesRow : OpenClaim := { program := "ytlficcdbnmheeaadoor", sum := "6cb2ccce6c9ebd70c27b7687f91870355d31c9b5877f3a41c754c9d65d108411", func := "flint/flintlaw10.ReadPages", spec := "readPages", unfollowed := true, recurses := true, named := ["flint/frame.halves"], apart := false, laid := [("flint/frame.halves", laid_flint_frame_halves)] }
def ReadPagesSaid : Prop := readPagesRow.holds Tryd.pinned (OpenSpec.ofChange readPagesSpec)

/-- ITS FALSE NEIGHBOUR: 'it returns false'. Refute it at one input. -/
def readPagesWrong : ChangeSpec := { name := "readPages", fn := fun _ => fun
  | [d1, d2, d3, d4, d5] => { results := [.lit (.bool false)], args := [d1, d2, d3, d4, d5] }
  | _ => none }
def ReadPagesWrongFalsely : Prop := readPagesRow.holds Tryd.pinned (OpenSpec.ofChange readPagesWrong)

/- THE SECOND FORM. 'bulk': how many values and letters a reading holds, each counted each time it is reached (what is shared counts as often as it is met; a slice's spare places count too). A statement '..UptoSaid' is the law's where the arguments, and the package variables that the reading takes, are together of bulk at most 1048576: NARROWER than '..Said'. Prove '..Said' where nothing that the law and all that it calls make is longer than what came in: it says more and counts as full. Else prove '..UptoSaid'. A law counts once. -/
mutual
def uptoBulk {H : Type} : DataW H → Nat
  | .lit (.string bytes) => bytes.length + 1
  | .lit _ => 1
  | .nil => 1
  | .ptr d => uptoBulk d + 1
  | .slice elems spare => uptoBulkAll elems + uptoBulkAll spare + 1
  | .agg parts => uptoBulkAll parts + 1
  | .iface _ d => uptoBulk d + 1
  | .map entries => uptoBulkEntries entries + 1
  | .held _ => 1
def uptoBulkAll {H : Type} : List (DataW H) → Nat
  | [] => 0
  | d :: r => uptoBulk d + uptoBulkAll r
def uptoBulkEntries {H : Type} : List (Lit × DataW H) → Nat
  | [] => 0
  | x :: r => uptoBulkEntry x + uptoBulkEntries r
def uptoBulkEntry {H : Type} : Lit × DataW H → Nat
  | (.string bytes, d) => bytes.length + uptoBulk d + 1
  | (_, d) => uptoBulk d + 1
 end
def uptoSmall : (H : Type) → List (DataW H) → Bool := fun _ ds => decide (uptoBulkAll ds ≤ 1048576)
def OpenSpec.upto (s : _root_.Go.ChangeSpec) : _root_.Go.OpenSpec := { _root_.Go.OpenSpec.ofChange s with cond := some uptoSmall }

/-- 'flintlaw9.SegRows', WHERE WHAT IT READS IS OF BULK AT MOST 1048576: true; the input reads as it did. -/
def segRowsUptoRow : OpenClaim := { program := "ytlficcdbnmheeaadoor", sum := "6cb2ccce6c9ebd70c27b7687f91870355d31c9b5877f3a41c754c9d65d108411", func := "flint/flintlaw9.SegRows", spec := "segRows", unfollowed := true, recurses := true, named := ["flint/frame.halves"], apart := false, laid := [("flint/frame.halves", laid_flint_frame_halves)], narrowed := true }
def SegRowsUptoSaid : Prop := segRowsUptoRow.holds Tryd.pinned (OpenSpec.upto segRowsSpec)

/-- 'flintlaw9.SegWrites', WHERE WHAT IT READS IS OF BULK AT MOST 1048576: true; the input reads as it did. -/
def segWritesUptoRow : OpenClaim := { program := "ytlficcdbnmheeaadoor", sum := "6cb2ccce6c9ebd70c27b7687f91870355d31c9b5877f3a41c754c9d65d108411", func := "flint/flintlaw9.SegWrites", spec := "segWrites", unfollowed := true, recurses := true, named := ["flint/frame.halves"], apart := false, laid := [("flint/frame.halves", laid_flint_frame_halves)], narrowed := true }
def SegWritesUptoSaid : Prop := segWritesUptoRow.holds Tryd.pinned (OpenSpec.upto segWritesSpec)

/-- 'flintlaw9.SegHolds', WHERE WHAT IT READS IS OF BULK AT MOST 1048576: true; the input reads as it did. -/
def segHoldsUptoRow : OpenClaim := { program := "ytlficcdbnmheeaadoor", sum := "6cb2ccce6c9ebd70c27b7687f91870355d31c9b5877f3a41c754c9d65d108411", func := "flint/flintlaw9.SegHolds", spec := "segHolds", unfollowed := true, recurses := true, named := ["flint/frame.halves"], apart := false, laid := [("flint/frame.halves", laid_flint_frame_halves)], narrowed := true }
def SegHoldsUptoSaid : Prop := segHoldsUptoRow.holds Tryd.pinned (OpenSpec.upto segHoldsSpec)

/-- 'flintlaw9.SegPlaces', WHERE WHAT IT READS IS OF BULK AT MOST 1048576: true; the input reads as it did. -/
def segPlacesUptoRow : OpenClaim := { program := "ytlficcdbnmheeaadoor", sum := "6cb2ccce6c9ebd70c27b7687f91870355d31c9b5877f3a41c754c9d65d108411", func := "flint/flintlaw9.SegPlaces", spec := "segPlaces", unfollowed := true, recurses := true, named := ["flint/frame.halves"], apart := false, laid := [("flint/frame.halves", laid_flint_frame_halves)], narrowed := true }
def SegPlacesUptoSaid : Prop := segPlacesUptoRow.holds Tryd.pinned (OpenSpec.upto segPlacesSpec)

/-- 'flintlaw9.SegUnlike', WHERE WHAT IT READS IS OF BULK AT MOST 1048576: true; the input reads as it did. -/
def segUnlikeUptoRow : OpenClaim := { program := "ytlficcdbnmheeaadoor", sum := "6cb2ccce6c9ebd70c27b7687f91870355d31c9b5877f3a41c754c9d65d108411", func := "flint/flintlaw9.SegUnlike", spec := "segUnlike", unfollowed := true, recurses := true, named := ["flint/frame.halves"], apart := false, laid := [("flint/frame.halves", laid_flint_frame_halves)], narrowed := true }
def SegUnlikeUptoSaid : Prop := segUnlikeUptoRow.holds Tryd.pinned (OpenSpec.upto segUnlikeSpec)

/-- 'flintlaw10.ReadPages', WHERE WHAT IT READS IS OF BULK AT MOST 1048576: true; the input reads as it did. -/
def readPagesUptoRow : OpenClaim := { program := "ytlficcdbnmheeaadoor", sum := "6cb2ccce6c9ebd70c27b7687f91870355d31c9b5877f3a41c754c9d65d108411", func := "flint/flintlaw10.ReadPages", spec := "readPages", unfollowed := true, recurses := true, named := ["flint/frame.halves"], apart := false, laid := [("flint/frame.halves", laid_flint_frame_halves)], narrowed := true }
def ReadPagesUptoSaid : Prop := readPagesUptoRow.holds Tryd.pinned (OpenSpec.upto readPagesSpec)

end Rows
end Go.Proofs.YtlficcdbnmheeaaDoor
