/-
  NARROWER THAN 'FOR EVERY INPUT', by the rows' own cells (each row's printed sentence says how): FrameSums: laid · FrameReads: laid · FrameWrites: laid · FrameBack: laid · FrameBits: laid · FrameGrows: laid · FramePages: laid.
  DERIVED. THE GIVEN ROWS OF THIS SEAT. 7 by the template 'for every input the law returns true; each argument reads behind the call as it read before'; 0 by the template 'total and deterministic' (their statements: YtnphlaolinalkaaDoorTotals.lean).
  GIVEN WITH THE SEED: the statements are not yours to turn. If you find one false, say at which input.
  Laid BY PROGRAM, IN A SANDBOX (cutbox-rows.mjs): the forced cells as the released guide's own fill.sh prints them over the translation acfcd5a5ae826716… (all of the seat's roots in one cut). By AI agents, Wed Nov 11 2026. No macro, syntax, notation, axiom, sorry.
-/
import Derived.Test.YtnphlaolinalkaaDoorChecked
import GoSem.Claim
import GoSem.ClaimJoined
import GoSem.ClaimMapViews
import Derived.JoinedTies
import Derived.KernelRfl
namespace Go.Proofs.YtnphlaolinalkaaDoor
/- THE CELL 'sum', in the pinned program and in every row, IS THE sha256 OF THE DUMP (.gsa) THAT YtnphlaolinalkaaDoorProg.lean LOADS. Nothing in Lean hashes anything: it is a label: what it is worth is what the hold of that sum in a sandbox is worth. -/
noncomputable def Tryd.pinned : Pinned := { name := "ytnphlaolinalkaadoor", sum := "acfcd5a5ae8267163b3ae0a6afa3ace160f2a6b384ae0b7c7c8b5c06bc0d3cc4", checked := Tryd.checked }
namespace Rows
def none {H : Type} : Left H := { results := [], args := [] }

/- WHAT THE LISTED PACKAGE-LEVEL VARIABLES READ AS WHEN THE CALL BEGINS. Each datum BY PROGRAM (the guide's laid-datum.mjs) off the statement by which the dump's own 'gosem.cut.vars' lays the variable. In a bare row this is a premise. The card (YtnphlaolinalkaaDoorCards.lean) ties it to the program's text. -/
def laid_flint_frame_halves {H : Type} : DataW H := .agg [.lit (.int .u32 0), .lit (.int .u32 274646895), .lit (.int .u32 549293790), .lit (.int .u32 820201905), .lit (.int .u32 1098587580), .lit (.int .u32 1361435347), .lit (.int .u32 1640403810), .lit (.int .u32 1905808397), .lit (.int .u32 2197175160), .lit (.int .u32 2460548119), .lit (.int .u32 2722870694), .lit (.int .u32 2987750089), .lit (.int .u32 3280807620), .lit (.int .u32 3553878443), .lit (.int .u32 3811616794), .lit (.int .u32 4084100981)]

/-- 'flintlaw1.FrameSums': WHATEVER THE INPUT: true; the input reads as it did. -/
def frameSumsSpec : ChangeSpec := { name := "frameSums", fn := fun _ => fun
  | [d] => { results := [.lit (.bool true)], args := [d] }
  | _ => none }
def frameSumsRow : OpenClaim := { program := "ytnphlaolinalkaadoor", sum := "acfcd5a5ae8267163b3ae0a6afa3ace160f2a6b384ae0b7c7c8b5c06bc0d3cc4", func := "flint/flintlaw1.FrameSums", spec := "frameSums", named := ["flint/frame.halves"], apart := false, laid := [("flint/frame.halves", laid_flint_frame_halves)] }
def FrameSumsSaid : Prop := frameSumsRow.holds Tryd.pinned (OpenSpec.ofChange frameSumsSpec)

/-- ITS FALSE NEIGHBOUR: 'it returns false'. Refute it at one input. -/
def frameSumsWrong : ChangeSpec := { name := "frameSums", fn := fun _ => fun
  | [d] => { results := [.lit (.bool false)], args := [d] }
  | _ => none }
def FrameSumsWrongFalsely : Prop := frameSumsRow.holds Tryd.pinned (OpenSpec.ofChange frameSumsWrong)

/-- 'flintlaw1.FrameReads': WHATEVER THE INPUT: true; the input reads as it did. -/
def frameReadsSpec : ChangeSpec := { name := "frameReads", fn := fun _ => fun
  | [d1, d2] => { results := [.lit (.bool true)], args := [d1, d2] }
  | _ => none }
def frameReadsRow : OpenClaim := { program := "ytnphlaolinalkaadoor", sum := "acfcd5a5ae8267163b3ae0a6afa3ace160f2a6b384ae0b7c7c8b5c06bc0d3cc4", func := "flint/flintlaw1.FrameReads", spec := "frameReads", named := ["flint/frame.halves"], apart := false, laid := [("flint/frame.halves", laid_flint_frame_halves)] }
def FrameReadsSaid : Prop := frameReadsRow.holds Tryd.pinned (OpenSpec.ofChange frameReadsSpec)

/-- ITS FALSE NEIGHBOUR: 'it returns false'. Refute it at one input. -/
def frameReadsWrong : ChangeSpec := { name := "frameReads", fn := fun _ => fun
  | [d1, d2] => { results := [.lit (.bool false)], args := [d1, d2] }
  | _ => none }
def FrameReadsWrongFalsely : Prop := frameReadsRow.holds Tryd.pinned (OpenSpec.ofChange frameReadsWrong)

/-- 'flintlaw1.FrameWrites': WHATEVER THE INPUT: true; the input reads as it did. -/
def frameWritesSpec : ChangeSpec := { name := "frameWrites", fn := fun _ => fun
  | [d1, d2, d3, d4, d5] => { results := [.lit (.bool true)], args := [d1, d2, d3, d4, d5] }
  | _ => none }
def frameWritesRow : OpenClaim := { program := "ytnphlaolinalkaadoor", sum := "acfcd5a5ae8267163b3ae0a6afa3ace160f2a6b384ae0b7c7c8b5c06bc0d3cc4", func := "flint/flintlaw1.FrameWrites", spec := "frameWrites", named := ["flint/frame.halves"], apart := false, laid := [("flint/frame.halves", laid_flint_frame_halves)] }
def FrameWritesSaid : Prop := frameWritesRow.holds Tryd.pinned (OpenSpec.ofChange frameWritesSpec)

/-- ITS FALSE NEIGHBOUR: 'it returns false'. Refute it at one input. -/
def frameWritesWrong : ChangeSpec := { name := "frameWrites", fn := fun _ => fun
  | [d1, d2, d3, d4, d5] => { results := [.lit (.bool false)], args := [d1, d2, d3, d4, d5] }
  | _ => none }
def FrameWritesWrongFalsely : Prop := frameWritesRow.holds Tryd.pinned (OpenSpec.ofChange frameWritesWrong)

/-- 'flintlaw1.FrameBack': WHATEVER THE INPUT: true; the input reads as it did. -/
def frameBackSpec : ChangeSpec := { name := "frameBack", fn := fun _ => fun
  | [d1, d2, d3, d4, d5] => { results := [.lit (.bool true)], args := [d1, d2, d3, d4, d5] }
  | _ => none }
def frameBackRow : OpenClaim := { program := "ytnphlaolinalkaadoor", sum := "acfcd5a5ae8267163b3ae0a6afa3ace160f2a6b384ae0b7c7c8b5c06bc0d3cc4", func := "flint/flintlaw1.FrameBack", spec := "frameBack", named := ["flint/frame.halves"], apart := false, laid := [("flint/frame.halves", laid_flint_frame_halves)] }
def FrameBackSaid : Prop := frameBackRow.holds Tryd.pinned (OpenSpec.ofChange frameBackSpec)

/-- ITS FALSE NEIGHBOUR: 'it returns false'. Refute it at one input. -/
def frameBackWrong : ChangeSpec := { name := "frameBack", fn := fun _ => fun
  | [d1, d2, d3, d4, d5] => { results := [.lit (.bool false)], args := [d1, d2, d3, d4, d5] }
  | _ => none }
def FrameBackWrongFalsely : Prop := frameBackRow.holds Tryd.pinned (OpenSpec.ofChange frameBackWrong)

/-- 'flintlaw1.FrameBits': WHATEVER THE INPUT: true; the input reads as it did. -/
def frameBitsSpec : ChangeSpec := { name := "frameBits", fn := fun _ => fun
  | [d1, d2, d3] => { results := [.lit (.bool true)], args := [d1, d2, d3] }
  | _ => none }
def frameBitsRow : OpenClaim := { program := "ytnphlaolinalkaadoor", sum := "acfcd5a5ae8267163b3ae0a6afa3ace160f2a6b384ae0b7c7c8b5c06bc0d3cc4", func := "flint/flintlaw1.FrameBits", spec := "frameBits", named := ["flint/frame.halves"], apart := false, laid := [("flint/frame.halves", laid_flint_frame_halves)] }
def FrameBitsSaid : Prop := frameBitsRow.holds Tryd.pinned (OpenSpec.ofChange frameBitsSpec)

/-- ITS FALSE NEIGHBOUR: 'it returns false'. Refute it at one input. -/
def frameBitsWrong : ChangeSpec := { name := "frameBits", fn := fun _ => fun
  | [d1, d2, d3] => { results := [.lit (.bool false)], args := [d1, d2, d3] }
  | _ => none }
def FrameBitsWrongFalsely : Prop := frameBitsRow.holds Tryd.pinned (OpenSpec.ofChange frameBitsWrong)

/-- 'flintlaw1.FrameGrows': WHATEVER THE INPUT: true; the input reads as it did. -/
def frameGrowsSpec : ChangeSpec := { name := "frameGrows", fn := fun _ => fun
  | [d1, d2] => { results := [.lit (.bool true)], args := [d1, d2] }
  | _ => none }
def frameGrowsRow : OpenClaim := { program := "ytnphlaolinalkaadoor", sum := "acfcd5a5ae8267163b3ae0a6afa3ace160f2a6b384ae0b7c7c8b5c06bc0d3cc4", func := "flint/flintlaw1.FrameGrows", spec := "frameGrows", named := ["flint/frame.halves"], apart := false, laid := [("flint/frame.halves", laid_flint_frame_halves)] }
def FrameGrowsSaid : Prop := frameGrowsRow.holds Tryd.pinned (OpenSpec.ofChange frameGrowsSpec)

/-- ITS FALSE NEIGHBOUR: 'it returns false'. Refute it at one input. -/
def frameGrowsWrong : ChangeSpec := { name := "frameGrows", fn := fun _ => fun
  | [d1, d2] => { results := [.lit (.bool false)], args := [d1, d2] }
  | _ => none }
def FrameGrowsWrongFalsely : Prop := frameGrowsRow.holds Tryd.pinned (OpenSpec.ofChange frameGrowsWrong)

/-- 'flintlaw1.FramePages': WHATEVER THE INPUT: true; the input reads as it did. -/
def framePagesSpec : ChangeSpec := { name := "framePages", fn := fun _ => fun
  | [d1, d2, d3, d4, d5] => { results := [.lit (.bool true)], args := [d1, d2, d3, d4, d5] }
  | _ => none }
def framePagesRow : OpenClaim := { program := "ytnphlaolinalkaadoor", sum := "acfcd5a5ae8267163b3ae0a6afa3ace160f2a6b384ae0b7c7c8b5c06bc0d3cc4", func := "flint/flintlaw1.FramePages", spec := "framePages", named := ["flint/frame.halves"], apart := false, laid := [("flint/frame.halves", laid_flint_frame_halves)] }
def FramePagesSaid : Prop := framePagesRow.holds Tryd.pinned (OpenSpec.ofChange framePagesSpec)

/-- ITS FALSE NEIGHBOUR: 'it returns false'. Refute it at one input. -/
def framePagesWrong : ChangeSpec := { name := "framePages", fn := fun _ => fun
  | [d1, d2, d3, d4, d5] => { results := [.lit (.bool false)], args := [d1, d2, d3, d4, d5] }
  | _ => none }
def FramePagesWrongFalsely : Prop := framePagesRow.holds Tryd.pinned (OpenSpec.ofChange framePagesWrong)

/- THE SECOND FORM. 'bulk': how many values and letters a reading holds, each counted each time it is reached (what is shared counts as often as it is met; a slice's spare places count too). A statement '..UptoSaid' is the law's where the arguments, and the package variables that the reading takes, are together of bulk at most 1048576: NARROWER than '..Said'. Prove '..Said' where nothing that the law and all that it calls make is longer than what came in: it says more and counts as full. Else prove '..UptoSaid'. A law counts once. -/
mutual
def uptoBulk {H : Type} : DataW H → Nat
  | .lit (.string bytes) => bytes.length + 1
  | .lit _ => 1
  | .nil => 1
  | .ptr d => uptoBulk d + 1
  | .slice elems spare => uptoBulkAll elems + uptoBulkAll spare + 1
  | .agg parts => uptoBulkAll parts + 1
  | .iface _ d => uptoBulk d + 1
  | .map entries => uptoBulkEntries entries + 1
  | .held _ => 1
def uptoBulkAll {H : Type} : List (DataW H) → Nat
  | [] => 0
  | d :: r => uptoBulk d + uptoBulkAll r
def uptoBulkEntries {H : Type} : List (Lit × DataW H) → Nat
  | [] => 0
  | x :: r => uptoBulkEntry x + uptoBulkEntries r
def uptoBulkEntry {H : Type} : Lit × DataW H → Nat
  | (.string bytes, d) => bytes.length + uptoBulk d + 1
  | (_, d) => uptoBulk d + 1
 end
def uptoSmall : (H : Type) → List (DataW H) → Bool := fun _ ds => decide (uptoBulkAll ds ≤ 1048576)
def OpenSpec.upto (s : _root_.Go.ChangeSpec) : _root_.Go.OpenSpec := { _root_.Go.OpenSpec.ofChange s with cond := some uptoSmall }

/-- 'flintlaw1.FrameSums', WHERE WHAT IT READS IS OF BULK AT MOST 1048576: true; the input reads as it did. -/
def frameSumsUptoRow : OpenClaim := { program := "ytnphlaolinalkaadoor", sum := "acfcd5a5ae8267163b3ae0a6afa3ace160f2a6b384ae0b7c7c8b5c06bc0d3cc4", func := "flint/flintlaw1.FrameSums", spec := "frameSums", named := ["flint/frame.halves"], apart := false, laid := [("flint/frame.halves", laid_flint_frame_halves)], narrowed := true }
def FrameSumsUptoSaid : Prop := frameSumsUptoRow.holds Tryd.pinned (OpenSpec.upto frameSumsSpec)

/-- 'flintlaw1.FrameReads', WHERE WHAT IT READS IS OF BULK AT MOST 1048576: true; the input reads as it did. -/
def frameReadsUptoRow : OpenClaim := { program := "ytnphlaolinalkaadoor", sum := "acfcd5a5ae8267163b3ae0a6afa3ace160f2a6b384ae0b7c7c8b5c06bc0d3cc4", func := "flint/flintlaw1.FrameReads", spec := "frameReads", named := ["flint/frame.halves"], apart := false, laid := [("flint/frame.halves", laid_flint_frame_halves)], narrowed := true }
def FrameReadsUptoSaid : Prop := frameReadsUptoRow.holds Tryd.pinned (OpenSpec.upto frameReadsSpec)

/-- 'flintlaw1.FrameWrites', WHERE WHAT IT READS IS OF BULK AT MOST 1048576: true; the input reads as it did. -/
def frameWritesUptoRow : OpenClaim := { program := "ytnphlaolinalkaadoor", sum := "acfcd5a5ae8267163b3ae0a6afa3ace160f2a6b384ae0b7c7c8b5c06bc0d3cc4", func := "flint/flintlaw1.FrameWrites", spec := "frameWrites", named := ["flint/frame.halves"], apart := false, laid := [("flint/frame.halves", laid_flint_frame_halves)], narrowed := true }
def FrameWritesUptoSaid : Prop := frameWritesUptoRow.holds Tryd.pinned (OpenSpec.upto frameWritesSpec)

/-- 'flintlaw1.FrameBack', WHERE WHAT IT READS IS OF BULK AT MOST 1048576: true; the input reads as it did. -/
def frameBackUptoRow : OpenClaim := { program := "ytnphlaolinalkaadoor", sum := "acfcd5a5ae8267163b3ae0a6afa3ace160f2a6b384ae0b7c7c8b5c06bc0d3cc4", func := "flint/flintlaw1.FrameBack", spec := "frameBack", named := ["flint/frame.halves"], apart := false, laid := [("flint/frame.halves", laid_flint_frame_halves)], narrowed := true }
def FrameBackUptoSaid : Prop := frameBackUptoRow.holds Tryd.pinned (OpenSpec.upto frameBackSpec)

/-- 'flintlaw1.FrameBits', WHERE WHAT IT READS IS OF BULK AT MOST 1048576: true; the input reads as it did. -/
def frameBitsUptoRow : OpenClaim := { program := "ytnphlaolinalkaadoor", sum := "acfcd5a5ae8267163b3ae0a6afa3ace160f2a6b384ae0b7c7c8b5c06bc0d3cc4", func := "flint/flintlaw1.FrameBits", spec := "frameBits", named := ["flint/frame.halves"], apart := false, laid := [("flint/frame.halves", laid_flint_frame_halves)], narrowed := true }
def FrameBitsUptoSaid : Prop := frameBitsUptoRow.holds Tryd.pinned (OpenSpec.upto frameBitsSpec)

/-- 'flintlaw1.FrameGrows', WHERE WHAT IT READS IS OF BULK AT MOST 1048576: true; the input reads as it did. -/
def frameGrowsUptoRow : OpenClaim := { program := "ytnphlaolinalkaadoor", sum := "acfcd5a5ae8267163b3ae0a6afa3ace160f2a6b384ae0b7c7c8b5c06bc0d3cc4", func := "flint/flintlaw1.FrameGrows", spec := "frameGrows", named := ["flint/frame.halves"], apart := false, laid := [("flint/frame.halves", laid_flint_frame_halves)], narrowed := true }
def FrameGrowsUptoSaid : Prop := frameGrowsUptoRow.holds Tryd.pinned (OpenSpec.upto frameGrowsSpec)

/-- 'flintlaw1.FramePages', WHERE WHAT IT READS IS OF BULK AT MOST 1048576: true; the input reads as it did. -/
def framePagesUptoRow : OpenClaim := { program := "ytnphlaolinalkaadoor", sum := "acfcd5a5ae8267163b3ae0a6afa3ace160f2a6b384ae0b7c7c8b5c06bc0d3cc4", func := "flint/flintlaw1.FramePages", spec := "framePages", named := ["flint/frame.halves"], apart := false, laid := [("flint/frame.halves", laid_flint_frame_halves)], narrowed := true }
def FramePagesUptoSaid : Prop := framePagesUptoRow.holds Tryd.pinned (OpenSpec.upto framePagesSpec)

end Rows
end Go.Proofs.YtnphlaolinalkaaDoor
