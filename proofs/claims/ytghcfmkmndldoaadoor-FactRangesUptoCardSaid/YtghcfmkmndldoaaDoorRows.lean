/-
  NARROWER THAN 'FOR EVERY INPUT', by the rows' own cells (each row's printed sentence says how): ReadPages: laid · FactMerges: laid · FactBuilds: laid · FactOpens: laid · FactBack: laid · FactBits: laid · FactOwn: laid · FactSteps: laid · FactRanges: laid.
  DERIVED. THE GIVEN ROWS OF THIS SEAT. 9 by the template 'for every input the law returns true; each argument reads behind the call as it read before'; 0 by the template 'total and deterministic' (their statements: YtghcfmkmndldoaaDoorTotals.lean).
  GIVEN WITH THE SEED: the statements are not yours to turn. If you find one false, say at which input.
  Laid BY PROGRAM, IN A SANDBOX (cutbox-rows.mjs): the forced cells as the released guide's own fill.sh prints them over the translation 6aeb26ac185fb0f5… (all of the seat's roots in one cut). By AI agents, Wed Nov 11 2026. No macro, syntax, notation, axiom, sorry.
-/
import Derived.Test.YtghcfmkmndldoaaDoorChecked
import GoSem.Claim
import GoSem.ClaimJoined
import GoSem.ClaimMapViews
import Derived.JoinedTies
import Derived.KernelRfl
namespace Go.Proofs.YtghcfmkmndldoaaDoor
/- THE CELL 'sum', in the pinned program and in every row, IS THE sha256 OF THE DUMP (.gsa) THAT YtghcfmkmndldoaaDoorProg.lean LOADS. Nothing in Lean hashes anything: it is a label: what it is worth is what the hold of that sum in a sandbox is worth. -/
noncomputable def Tryd.pinned : Pinned := { name := "ytghcfmkmndldoaadoor", sum := "6aeb26ac185fb0f5c9a911581ef97810f4d18f0926663621380e3e49d22aead0", checked := Tryd.checked }
namespace Rows
def none {H : Type} : Left H := { results := [], args := [] }

/- WHAT THE LISTED PACKAGE-LEVEL VARIABLES READ AS WHEN THE CALL BEGINS. Each datum BY PROGRAM (the guide's laid-datum.mjs) off the statement by which the dump's own 'gosem.cut.vars' lays the variable. In a bare row this is a premise. The card (YtghcfmkmndldoaaDoorCards.lean) ties it to the program's text. -/
def laid_flint_frame_halves {H : Type} : DataW H := .agg [.lit (.int .u32 0), .lit (.int .u32 274646895), .lit (.int .u32 549293790), .lit (.int .u32 820201905), .lit (.int .u32 1098587580), .lit (.int .u32 1361435347), .lit (.int .u32 1640403810), .lit (.int .u32 1905808397), .lit (.int .u32 2197175160), .lit (.int .u32 2460548119), .lit (.int .u32 2722870694), .lit (.int .u32 2987750089), .lit (.int .u32 3280807620), .lit (.int .u32 3553878443), .lit (.int .u32 3811616794), .lit (.int .u32 4084100981)]

/-- 'flintlaw10.ReadPages': WHATEVER THE INPUT: true; the input reads as it did. -/
def readPagesSpec : ChangeSpec := { name := "readPages", fn := fun _ => fun
  | [d1, d2, d3, d4, d5] => { results := [.lit (.bool true)], args := [d1, d2, d3, d4, d5] }
  | _ => none }
def readPagesRow : OpenClaim := { program := "ytghcfmkmndldoaadoor", sum := "6aeb26ac185fb0f5c9a911581ef97810f4d18f0926663621380e3e49d22aead0", func := "flint/flintlaw10.ReadPages", spec := "readPages", unfollowed := true, recurses := true, named := ["flint/frame.halves"], apart := false, laid := [("flint/frame.halves", laid_flint_frame_halves)] }
def ReadPagesSaid : Prop := readPagesRow.holds Tryd.pinned (OpenSpec.ofChange readPagesSpec)

/-- ITS FALSE NEIGHBOUR: 'it returns false'. Refute it at one input. -/
def readPagesWrong : ChangeSpec := { name := "readPages", fn := fun _ => fun
  | [d1, d2, d3, d4, d5] => { results := [.lit (.bool false)], args := [d1, d2, d3, d4, d5] }
  | _ => none }
def ReadPagesWrongFalsely : Prop := readPagesRow.holds Tryd.pinned (OpenSpec.ofChange readPagesWrong)

/-- 'flintlaw11.FactMerges': WHATEVER THE INPUT: true; the input reads as it did. -/
def factMergesSpec : ChangeSpec := { name := "factMerges", fn := fun _ => fun
  | [d1, d2, d3] => { results := [.lit (.bool true)], args := [d1, d2, d3] }
  | _ => none }
def factMergesRow : OpenClaim := { program := "ytghcfmkmndldoaadoor", sum := "6aeb26ac185fb0f5c9a911581ef97810f4d18f0926663621380e3e49d22aead0", func := "flint/flintlaw11.FactMerges", spec := "factMerges", unfollowed := true, recurses := true, named := ["flint/frame.halves"], apart := false, laid := [("flint/frame.halves", laid_flint_frame_halves)] }
def FactMergesSaid : Prop := factMergesRow.holds Tryd.pinned (OpenSpec.ofChange factMergesSpec)

/-- ITS FALSE NEIGHBOUR: 'it returns false'. Refute it at one input. -/
def factMergesWrong : ChangeSpec := { name := "factMerges", fn := fun _ => fun
  | [d1, d2, d3] => { results := [.lit (.bool false)], args := [d1, d2, d3] }
  | _ => none }
def FactMergesWrongFalsely : Prop := factMergesRow.holds Tryd.pinned (OpenSpec.ofChange factMergesWrong)

/-- 'flintlaw11.FactBuilds': WHATEVER THE INPUT: true; the input reads as it did. -/
def factBuildsSpec : ChangeSpec := { name := "factBuilds", fn := fun _ => fun
  | [d1, d2] => { results := [.lit (.bool true)], args := [d1, d2] }
  | _ => none }
def factBuildsRow : OpenClaim := { program := "ytghcfmkmndldoaadoor", sum := "6aeb26ac185fb0f5c9a911581ef97810f4d18f0926663621380e3e49d22aead0", func := "flint/flintlaw11.FactBuilds", spec := "factBuilds", unfollowed := true, recurses := true, named := ["flint/frame.halves"], apart := false, laid := [("flint/frame.halves", laid_flint_frame_halves)] }
def FactBuildsSaid : Prop := factBuildsRow.holds Tryd.pinned (OpenSpec.ofChange factBuildsSpec)

/-- ITS FALSE NEIGHBOUR: 'it returns false'. Refute it at one input. -/
def factBuildsWrong : ChangeSpec := { name := "factBuilds", fn := fun _ => fun
  | [d1, d2] => { results := [.lit (.bool false)], args := [d1, d2] }
  | _ => none }
def FactBuildsWrongFalsely : Prop := factBuildsRow.holds Tryd.pinned (OpenSpec.ofChange factBuildsWrong)

/-- 'flintlaw11.FactOpens': WHATEVER THE INPUT: true; the input reads as it did. -/
def factOpensSpec : ChangeSpec := { name := "factOpens", fn := fun _ => fun
  | [d1, d2, d3] => { results := [.lit (.bool true)], args := [d1, d2, d3] }
  | _ => none }
def factOpensRow : OpenClaim := { program := "ytghcfmkmndldoaadoor", sum := "6aeb26ac185fb0f5c9a911581ef97810f4d18f0926663621380e3e49d22aead0", func := "flint/flintlaw11.FactOpens", spec := "factOpens", unfollowed := true, recurses := true, named := ["flint/frame.halves"], apart := false, laid := [("flint/frame.halves", laid_flint_frame_halves)] }
def FactOpensSaid : Prop := factOpensRow.holds Tryd.pinned (OpenSpec.ofChange factOpensSpec)

/-- ITS FALSE NEIGHBOUR: 'it returns false'. Refute it at one input. -/
def factOpensWrong : ChangeSpec := { name := "factOpens", fn := fun _ => fun
  | [d1, d2, d3] => { results := [.lit (.bool false)], args := [d1, d2, d3] }
  | _ => none }
def FactOpensWrongFalsely : Prop := factOpensRow.holds Tryd.pinned (OpenSpec.ofChange factOpensWrong)

/-- 'flintlaw11.FactBack': WHATEVER THE INPUT: true; the input reads as it did. -/
def factBackSpec : ChangeSpec := { name := "factBack", fn := fun _ => fun
  | [d1, d2, d3, d4] => { results := [.lit (.bool true)], args := [d1, d2, d3, d4] }
  | _ => none }
def factBackRow : OpenClaim := { program := "ytghcfmkmndldoaadoor", sum := "6aeb26ac185fb0f5c9a911581ef97810f4d18f0926663621380e3e49d22aead0", func := "flint/flintlaw11.FactBack", spec := "factBack", unfollowed := true, recurses := true, named := ["flint/frame.halves"], apart := false, laid := [("flint/frame.halves", laid_flint_frame_halves)] }
def FactBackSaid : Prop := factBackRow.holds Tryd.pinned (OpenSpec.ofChange factBackSpec)

/-- ITS FALSE NEIGHBOUR: 'it returns false'. Refute it at one input. -/
def factBackWrong : ChangeSpec := { name := "factBack", fn := fun _ => fun
  | [d1, d2, d3, d4] => { results := [.lit (.bool false)], args := [d1, d2, d3, d4] }
  | _ => none }
def FactBackWrongFalsely : Prop := factBackRow.holds Tryd.pinned (OpenSpec.ofChange factBackWrong)

/-- 'flintlaw11.FactBits': WHATEVER THE INPUT: true; the input reads as it did. -/
def factBitsSpec : ChangeSpec := { name := "factBits", fn := fun _ => fun
  | [d1, d2, d3, d4] => { results := [.lit (.bool true)], args := [d1, d2, d3, d4] }
  | _ => none }
def factBitsRow : OpenClaim := { program := "ytghcfmkmndldoaadoor", sum := "6aeb26ac185fb0f5c9a911581ef97810f4d18f0926663621380e3e49d22aead0", func := "flint/flintlaw11.FactBits", spec := "factBits", unfollowed := true, recurses := true, named := ["flint/frame.halves"], apart := false, laid := [("flint/frame.halves", laid_flint_frame_halves)] }
def FactBitsSaid : Prop := factBitsRow.holds Tryd.pinned (OpenSpec.ofChange factBitsSpec)

/-- ITS FALSE NEIGHBOUR: 'it returns false'. Refute it at one input. -/
def factBitsWrong : ChangeSpec := { name := "factBits", fn := fun _ => fun
  | [d1, d2, d3, d4] => { results := [.lit (.bool false)], args := [d1, d2, d3, d4] }
  | _ => none }
def FactBitsWrongFalsely : Prop := factBitsRow.holds Tryd.pinned (OpenSpec.ofChange factBitsWrong)

/-- 'flintlaw11.FactOwn': WHATEVER THE INPUT: true; the input reads as it did. -/
def factOwnSpec : ChangeSpec := { name := "factOwn", fn := fun _ => fun
  | [d1, d2] => { results := [.lit (.bool true)], args := [d1, d2] }
  | _ => none }
def factOwnRow : OpenClaim := { program := "ytghcfmkmndldoaadoor", sum := "6aeb26ac185fb0f5c9a911581ef97810f4d18f0926663621380e3e49d22aead0", func := "flint/flintlaw11.FactOwn", spec := "factOwn", unfollowed := true, recurses := true, named := ["flint/frame.halves"], apart := false, laid := [("flint/frame.halves", laid_flint_frame_halves)] }
def FactOwnSaid : Prop := factOwnRow.holds Tryd.pinned (OpenSpec.ofChange factOwnSpec)

/-- ITS FALSE NEIGHBOUR: 'it returns false'. Refute it at one input. -/
def factOwnWrong : ChangeSpec := { name := "factOwn", fn := fun _ => fun
  | [d1, d2] => { results := [.lit (.bool false)], args := [d1, d2] }
  | _ => none }
def FactOwnWrongFalsely : Prop := factOwnRow.holds Tryd.pinned (OpenSpec.ofChange factOwnWrong)

/-- 'flintlaw11.FactSteps': WHATEVER THE INPUT: true; the input reads as it did. -/
def factStepsSpec : ChangeSpec := { name := "factSteps", fn := fun _ => fun
  | [d1, d2, d3] => { results := [.lit (.bool true)], args := [d1, d2, d3] }
  | _ => none }
def factStepsRow : OpenClaim := { program := "ytghcfmkmndldoaadoor", sum := "6aeb26ac185fb0f5c9a911581ef97810f4d18f0926663621380e3e49d22aead0", func := "flint/flintlaw11.FactSteps", spec := "factSteps", unfollowed := true, recurses := true, named := ["flint/frame.halves"], apart := false, laid := [("flint/frame.halves", laid_flint_frame_halves)] }
def FactStepsSaid : Prop := factStepsRow.holds Tryd.pinned (OpenSpec.ofChange factStepsSpec)

/-- ITS FALSE NEIGHBOUR: 'it returns false'. Refute it at one input. -/
def factStepsWrong : ChangeSpec := { name := "factSteps", fn := fun _ => fun
  | [d1, d2, d3] => { results := [.lit (.bool false)], args := [d1, d2, d3] }
  | _ => none }
def FactStepsWrongFalsely : Prop := factStepsRow.holds Tryd.pinned (OpenSpec.ofChange factStepsWrong)

/-- 'flintlaw11.FactRanges': WHATEVER THE INPUT: true; the input reads as it did. -/
def factRangesSpec : ChangeSpec := { name := "factRanges", fn := fun _ => fun
  | [d1, d2, d3] => { results := [.lit (.bool true)], args := [d1, d2, d3] }
  | _ => none }
def factRangesRow : OpenClaim := { program := "ytghcfmkmndldoaadoor", sum := "6aeb26ac185fb0f5c9a911581ef97810f4d18f0926663621380e3e49d22aead0", func := "flint/flintlaw11.FactRanges", spec := "factRanges", unfollowed := true, recurses := true, named := ["flint/frame.halves"], apart := false, laid := [("flint/frame.halves", laid_flint_frame_halves)] }
def FactRangesSaid : Prop := factRangesRow.holds Tryd.pinned (OpenSpec.ofChange factRangesSpec)

/-- ITS FALSE NEIGHBOUR: 'it returns false'. Refute it at one input. -/
def factRangesWrong : ChangeSpec := { name := "factRanges", fn := fun _ => fun
  | [d1, d2, d3] => { results := [.lit (.bool false)], args := [d1, d2, d3] }
  | _ => none }
def FactRangesWrongFalsely : Prop := factRangesRow.holds Tryd.pinned (OpenSpec.ofChange factRangesWrong)

/- THE SECOND FORM. 'bulk': how many values and letters a reading holds, each counted each time it is reached (what is shared counts as often as it is met; a slice's spare places count too). A statement '..UptoSaid' is the law's where the arguments, and the package variables that the reading takes, are together of bulk at most 1048576: NARROWER than '..Said'. Prove '..Said' where nothing that the law and all that it calls make is longer than what came in: it says more and counts as full. Else prove '..UptoSaid'. A law counts once. -/
mutual
def uptoBulk {H : Type} : DataW H → Nat
  | .lit (.string bytes) => bytes.length + 1
  | .lit _ => 1
  | .nil => 1
  | .ptr d => uptoBulk d + 1
  | .slice elems spare => uptoBulkAll elems + uptoBulkAll spare + 1
  | .agg parts => uptoBulkAll parts + 1
  | .iface _ d => uptoBulk d + 1
  | .map entries => uptoBulkEntries entries + 1
  | .held _ => 1
def uptoBulkAll {H : Type} : List (DataW H) → Nat
  | [] => 0
  | d :: r => uptoBulk d + uptoBulkAll r
def uptoBulkEntries {H : Type} : List (Lit × DataW H) → Nat
  | [] => 0
  | x :: r => uptoBulkEntry x + uptoBulkEntries r
def uptoBulkEntry {H : Type} : Lit × DataW H → Nat
  | (.string bytes, d) => bytes.length + uptoBulk d + 1
  | (_, d) => uptoBulk d + 1
 end
def uptoSmall : (H : Type) → List (DataW H) → Bool := fun _ ds => decide (uptoBulkAll ds ≤ 1048576)
def OpenSpec.upto (s : _root_.Go.ChangeSpec) : _root_.Go.OpenSpec := { _root_.Go.OpenSpec.ofChange s with cond := some uptoSmall }

/-- 'flintlaw10.ReadPages', WHERE WHAT IT READS IS OF BULK AT MOST 1048576: true; the input reads as it did. -/
def readPagesUptoRow : OpenClaim := { program := "ytghcfmkmndldoaadoor", sum := "6aeb26ac185fb0f5c9a911581ef97810f4d18f0926663621380e3e49d22aead0", func := "flint/flintlaw10.ReadPages", spec := "readPages", unfollowed := true, recurses := true, named := ["flint/frame.halves"], apart := false, laid := [("flint/frame.halves", laid_flint_frame_halves)], narrowed := true }
def ReadPagesUptoSaid : Prop := readPagesUptoRow.holds Tryd.pinned (OpenSpec.upto readPagesSpec)

/-- 'flintlaw11.FactMerges', WHERE WHAT IT READS IS OF BULK AT MOST 1048576: true; the input reads as it did. -/
def factMergesUptoRow : OpenClaim := { program := "ytghcfmkmndldoaadoor", sum := "6aeb26ac185fb0f5c9a911581ef97810f4d18f0926663621380e3e49d22aead0", func := "flint/flintlaw11.FactMerges", spec := "factMerges", unfollowed := true, recurses := true, named := ["flint/frame.halves"], apart := false, laid := [("flint/frame.halves", laid_flint_frame_halves)], narrowed := true }
def FactMergesUptoSaid : Prop := factMergesUptoRow.holds Tryd.pinned (OpenSpec.upto factMergesSpec)

/-- 'flintlaw11.FactBuilds', WHERE WHAT IT READS IS OF BULK AT MOST 1048576: true; the input reads as it did. -/
def factBuildsUptoRow : OpenClaim := { program := "ytghcfmkmndldoaadoor", sum := "6aeb26ac185fb0f5c9a911581ef97810f4d18f0926663621380e3e49d22aead0", func := "flint/flintlaw11.FactBuilds", spec := "factBuilds", unfollowed := true, recurses := true, named := ["flint/frame.halves"], apart := false, laid := [("flint/frame.halves", laid_flint_frame_halves)], narrowed := true }
def FactBuildsUptoSaid : Prop := factBuildsUptoRow.holds Tryd.pinned (OpenSpec.upto factBuildsSpec)

/-- 'flintlaw11.FactOpens', WHERE WHAT IT READS IS OF BULK AT MOST 1048576: true; the input reads as it did. -/
def factOpensUptoRow : OpenClaim := { program := "ytghcfmkmndldoaadoor", sum := "6aeb26ac185fb0f5c9a911581ef97810f4d18f0926663621380e3e49d22aead0", func := "flint/flintlaw11.FactOpens", spec := "factOpens", unfollowed := true, recurses := true, named := ["flint/frame.halves"], apart := false, laid := [("flint/frame.halves", laid_flint_frame_halves)], narrowed := true }
def FactOpensUptoSaid : Prop := factOpensUptoRow.holds Tryd.pinned (OpenSpec.upto factOpensSpec)

/-- 'flintlaw11.FactBack', WHERE WHAT IT READS IS OF BULK AT MOST 1048576: true; the input reads as it did. -/
def factBackUptoRow : OpenClaim := { program := "ytghcfmkmndldoaadoor", sum := "6aeb26ac185fb0f5c9a911581ef97810f4d18f0926663621380e3e49d22aead0", func := "flint/flintlaw11.FactBack", spec := "factBack", unfollowed := true, recurses := true, named := ["flint/frame.halves"], apart := false, laid := [("flint/frame.halves", laid_flint_frame_halves)], narrowed := true }
def FactBackUptoSaid : Prop := factBackUptoRow.holds Tryd.pinned (OpenSpec.upto factBackSpec)

/-- 'flintlaw11.FactBits', WHERE WHAT IT READS IS OF BULK AT MOST 1048576: true; the input reads as it did. -/
def factBitsUptoRow : OpenClaim := { program := "ytghcfmkmndldoaadoor", sum := "6aeb26ac185fb0f5c9a911581ef97810f4d18f0926663621380e3e49d22aead0", func := "flint/flintlaw11.FactBits", spec := "factBits", unfollowed := true, recurses := true, named := ["flint/frame.halves"], apart := false, laid := [("flint/frame.halves", laid_flint_frame_halves)], narrowed := true }
def FactBitsUptoSaid : Prop := factBitsUptoRow.holds Tryd.pinned (OpenSpec.upto factBitsSpec)

/-- 'flintlaw11.FactOwn', WHERE WHAT IT READS IS OF BULK AT MOST 1048576: true; the input reads as it did. -/
def factOwnUptoRow : OpenClaim := { program := "ytghcfmkmndldoaadoor", sum := "6aeb26ac185fb0f5c9a911581ef97810f4d18f0926663621380e3e49d22aead0", func := "flint/flintlaw11.FactOwn", spec := "factOwn", unfollowed := true, recurses := true, named := ["flint/frame.halves"], apart := false, laid := [("flint/frame.halves", laid_flint_frame_halves)], narrowed := true }
def FactOwnUptoSaid : Prop := factOwnUptoRow.holds Tryd.pinned (OpenSpec.upto factOwnSpec)

/-- 'flintlaw11.FactSteps', WHERE WHAT IT READS IS OF BULK AT MOST 1048576: true; the input reads as it did. -/
def factStepsUptoRow : OpenClaim := { program := "ytghcfmkmndldoaadoor", sum := "6aeb26ac185fb0f5c9a911581ef97810f4d18f0926663621380e3e49d22aead0", func := "flint/flintlaw11.FactSteps", spec := "factSteps", unfollowed := true, recurses := true, named := ["flint/frame.halves"], apart := false, laid := [("flint/frame.halves", laid_flint_frame_halves)], narrowed := true }
def FactStepsUptoSaid : Prop := factStepsUptoRow.holds Tryd.pinned (OpenSpec.upto factStepsSpec)

/-- 'flintlaw11.FactRanges', WHERE WHAT IT READS IS OF BULK AT MOST 1048576: true; the input reads as it did. -/
def factRangesUptoRow : OpenClaim := { program := "ytghcfmkmndldoaadoor", sum := "6aeb26ac185fb0f5c9a911581ef97810f4d18f0926663621380e3e49d22aead0", func := "flint/flintlaw11.FactRanges", spec := "factRanges", unfollowed := true, recurses := true, named := ["flint/frame.halves"], apart := false, laid := [("flint/frame.halves", laid_flint_frame_halves)], narrowed := true }
def FactRangesUptoSaid : Prop := factRangesUptoRow.holds Tryd.pinned (OpenSpec.upto factRangesSpec)

end Rows
end Go.Proofs.YtghcfmkmndldoaaDoor
