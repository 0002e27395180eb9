/-
  No cell of these rows narrows 'for every input' (looked for: loops, veiled, ifaces, maps, wideKeys, modest, calm, conditions, laid).
  DERIVED. THE GIVEN ROWS OF THIS SEAT. 3 by the template 'for every input the law returns true; each argument reads behind the call as it read before'; 0 by the template 'total and deterministic' (their statements: YtdnlikhfemhmeaaTotals.lean).
  GIVEN WITH THE SEED: the statements are not yours to turn. If you find one false, say at which input.
  Laid BY PROGRAM, IN A SANDBOX (cutbox-rows.mjs): the forced cells as the released guide's own fill.sh prints them over the translation 814954c69b971783… (all of the seat's roots in one cut). By AI agents, Wed Nov 11 2026. No macro, syntax, notation, axiom, sorry.
-/
import Derived.Test.YtdnlikhfemhmeaaChecked
import GoSem.Claim
import GoSem.ClaimJoined
import GoSem.ClaimMapViews
import Derived.JoinedTies
import Derived.KernelRfl
namespace Go.Proofs.Ytdnlikhfemhmeaa
/- THE CELL 'sum', in the pinned program and in every row, IS THE sha256 OF THE DUMP (.gsa) THAT YtdnlikhfemhmeaaProg.lean LOADS. Nothing in Lean hashes anything: it is a label: what it is worth is what the hold of that sum in a sandbox is worth. -/
noncomputable def Try.pinned : Pinned := { name := "ytdnlikhfemhmeaa", sum := "814954c69b97178329049565f0de0e6567e012ed2790eabc241225a801a5ea54", checked := Try.checked }
namespace Rows
def none {H : Type} : Left H := { results := [], args := [] }

/-- 'flintlaw3.ZonePlays': WHATEVER THE INPUT: true; the input reads as it did. -/
def zonePlaysSpec : ChangeSpec := { name := "zonePlays", fn := fun _ => fun
  | [d1, d2, d3, d4, d5] => { results := [.lit (.bool true)], args := [d1, d2, d3, d4, d5] }
  | _ => none }
def zonePlaysRow : OpenClaim := { program := "ytdnlikhfemhmeaa", sum := "814954c69b97178329049565f0de0e6567e012ed2790eabc241225a801a5ea54", func := "flint/flintlaw3.ZonePlays", spec := "zonePlays", unfollowed := true, recurses := true, apart := false }
def ZonePlaysSaid : Prop := zonePlaysRow.holds Try.pinned (OpenSpec.ofChange zonePlaysSpec)

/-- ITS FALSE NEIGHBOUR: 'it returns false'. Refute it at one input. -/
def zonePlaysWrong : ChangeSpec := { name := "zonePlays", fn := fun _ => fun
  | [d1, d2, d3, d4, d5] => { results := [.lit (.bool false)], args := [d1, d2, d3, d4, d5] }
  | _ => none }
def ZonePlaysWrongFalsely : Prop := zonePlaysRow.holds Try.pinned (OpenSpec.ofChange zonePlaysWrong)

/-- 'flintlaw3.ZoneFronts': WHATEVER THE INPUT: true; the input reads as it did. -/
def zoneFrontsSpec : ChangeSpec := { name := "zoneFronts", fn := fun _ => fun
  | [d1, d2, d3] => { results := [.lit (.bool true)], args := [d1, d2, d3] }
  | _ => none }
def zoneFrontsRow : OpenClaim := { program := "ytdnlikhfemhmeaa", sum := "814954c69b97178329049565f0de0e6567e012ed2790eabc241225a801a5ea54", func := "flint/flintlaw3.ZoneFronts", spec := "zoneFronts", unfollowed := true, recurses := true, apart := false }
def ZoneFrontsSaid : Prop := zoneFrontsRow.holds Try.pinned (OpenSpec.ofChange zoneFrontsSpec)

/-- ITS FALSE NEIGHBOUR: 'it returns false'. Refute it at one input. -/
def zoneFrontsWrong : ChangeSpec := { name := "zoneFronts", fn := fun _ => fun
  | [d1, d2, d3] => { results := [.lit (.bool false)], args := [d1, d2, d3] }
  | _ => none }
def ZoneFrontsWrongFalsely : Prop := zoneFrontsRow.holds Try.pinned (OpenSpec.ofChange zoneFrontsWrong)

/-- 'flintlaw3.ZonePower': WHATEVER THE INPUT: true; the input reads as it did. -/
def zonePowerSpec : ChangeSpec := { name := "zonePower", fn := fun _ => fun
  | [d1, d2] => { results := [.lit (.bool true)], args := [d1, d2] }
  | _ => none }
def zonePowerRow : OpenClaim := { program := "ytdnlikhfemhmeaa", sum := "814954c69b97178329049565f0de0e6567e012ed2790eabc241225a801a5ea54", func := "flint/flintlaw3.ZonePower", spec := "zonePower", unfollowed := true, recurses := true, apart := false }
def ZonePowerSaid : Prop := zonePowerRow.holds Try.pinned (OpenSpec.ofChange zonePowerSpec)

/-- ITS FALSE NEIGHBOUR: 'it returns false'. Refute it at one input. -/
def zonePowerWrong : ChangeSpec := { name := "zonePower", fn := fun _ => fun
  | [d1, d2] => { results := [.lit (.bool false)], args := [d1, d2] }
  | _ => none }
def ZonePowerWrongFalsely : Prop := zonePowerRow.holds Try.pinned (OpenSpec.ofChange zonePowerWrong)

/- THE SECOND FORM. 'bulk': how many values and letters a reading holds, each counted each time it is reached (what is shared counts as often as it is met; a slice's spare places count too). A statement '..UptoSaid' is the law's where the arguments, and the package variables that the reading takes, are together of bulk at most 1048576: NARROWER than '..Said'. Prove '..Said' where nothing that the law and all that it calls make is longer than what came in: it says more and counts as full. Else prove '..UptoSaid'. A law counts once. -/
mutual
def uptoBulk {H : Type} : DataW H → Nat
  | .lit (.string bytes) => bytes.length + 1
  | .lit _ => 1
  | .nil => 1
  | .ptr d => uptoBulk d + 1
  | .slice elems spare => uptoBulkAll elems + uptoBulkAll spare + 1
  | .agg parts => uptoBulkAll parts + 1
  | .iface _ d => uptoBulk d + 1
  | .map entries => uptoBulkEntries entries + 1
  | .held _ => 1
def uptoBulkAll {H : Type} : List (DataW H) → Nat
  | [] => 0
  | d :: r => uptoBulk d + uptoBulkAll r
def uptoBulkEntries {H : Type} : List (Lit × DataW H) → Nat
  | [] => 0
  | x :: r => uptoBulkEntry x + uptoBulkEntries r
def uptoBulkEntry {H : Type} : Lit × DataW H → Nat
  | (.string bytes, d) => bytes.length + uptoBulk d + 1
  | (_, d) => uptoBulk d + 1
 end
def uptoSmall : (H : Type) → List (DataW H) → Bool := fun _ ds => decide (uptoBulkAll ds ≤ 1048576)
def OpenSpec.upto (s : _root_.Go.ChangeSpec) : _root_.Go.OpenSpec := { _root_.Go.OpenSpec.ofChange s with cond := some uptoSmall }

/-- 'flintlaw3.ZonePlays', WHERE WHAT IT READS IS OF BULK AT MOST 1048576: true; the input reads as it did. -/
def zonePlaysUptoRow : OpenClaim := { program := "ytdnlikhfemhmeaa", sum := "814954c69b97178329049565f0de0e6567e012ed2790eabc241225a801a5ea54", func := "flint/flintlaw3.ZonePlays", spec := "zonePlays", unfollowed := true, recurses := true, apart := false, narrowed := true }
def ZonePlaysUptoSaid : Prop := zonePlaysUptoRow.holds Try.pinned (OpenSpec.upto zonePlaysSpec)

/-- 'flintlaw3.ZoneFronts', WHERE WHAT IT READS IS OF BULK AT MOST 1048576: true; the input reads as it did. -/
def zoneFrontsUptoRow : OpenClaim := { program := "ytdnlikhfemhmeaa", sum := "814954c69b97178329049565f0de0e6567e012ed2790eabc241225a801a5ea54", func := "flint/flintlaw3.ZoneFronts", spec := "zoneFronts", unfollowed := true, recurses := true, apart := false, narrowed := true }
def ZoneFrontsUptoSaid : Prop := zoneFrontsUptoRow.holds Try.pinned (OpenSpec.upto zoneFrontsSpec)

/-- 'flintlaw3.ZonePower', WHERE WHAT IT READS IS OF BULK AT MOST 1048576: true; the input reads as it did. -/
def zonePowerUptoRow : OpenClaim := { program := "ytdnlikhfemhmeaa", sum := "814954c69b97178329049565f0de0e6567e012ed2790eabc241225a801a5ea54", func := "flint/flintlaw3.ZonePower", spec := "zonePower", unfollowed := true, recurses := true, apart := false, narrowed := true }
def ZonePowerUptoSaid : Prop := zonePowerUptoRow.holds Try.pinned (OpenSpec.upto zonePowerSpec)

end Rows
end Go.Proofs.Ytdnlikhfemhmeaa
