/-
  No cell of these rows narrows 'for every input' (looked for: loops, veiled, ifaces, maps, wideKeys, modest, calm, conditions, laid).
  DERIVED. THE GIVEN ROWS OF THIS SEAT. 4 by the template 'for every input the law returns true; each argument reads behind the call as it read before'; 0 by the template 'total and deterministic' (their statements: YtejimgjonhaocaaTotals.lean).
  GIVEN WITH THE SEED: the statements are not yours to turn. If you find one false, say at which input.
  Laid BY PROGRAM, IN A SANDBOX (cutbox-rows.mjs): the forced cells as the released guide's own fill.sh prints them over the translation 684c7b6991d95600… (all of the seat's roots in one cut). By AI agents, Wed Nov 11 2026. No macro, syntax, notation, axiom, sorry.
-/
import Derived.Test.YtejimgjonhaocaaChecked
import GoSem.Claim
import GoSem.ClaimJoined
import GoSem.ClaimMapViews
import Derived.JoinedTies
import Derived.KernelRfl
namespace Go.Proofs.Ytejimgjonhaocaa
/- THE CELL 'sum', in the pinned program and in every row, IS THE sha256 OF THE DUMP (.gsa) THAT YtejimgjonhaocaaProg.lean LOADS. Nothing in Lean hashes anything: it is a label: what it is worth is what the hold of that sum in a sandbox is worth. -/
noncomputable def Try.pinned : Pinned := { name := "ytejimgjonhaocaa", sum := "684c7b6991d956009aa9f0f3cba3cc4fc22f6eff852d05a3702fe7ad2b62a046", checked := Try.checked }
namespace Rows
def none {H : Type} : Left H := { results := [], args := [] }

/-- 'flintlaw14.MediumPlays': WHATEVER THE INPUT: true; the input reads as it did. -/
def mediumPlaysSpec : ChangeSpec := { name := "mediumPlays", fn := fun _ => fun
  | [d1, d2, d3, d4] => { results := [.lit (.bool true)], args := [d1, d2, d3, d4] }
  | _ => none }
def mediumPlaysRow : OpenClaim := { program := "ytejimgjonhaocaa", sum := "684c7b6991d956009aa9f0f3cba3cc4fc22f6eff852d05a3702fe7ad2b62a046", func := "flint/flintlaw14.MediumPlays", spec := "mediumPlays", unfollowed := true, recurses := true, apart := false }
def MediumPlaysSaid : Prop := mediumPlaysRow.holds Try.pinned (OpenSpec.ofChange mediumPlaysSpec)

/-- ITS FALSE NEIGHBOUR: 'it returns false'. Refute it at one input. -/
def mediumPlaysWrong : ChangeSpec := { name := "mediumPlays", fn := fun _ => fun
  | [d1, d2, d3, d4] => { results := [.lit (.bool false)], args := [d1, d2, d3, d4] }
  | _ => none }
def MediumPlaysWrongFalsely : Prop := mediumPlaysRow.holds Try.pinned (OpenSpec.ofChange mediumPlaysWrong)

/-- 'flintlaw14.MediumChains': WHATEVER THE INPUT: true; the input reads as it did. -/
def mediumChainsSpec : ChangeSpec := { name := "mediumChains", fn := fun _ => fun
  | [d1, d2, d3] => { results := [.lit (.bool true)], args := [d1, d2, d3] }
  | _ => none }
def mediumChainsRow : OpenClaim := { program := "ytejimgjonhaocaa", sum := "684c7b6991d956009aa9f0f3cba3cc4fc22f6eff852d05a3702fe7ad2b62a046", func := "flint/flintlaw14.MediumChains", spec := "mediumChains", apart := false }
def MediumChainsSaid : Prop := mediumChainsRow.holds Try.pinned (OpenSpec.ofChange mediumChainsSpec)

/-- ITS FALSE NEIGHBOUR: 'it returns false'. Refute it at one input. -/
def mediumChainsWrong : ChangeSpec := { name := "mediumChains", fn := fun _ => fun
  | [d1, d2, d3] => { results := [.lit (.bool false)], args := [d1, d2, d3] }
  | _ => none }
def MediumChainsWrongFalsely : Prop := mediumChainsRow.holds Try.pinned (OpenSpec.ofChange mediumChainsWrong)

/-- 'flintlaw14.MediumApart': WHATEVER THE INPUT: true; the input reads as it did. -/
def mediumApartSpec : ChangeSpec := { name := "mediumApart", fn := fun _ => fun
  | [d1, d2, d3, d4, d5] => { results := [.lit (.bool true)], args := [d1, d2, d3, d4, d5] }
  | _ => none }
def mediumApartRow : OpenClaim := { program := "ytejimgjonhaocaa", sum := "684c7b6991d956009aa9f0f3cba3cc4fc22f6eff852d05a3702fe7ad2b62a046", func := "flint/flintlaw14.MediumApart", spec := "mediumApart", apart := false }
def MediumApartSaid : Prop := mediumApartRow.holds Try.pinned (OpenSpec.ofChange mediumApartSpec)

/-- ITS FALSE NEIGHBOUR: 'it returns false'. Refute it at one input. -/
def mediumApartWrong : ChangeSpec := { name := "mediumApart", fn := fun _ => fun
  | [d1, d2, d3, d4, d5] => { results := [.lit (.bool false)], args := [d1, d2, d3, d4, d5] }
  | _ => none }
def MediumApartWrongFalsely : Prop := mediumApartRow.holds Try.pinned (OpenSpec.ofChange mediumApartWrong)

/-- 'flintlaw14.MediumDead': WHATEVER THE INPUT: true; the input reads as it did. -/
def mediumDeadSpec : ChangeSpec := { name := "mediumDead", fn := fun _ => fun
  | [d1, d2, d3] => { results := [.lit (.bool true)], args := [d1, d2, d3] }
  | _ => none }
def mediumDeadRow : OpenClaim := { program := "ytejimgjonhaocaa", sum := "684c7b6991d956009aa9f0f3cba3cc4fc22f6eff852d05a3702fe7ad2b62a046", func := "flint/flintlaw14.MediumDead", spec := "mediumDead", unfollowed := true, recurses := true, apart := false }
def MediumDeadSaid : Prop := mediumDeadRow.holds Try.pinned (OpenSpec.ofChange mediumDeadSpec)

/-- ITS FALSE NEIGHBOUR: 'it returns false'. Refute it at one input. -/
def mediumDeadWrong : ChangeSpec := { name := "mediumDead", fn := fun _ => fun
  | [d1, d2, d3] => { results := [.lit (.bool false)], args := [d1, d2, d3] }
  | _ => none }
def MediumDeadWrongFalsely : Prop := mediumDeadRow.holds Try.pinned (OpenSpec.ofChange mediumDeadWrong)

/- THE SECOND FORM. 'bulk': how many values and letters a reading holds, each counted each time it is reached (what is shared counts as often as it is met; a slice's spare places count too). A statement '..UptoSaid' is the law's where the arguments, and the package variables that the reading takes, are together of bulk at most 1048576: NARROWER than '..Said'. Prove '..Said' where nothing that the law and all that it calls make is longer than what came in: it says more and counts as full. Else prove '..UptoSaid'. A law counts once. -/
mutual
def uptoBulk {H : Type} : DataW H → Nat
  | .lit (.string bytes) => bytes.length + 1
  | .lit _ => 1
  | .nil => 1
  | .ptr d => uptoBulk d + 1
  | .slice elems spare => uptoBulkAll elems + uptoBulkAll spare + 1
  | .agg parts => uptoBulkAll parts + 1
  | .iface _ d => uptoBulk d + 1
  | .map entries => uptoBulkEntries entries + 1
  | .held _ => 1
def uptoBulkAll {H : Type} : List (DataW H) → Nat
  | [] => 0
  | d :: r => uptoBulk d + uptoBulkAll r
def uptoBulkEntries {H : Type} : List (Lit × DataW H) → Nat
  | [] => 0
  | x :: r => uptoBulkEntry x + uptoBulkEntries r
def uptoBulkEntry {H : Type} : Lit × DataW H → Nat
  | (.string bytes, d) => bytes.length + uptoBulk d + 1
  | (_, d) => uptoBulk d + 1
 end
def uptoSmall : (H : Type) → List (DataW H) → Bool := fun _ ds => decide (uptoBulkAll ds ≤ 1048576)
def OpenSpec.upto (s : _root_.Go.ChangeSpec) : _root_.Go.OpenSpec := { _root_.Go.OpenSpec.ofChange s with cond := some uptoSmall }

/-- 'flintlaw14.MediumPlays', WHERE WHAT IT READS IS OF BULK AT MOST 1048576: true; the input reads as it did. -/
def mediumPlaysUptoRow : OpenClaim := { program := "ytejimgjonhaocaa", sum := "684c7b6991d956009aa9f0f3cba3cc4fc22f6eff852d05a3702fe7ad2b62a046", func := "flint/flintlaw14.MediumPlays", spec := "mediumPlays", unfollowed := true, recurses := true, apart := false, narrowed := true }
def MediumPlaysUptoSaid : Prop := mediumPlaysUptoRow.holds Try.pinned (OpenSpec.upto mediumPlaysSpec)

/-- 'flintlaw14.MediumChains', WHERE WHAT IT READS IS OF BULK AT MOST 1048576: true; the input reads as it did. -/
def mediumChainsUptoRow : OpenClaim := { program := "ytejimgjonhaocaa", sum := "684c7b6991d956009aa9f0f3cba3cc4fc22f6eff852d05a3702fe7ad2b62a046", func := "flint/flintlaw14.MediumChains", spec := "mediumChains", apart := false, narrowed := true }
def MediumChainsUptoSaid : Prop := mediumChainsUptoRow.holds Try.pinned (OpenSpec.upto mediumChainsSpec)

/-- 'flintlaw14.MediumApart', WHERE WHAT IT READS IS OF BULK AT MOST 1048576: true; the input reads as it did. -/
def mediumApartUptoRow : OpenClaim := { program := "ytejimgjonhaocaa", sum := "684c7b6991d956009aa9f0f3cba3cc4fc22f6eff852d05a3702fe7ad2b62a046", func := "flint/flintlaw14.MediumApart", spec := "mediumApart", apart := false, narrowed := true }
def MediumApartUptoSaid : Prop := mediumApartUptoRow.holds Try.pinned (OpenSpec.upto mediumApartSpec)

/-- 'flintlaw14.MediumDead', WHERE WHAT IT READS IS OF BULK AT MOST 1048576: true; the input reads as it did. -/
def mediumDeadUptoRow : OpenClaim := { program := "ytejimgjonhaocaa", sum := "684c7b6991d956009aa9f0f3cba3cc4fc22f6eff852d05a3702fe7ad2b62a046", func := "flint/flintlaw14.MediumDead", spec := "mediumDead", unfollowed := true, recurses := true, apart := false, narrowed := true }
def MediumDeadUptoSaid : Prop := mediumDeadUptoRow.holds Try.pinned (OpenSpec.upto mediumDeadSpec)

end Rows
end Go.Proofs.Ytejimgjonhaocaa
