/-
  A byte string read: the program's reader and the second saying's.
-/
import Derived.Test.YtghcfmkmndldoaaRn
import Derived.Test.YtghcfmkmndldoaaRefRn
import Derived.Test.YtghcfmkmndldoaaClone
import Derived.Test.YtghcfmkmndldoaaRead3
namespace Go.Proofs.Ytghcfmkmndldoaa
open Go.RowKit

/-- bytes read: what stands there, how much was taken, error -/
def readBy (l : List UInt8) (most : Int) : List UInt8 × Nat × Nat :=
  if (readNum l).2.2 ≠ 0 then ([], 0, (readNum l).2.2)
  else if max most 0 < ((readNum l).1 : Int) then ([], 0, 3)
  else if l.length < (readNum l).2.1 + (readNum l).1 then ([], 0, 21)
  else ((l.drop (readNum l).2.1).take (readNum l).1, (readNum l).2.1 + (readNum l).1, 0)

/-- v is a slice that reads as l -/
def SB (w : World) (v : Value) (l : List UInt8) : Prop := ∃ A c, v = .slice A l.length c ∧ RB w w.heap.size A l

end Go.Proofs.Ytghcfmkmndldoaa

