/-
  Arguments opened: a shape of segments.
-/
import Derived.Test.YtlficcdbnmheeaaDoorSgOpenA
import Derived.Test.YtlficcdbnmheeaaDoorSg1
namespace Go.Proofs.YtlficcdbnmheeaaDoor
set_option maxRecDepth 20000
open Go.ChangeShapes Go.WideShapes Go.ChangeAt Go.RowKit Go.Joins

section
variable {H : Type} {enc : TypeId × Value → H} {w : World} {base : Nat} {v : Value} {d : DataW H} {p : List MemPlace}
theorem cellsShape : Tryd.prog.cellsOf 23 = 3 := by kernel_rfl
theorem open_shape (hok : Value.okWide Tryd.prog w .any base 23 v) (h : DataW.Trod enc Tryd.prog w 0 (fun _ => true) true 23 v d p) :
    ∃ K P G : Int, v = shV K P G ∧ -9223372036854775808 ≤ P ∧ P ≤ 9223372036854775807 := by
  obtain ⟨v0, v1, v2, y0, y1, y2, n, rfl, _, _, h0, h1, h2⟩ := open_agg3 Tryd.underlying23 (by kernel_rfl) cellsShape hok h
  obtain ⟨a, e0, _, _⟩ := DataW.trod_int Tryd.underlying3 h0
  obtain ⟨b, e1, _, wb⟩ := DataW.trod_int Tryd.underlying3 h1
  obtain ⟨c, e2, _, _⟩ := DataW.trod_int Tryd.underlying3 h2
  simp at e0 e1 e2
  subst e0 e1 e2
  have ba := bounds_i64 wb
  exact ⟨a, b, c, rfl, by omega, by omega⟩
end
end Go.Proofs.YtlficcdbnmheeaaDoor
