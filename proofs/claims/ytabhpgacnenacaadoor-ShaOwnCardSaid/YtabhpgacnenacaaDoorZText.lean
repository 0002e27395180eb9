/-
  A slice of bytes as a text.
-/
import Derived.Test.YtabhpgacnenacaaDoorBase
namespace Go.Proofs.YtabhpgacnenacaaDoor
open Go.RowKit

theorem push_all (l : List UInt8) : ∀ s : ByteArray, (l.map fun x => (x.toNat : Int)).foldl (fun r n => r.push (UInt8.ofNat n.toNat)) s = ⟨s.data ++ l.toArray⟩ := by
  induction l with
  | nil => intro s; simp
  | cons x l ih =>
    intro s
    simp only [List.map_cons, List.foldl_cons, ih, Int.toNat_natCast, UInt8.ofNat_toNat]
    simp [ByteArray.push]
/-- string(b) -/
theorem text_run (w : World) (B : Nat) (A : Option Addr) (l : List UInt8) (c : Nat) (hr : RB w B A l) :
    (convert 24 9 (.slice A l.length c)).run Tryd.prog w = .ok (.string ⟨l.toArray⟩) w := by
  rw [run_convert_bytes_string w _ _ _ _ _ _ Tryd.underlying24 Tryd.underlying5 Tryd.underlying9]
  rcases A with _ | ad
  · have h0 : l = [] := by
      rcases l with _ | ⟨x, l⟩
      · rfl
      · obtain ⟨ad, e, _⟩ := hr 0 x rfl
        cases e
    subst h0
    simp [Conv.bytesToString, Sem.run_pure]
    rfl
  · have hl := run_loadCells_list (P := Tryd.prog) (w := w) ad (bvs l) (fun j v hv => by
      simp only [bvs, List.getElem?_map, Option.map_eq_some_iff] at hv
      obtain ⟨y, hy, rfl⟩ := hv
      obtain ⟨ad', e, _, hc⟩ := hr j y hy
      cases e
      exact hc)
    rw [bvs_length] at hl
    have := run_bytesToString (P := Tryd.prog) w ad l.length c (l.map fun x => (x.toNat : Int)) (by rw [hl]; simp [bvs, bv, Function.comp_def])
    rw [this, push_all]
    simp

end Go.Proofs.YtabhpgacnenacaaDoor
