/-
  Arguments opened: one elision, with its bulk.
-/
import Derived.Test.YtghcfmkmndldoaaElOpen
namespace Go.Proofs.Ytghcfmkmndldoaa
set_option maxRecDepth 20000
open Go.ChangeShapes Go.WideShapes Go.ChangeAt Go.ChangeMaps Go.RowKit Go.Joins Go.Deep

section
variable {H : Type} {enc : TypeId × Value → H} {w : World} {base : Nat} {v : Value} {d : DataW H} {p : List MemPlace}
theorem open_elisionv (hok : Value.okWide Try.prog w .any base 32 v) (h : DataW.Trod enc Try.prog w 0 (fun _ => true) true 32 v d p) :
    ∃ e : Ec, v = eV e ∧ e.1.size ≤ Rows.uptoBulk d ∧ e.2.1.size ≤ Rows.uptoBulk d := by
  obtain ⟨v0, v1, v2, y0, y1, y2, n, rfl, rfl, _, h0, h1, h2⟩ := open_agg3 Try.underlying32 (by kernel_rfl) cells_elision hok h
  obtain ⟨k, e0, e0y, _⟩ := DataW.trod_string Try.underlying9 h0
  obtain ⟨k2, e1, e1y, _⟩ := DataW.trod_string Try.underlying9 h1
  obtain ⟨z, e2, _, wz⟩ := DataW.trod_int Try.underlying24 h2
  cases e0
  cases e1
  cases e2
  have bz := bounds_u64 wz
  obtain ⟨s, rfl⟩ := Int.eq_ofNat_of_zero_le bz.1
  have hb0 := bulk_at [y0.1, y1.1, y2.1] 0 y0.1 rfl
  have hb1 := bulk_at [y0.1, y1.1, y2.1] 1 y1.1 rfl
  refine ⟨(k, k2, s), rfl, ?_, ?_⟩
  · rw [Rows.uptoBulk]
    rw [e0y] at hb0
    have hk : k.data.toList.length = k.size := by rw [Array.length_toList]; rfl
    dsimp only at hb0
    rw [Rows.uptoBulk] at hb0
    show k.size ≤ _
    rw [e0y]
    dsimp only
    omega
  · rw [Rows.uptoBulk]
    rw [e1y] at hb1
    have hk : k2.data.toList.length = k2.size := by rw [Array.length_toList]; rfl
    dsimp only at hb1
    rw [Rows.uptoBulk] at hb1
    show k2.size ≤ _
    rw [e1y]
    dsimp only
    omega
end
end Go.Proofs.Ytghcfmkmndldoaa
