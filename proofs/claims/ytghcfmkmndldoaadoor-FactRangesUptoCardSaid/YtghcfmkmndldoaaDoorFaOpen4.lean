/-
  An argument opened: a slice of strings.
-/
import Derived.Test.YtghcfmkmndldoaaDoorKFaOpen
namespace Go.Proofs.YtghcfmkmndldoaaDoor
set_option maxRecDepth 20000
open Go.ChangeShapes Go.WideShapes Go.ChangeAt Go.ChangeMaps Go.RowKit Go.Joins Go.Deep

/-- THE SLICE AT A READS AS the texts ls, all of it below block B -/
def RSF (w : World) (B : Nat) (A : Option Addr) (ls : List ByteArray) : Prop := ∀ k z, ls[k]? = some z → ∃ b o, A = some ⟨b, o, none⟩ ∧ b < B ∧ w.cell? ⟨b, o + k, none⟩ = some (.string z)
section
variable {H : Type} {enc : TypeId × Value → H} {w : World} {base : Nat} {v : Value} {d : DataW H} {p : List MemPlace}
theorem open_strsF (hok : Value.okWide Tryd.prog w .any base 72 v) (h : DataW.Trod enc Tryd.prog w 0 (fun _ => true) true 72 v d p) :
    ∃ (A : Option Addr) (ls : List ByteArray) (c : Nat), v = .slice A ls.length c ∧ ls.length ≤ c ∧ c ≤ maxLen ∧ RSF w w.heap.size A ls ∧ (A = none → c = 0) := by
  obtain ⟨a0, len, cap, rfl⟩ := okWide_slice Tryd.underlying72 hok
  obtain ⟨fuel, hf⟩ := h
  rcases open_strings Tryd.underlying72 Tryd.underlying9 (by kernel_rfl) hf with ⟨hcs, _⟩ | ⟨x, l, c, ss, hcs, _, hl, hm, hz, hd, hcell, hwz⟩
  · simp [Value.cells] at hcs
    obtain ⟨rfl, rfl, rfl⟩ := hcs
    exact ⟨none, [], 0, rfl, Nat.le_refl _, Nat.zero_le _, fun k z hz => by simp at hz, fun _ => rfl⟩
  · simp [Value.cells] at hcs
    obtain ⟨rfl, rfl, rfl⟩ := hcs
    have hz' : ss.length = cap := by simpa using hz
    have hlen : (ss.take len).length = len := by simp; omega
    refine ⟨some x, ss.take len, cap, by rw [hlen], by rw [hlen]; omega, by omega, fun k z hz1 => ?_, fun e => by cases e⟩
    rw [List.getElem?_take] at hz1
    split at hz1
    · have hk : k < ss.length := (List.getElem?_eq_some_iff.1 hz1).1
      have hc := hcell k hk
      have hg : ss.getD k ByteArray.empty = z := by simp [List.getD, hz1]
      rw [hg] at hc
      have hlt := World.block_lt_of_cell? w _ hc
      rw [add_block] at hlt
      have hs := World.cell?_spot (hcell 0 (by omega))
      obtain ⟨b, o, sp⟩ := x
      have hs' : sp = none := by simpa [Addr.add] using hs
      subst hs'
      rw [add_flat] at hc
      exact ⟨b, o, rfl, hlt, hc⟩
    · cases hz1
end
end Go.Proofs.YtghcfmkmndldoaaDoor
