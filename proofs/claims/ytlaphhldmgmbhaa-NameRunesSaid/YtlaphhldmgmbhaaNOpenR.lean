/-
  A list of runes opened.
-/
import Derived.Test.YtlaphhldmgmbhaaNOpen
import Derived.Test.YtlaphhldmgmbhaaNWrite
namespace Go.Proofs.Ytlaphhldmgmbhaa
open Go.ChangeShapes Go.WideShapes Go.ChangeAt Go.ChangeMaps Go.RowKit Go.Joins

section
variable {H : Type} {enc : TypeId × Value → H} {w : World} {base : Nat} {v : Value} {d : DataW H} {p : List MemPlace}
theorem open_runes (hok : Value.okWide Try.prog w .any base 22 v) (h : DataW.Trod enc Try.prog w 0 (fun _ => true) true 22 v d p) :
    ∃ (A : Option Addr) (l : List Int) (c : Nat), v = .slice A l.length c ∧ RZ w w.heap.size A l ∧ (∀ z ∈ l, -2147483648 ≤ z ∧ z ≤ 2147483647) := by
  obtain ⟨a0, len, cap, rfl⟩ := okWide_slice Try.underlying22 hok
  obtain ⟨fuel, hf⟩ := h
  rcases open_ints Try.underlying22 Try.underlying21 (by kernel_rfl) hf with ⟨hcs, _⟩ | ⟨x, l, c, zs, hcs, _, hl, hm, hz, _, hcell, hwz⟩
  · simp [Value.cells] at hcs
    obtain ⟨rfl, rfl, rfl⟩ := hcs
    exact ⟨none, [], 0, rfl, fun k z hz => by simp at hz, fun z hz => by simp at hz⟩
  · simp [Value.cells] at hcs
    obtain ⟨rfl, rfl, rfl⟩ := hcs
    have hz' : zs.length = cap := by simpa using hz
    have hlen : (zs.take len).length = len := by simp; omega
    refine ⟨some x, zs.take len, cap, by rw [hlen], fun k z hz1 => ?_, fun z hz1 => ?_⟩
    · rw [List.getElem?_take] at hz1
      split at hz1
      · have hk : k < zs.length := (List.getElem?_eq_some_iff.1 hz1).1
        have hc := hcell k hk
        have hg : zs.getD k 0 = z := by simp [List.getD, hz1]
        rw [hg] at hc
        have hlt := World.block_lt_of_cell? w _ hc
        rw [add_block] at hlt
        have hs := World.cell?_spot (hcell 0 (by omega))
        obtain ⟨b, o, sp⟩ := x
        have hs' : sp = none := by simpa [Addr.add] using hs
        subst hs'
        rw [add_flat] at hc
        exact ⟨b, o, rfl, hlt, hc⟩
      · cases hz1
    · have hb := bounds_i32 (hwz z (List.mem_of_mem_take hz1))
      omega
end
end Go.Proofs.Ytlaphhldmgmbhaa
