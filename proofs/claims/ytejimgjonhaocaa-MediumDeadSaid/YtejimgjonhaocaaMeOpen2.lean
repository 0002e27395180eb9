/-
  Arguments opened: a list of numbers of 64 bits.
-/
import Derived.Test.YtejimgjonhaocaaMeOpen
import Derived.Test.YtejimgjonhaocaaMeD4
namespace Go.Proofs.Ytejimgjonhaocaa
open Go.ChangeShapes Go.WideShapes Go.ChangeAt Go.ChangeMaps Go.RowKit Go.Joins Go.Deep

section
set_option maxRecDepth 20000
variable {H : Type} {enc : TypeId × Value → H} {w : World} {n : Nat} {v : Value} {y : DataW H × List MemPlace}
theorem open_num {a : Addr} {cs : List Value} (hc : w.cells? 0 a 1 = some cs) (h : DataW.trod enc Try.prog w 0 (fun _ => true) true n 34 cs = some y) :
    ∃ (b o x : Nat), a = ⟨b, o, none⟩ ∧ b < w.heap.size ∧ w.cell? ⟨b, o, none⟩ = some (.int .u64 (x : Int)) ∧ x < T64 := by
  obtain ⟨_, hcl, hat⟩ := World.cells?_some hc
  match cs, hcl with
  | [c0], _ =>
  obtain ⟨z, rfl, hz⟩ := cell_u64 h
  obtain ⟨b, o, sp⟩ := a
  have hc0 := hat 0 (by omega)
  have hsp : sp = none := by
    have := World.cell?_spot (w := w) (hc0.trans rfl)
    simpa [Addr.add] using this
  subst hsp
  have hlt : b < w.heap.size := by
    have := World.block_lt_of_cell? w _ (hc0.trans rfl)
    rwa [add_block] at this
  exact ⟨b, o, z, rfl, hlt, by rw [← Nat.add_zero o, ← add_flat, hc0]; rfl, hz⟩
theorem open_u64s {d : DataW H} {p : List MemPlace} {base : Nat} (hok : Value.okWide Try.prog w .any base 23 v) (h : DataW.Trod enc Try.prog w 0 (fun _ => true) true 23 v d p) :
    ∃ (A : Option Addr) (l : List Nat) (c : Nat), v = .slice A l.length c ∧ RU w A l := by
  obtain ⟨a0, len, cap, rfl⟩ := okWide_slice Try.underlying23 hok
  obtain ⟨fuel, hf⟩ := h
  rcases open_slice Try.underlying23 hf with ⟨hcs, _⟩ | ⟨a, len', cap', m, n, D, Pl, hcs, _, hl, hm, hmm, hx, hi⟩
  · simp [Value.cells] at hcs
    obtain ⟨rfl, rfl, rfl⟩ := hcs
    exact ⟨none, [], 0, rfl, fun k x hk => by simp at hk⟩
  · simp [Value.cells] at hcs
    obtain ⟨rfl, rfl, rfl⟩ := hcs
    have hm' : m = cap := by simpa using hmm
    simp only [cells_u64] at hi
    obtain ⟨l, hll, hp⟩ := list_of (P := fun (i x : Nat) => ∃ b o, a.add (i * 1) = ⟨b, o, none⟩ ∧ b < w.heap.size ∧ w.cell? ⟨b, o, none⟩ = some (.int .u64 (x : Int)) ∧ x < T64) len (fun i hil => by
      obtain ⟨cs', hc, ht⟩ := hi i (by omega)
      obtain ⟨b, o, x, q1, q2, q3, q4⟩ := open_num hc ht
      exact ⟨x, b, o, q1, q2, q3, q4⟩)
    refine ⟨some a, l, cap, by rw [hll], fun k x hk => ?_⟩
    obtain ⟨b, o, q1, q2, q3, q4⟩ := hp k x hk
    have hk0 : k < l.length := (List.getElem?_eq_some_iff.1 hk).1
    obtain ⟨b', o', e0, _⟩ := hp 0 _ (List.getElem?_eq_getElem (by omega))
    have ea : a = ⟨b', o', none⟩ := by
      rw [← e0]
      simp [Addr.add]
    subst ea
    rw [add_flat, Nat.mul_one] at q1
    cases q1
    exact ⟨q4, _, _, rfl, q2, q3⟩
end
end Go.Proofs.Ytejimgjonhaocaa
