/-
  Arguments opened: a list of units.
-/
import Derived.Test.YtajpnjapfiffmaaZOpen
import Derived.Test.YtajpnjapfiffmaaKAlSeek
import Derived.Deep.Slices
import Derived.Deep.Fields
import Derived.ChangeSame
namespace Go.Proofs.Ytajpnjapfiffmaa
open Go.ChangeShapes Go.WideShapes Go.ChangeAt Go.ChangeMaps Go.RowKit Go.Joins Go.Deep

theorem cells_int : Try.prog.cellsOf 3 = 1 := by kernel_rfl
theorem cells_unit : Try.prog.cellsOf 24 = 2 := by kernel_rfl
theorem list_of {α : Type} {P : Nat → α → Prop} : ∀ n : Nat, (∀ i, i < n → ∃ x, P i x) → ∃ l : List α, l.length = n ∧ ∀ i x, l[i]? = some x → P i x
  | 0, _ => ⟨[], rfl, fun i x h => by simp at h⟩
  | n + 1, h => by
    obtain ⟨l, hl, hp⟩ := list_of n (fun i hi => h i (Nat.lt_succ_of_lt hi))
    obtain ⟨x, hx⟩ := h n (Nat.lt_succ_self n)
    refine ⟨l ++ [x], by simp [hl], fun i y hy => ?_⟩
    by_cases hi : i < l.length
    · rw [List.getElem?_append_left hi] at hy
      exact hp i y hy
    · rw [List.getElem?_append_right (by omega)] at hy
      have h0 : i - l.length = 0 := by
        have := (List.getElem?_eq_some_iff.1 hy).1
        simp at this
        omega
      rw [h0] at hy
      simp at hy
      subst hy
      obtain rfl : i = n := by omega
      exact hx
section
set_option maxRecDepth 20000
variable {H : Type} {enc : TypeId × Value → H} {w : World} {n : Nat} {v : Value} {y : DataW H × List MemPlace}
theorem cell_i64 (h : DataW.trod enc Try.prog w 0 (fun _ => true) true n 3 [v] = some y) : ∃ z : Int, v = .int .i64 z ∧ -9223372036854775808 ≤ z ∧ z ≤ 9223372036854775807 := by
  obtain ⟨z, e, _, hw⟩ := DataW.trod_int Try.underlying3 h
  have hb := bounds_i64 hw
  cases e
  exact ⟨z, rfl, by omega, by omega⟩
theorem open_unit {a : Addr} {cs : List Value} (hc : w.cells? 0 a 2 = some cs) (h : DataW.trod enc Try.prog w 0 (fun _ => true) true n 24 cs = some y) :
    ∃ (b o : Nat) (u : Int × Int), a = ⟨b, o, none⟩ ∧ b < w.heap.size ∧ w.cell? ⟨b, o, none⟩ = some (.int .i64 u.1) ∧ w.cell? ⟨b, o + 1, none⟩ = some (.int .i64 u.2) := by
  obtain ⟨_, hcl, hat⟩ := World.cells?_some hc
  obtain ⟨ys, n', hn', hy, _, hyl, hf⟩ := DataW.trod_struct Try.underlying24 h
  match cs, hcl with
  | [c0, c1], _ =>
  have f0 : DataW.trod enc Try.prog w 0 (fun _ => true) true n' 3 ((List.drop 0 [c0, c1]).take (Try.prog.cellsOf 3)) = ys[0]? := hf 0 _ rfl
  rw [cells_int] at f0
  have y0 : ys[0]? = some (ys[0]'(by rw [hyl]; decide)) := List.getElem?_eq_getElem _
  rw [y0] at f0
  have f1 : DataW.trod enc Try.prog w 0 (fun _ => true) true n' 3 ((List.drop 1 [c0, c1]).take (Try.prog.cellsOf 3)) = ys[1]? := hf 1 _ rfl
  rw [cells_int] at f1
  have y1 : ys[1]? = some (ys[1]'(by rw [hyl]; decide)) := List.getElem?_eq_getElem _
  rw [y1] at f1
  obtain ⟨z0, rfl, _, _⟩ := cell_i64 f0
  obtain ⟨z1, rfl, _, _⟩ := cell_i64 f1
  obtain ⟨b, o, sp⟩ := a
  have hc0 := hat 0 (by omega)
  have hsp : sp = none := by
    have := World.cell?_spot (w := w) (hc0.trans rfl)
    simpa [Addr.add] using this
  subst hsp
  have hlt : b < w.heap.size := by
    have := World.block_lt_of_cell? w _ (hc0.trans rfl)
    rwa [add_block] at this
  have at_ : ∀ (i : Nat) v, i < 2 → [Value.int .i64 z0, .int .i64 z1][i]? = some v → w.cell? ⟨b, o + i, none⟩ = some v := by
    intro i v hi7 hv
    rw [← add_flat, hat i hi7, hv]
  exact ⟨b, o, (z0, z1), rfl, hlt, at_ 0 _ (by omega) rfl, at_ 1 _ (by omega) rfl⟩
theorem open_units {d : DataW H} {p : List MemPlace} {base : Nat} (hok : Value.okWide Try.prog w .any base 35 v) (h : DataW.Trod enc Try.prog w 0 (fun _ => true) true 35 v d p) :
    ∃ (A : Option Addr) (us : List (Int × Int)) (c : Nat), v = .slice A us.length c ∧ RU w w.heap.size A us := by
  obtain ⟨a0, len, cap, rfl⟩ := okWide_slice Try.underlying35 hok
  obtain ⟨fuel, hf⟩ := h
  rcases open_slice Try.underlying35 hf with ⟨hcs, _⟩ | ⟨a, len', cap', m, n, D, Pl, hcs, _, hl, hm, hmm, hx, hi⟩
  · simp [Value.cells] at hcs
    obtain ⟨rfl, rfl, rfl⟩ := hcs
    exact ⟨none, [], 0, rfl, fun k x hk => by simp at hk⟩
  · simp [Value.cells] at hcs
    obtain ⟨rfl, rfl, rfl⟩ := hcs
    have hm' : m = cap := by simpa using hmm
    simp only [cells_unit] at hi
    obtain ⟨l, hll, hp⟩ := list_of (P := fun i (u : Int × Int) => ∃ b o, a.add (i * 2) = ⟨b, o, none⟩ ∧ b < w.heap.size ∧ w.cell? ⟨b, o, none⟩ = some (.int .i64 u.1) ∧ w.cell? ⟨b, o + 1, none⟩ = some (.int .i64 u.2)) len (fun i hil => by
      obtain ⟨cs', hc, ht⟩ := hi i (by omega)
      obtain ⟨b, o, x, q1, q2, q3, q4⟩ := open_unit hc ht
      exact ⟨x, b, o, q1, q2, q3, q4⟩)
    refine ⟨some a, l, cap, by rw [hll], fun k x hk => ?_⟩
    obtain ⟨b, o, q1, q2, q3, q4⟩ := hp k x hk
    have hk0 : k < l.length := (List.getElem?_eq_some_iff.1 hk).1
    obtain ⟨b', o', e0, _⟩ := hp 0 _ (List.getElem?_eq_getElem (by omega))
    have ea : a = ⟨b', o', none⟩ := by
      rw [← e0]
      simp [Addr.add]
    subst ea
    rw [add_flat] at q1
    cases q1
    exact ⟨_, _, rfl, q2, q3, q4⟩
end
end Go.Proofs.Ytajpnjapfiffmaa
