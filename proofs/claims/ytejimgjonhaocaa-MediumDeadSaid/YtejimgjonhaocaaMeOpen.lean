/-
  Arguments opened: a list of acts; a number of 64 bits; a list of such.
-/
import Derived.Test.YtejimgjonhaocaaZOpen
import Derived.Test.YtejimgjonhaocaaMe14
import Derived.Deep.Slices
import Derived.Deep.Fields
import Derived.ChangeSame
namespace Go.Proofs.Ytejimgjonhaocaa
open Go.ChangeShapes Go.WideShapes Go.ChangeAt Go.ChangeMaps Go.RowKit Go.Joins Go.Deep

theorem cells_int : Try.prog.cellsOf 3 = 1 := by kernel_rfl
theorem cells_u64 : Try.prog.cellsOf 34 = 1 := by kernel_rfl
theorem cells_bool : Try.prog.cellsOf 4 = 1 := by kernel_rfl
theorem cells_act : Try.prog.cellsOf 36 = 5 := by kernel_rfl
theorem list_of {α : Type} {P : Nat → α → Prop} : ∀ n : Nat, (∀ i, i < n → ∃ x, P i x) → ∃ l : List α, l.length = n ∧ ∀ i x, l[i]? = some x → P i x
  | 0, _ => ⟨[], rfl, fun i x h => by simp at h⟩
  | n + 1, h => by
    obtain ⟨l, hl, hp⟩ := list_of n (fun i hi => h i (Nat.lt_succ_of_lt hi))
    obtain ⟨x, hx⟩ := h n (Nat.lt_succ_self n)
    refine ⟨l ++ [x], by simp [hl], fun i y hy => ?_⟩
    by_cases hi : i < l.length
    · rw [List.getElem?_append_left hi] at hy
      exact hp i y hy
    · rw [List.getElem?_append_right (by omega)] at hy
      have h0 : i - l.length = 0 := by
        have := (List.getElem?_eq_some_iff.1 hy).1
        simp at this
        omega
      rw [h0] at hy
      simp at hy
      subst hy
      obtain rfl : i = n := by omega
      exact hx
section
set_option maxRecDepth 20000
variable {H : Type} {enc : TypeId × Value → H} {w : World} {n : Nat} {v : Value} {y : DataW H × List MemPlace}
theorem cell_i64 (h : DataW.trod enc Try.prog w 0 (fun _ => true) true n 3 [v] = some y) : ∃ z : Int, v = .int .i64 z := by
  obtain ⟨z, e, _, hw⟩ := DataW.trod_int Try.underlying3 h
  cases e
  exact ⟨z, rfl⟩
theorem cell_u64 (h : DataW.trod enc Try.prog w 0 (fun _ => true) true n 34 [v] = some y) : ∃ z : Nat, v = .int .u64 (z : Int) ∧ z < T64 := by
  obtain ⟨z, e, _, hw⟩ := DataW.trod_int Try.underlying34 h
  cases e
  have hb := bounds_u64 hw
  exact ⟨z.toNat, by congr 1; omega, by unfold T64; omega⟩
theorem cell_bool (h : DataW.trod enc Try.prog w 0 (fun _ => true) true n 4 [v] = some y) : ∃ b : Bool, v = .bool b := by
  obtain ⟨b, e, _⟩ := DataW.trod_bool Try.underlying4 h
  cases e
  exact ⟨b, rfl⟩
theorem open_u64' {d : DataW H} {p : List MemPlace} {base : Nat} (hok : Value.okWide Try.prog w .any base 34 v) (h : DataW.Trod enc Try.prog w 0 (fun _ => true) true 34 v d p) : ∃ z : Nat, v = .int .u64 (z : Int) ∧ z < T64 := by
  obtain ⟨x, rfl⟩ := okWide_int Try.underlying34 hok
  obtain ⟨fuel, hf⟩ := h
  have hf' : DataW.trod enc Try.prog w 0 (fun _ => true) true fuel 34 [.int .u64 x] = some (d, p) := hf
  exact cell_u64 hf'
theorem open_act {a : Addr} {cs : List Value} (hc : w.cells? 0 a 5 = some cs) (h : DataW.trod enc Try.prog w 0 (fun _ => true) true n 36 cs = some y) :
    ∃ (b o : Nat) (x : PAct), a = ⟨b, o, none⟩ ∧ b < w.heap.size ∧ ActAt w b o x := by
  obtain ⟨_, hcl, hat⟩ := World.cells?_some hc
  obtain ⟨ys, n', hn', hy, _, hyl, hf⟩ := DataW.trod_struct Try.underlying36 h
  match cs, hcl with
  | [c0, c1, c2, c3, c4], _ =>
  have f0 : DataW.trod enc Try.prog w 0 (fun _ => true) true n' 3 ((List.drop 0 [c0, c1, c2, c3, c4]).take (Try.prog.cellsOf 3)) = ys[0]? := hf 0 _ rfl
  rw [cells_int] at f0
  have y0 : ys[0]? = some (ys[0]'(by rw [hyl]; decide)) := List.getElem?_eq_getElem _
  rw [y0] at f0
  have f1 : DataW.trod enc Try.prog w 0 (fun _ => true) true n' 34 ((List.drop 1 [c0, c1, c2, c3, c4]).take (Try.prog.cellsOf 34)) = ys[1]? := hf 1 _ rfl
  rw [cells_u64] at f1
  have y1 : ys[1]? = some (ys[1]'(by rw [hyl]; decide)) := List.getElem?_eq_getElem _
  rw [y1] at f1
  have f2 : DataW.trod enc Try.prog w 0 (fun _ => true) true n' 3 ((List.drop 2 [c0, c1, c2, c3, c4]).take (Try.prog.cellsOf 3)) = ys[2]? := hf 2 _ rfl
  rw [cells_int] at f2
  have y2 : ys[2]? = some (ys[2]'(by rw [hyl]; decide)) := List.getElem?_eq_getElem _
  rw [y2] at f2
  have f3 : DataW.trod enc Try.prog w 0 (fun _ => true) true n' 3 ((List.drop 3 [c0, c1, c2, c3, c4]).take (Try.prog.cellsOf 3)) = ys[3]? := hf 3 _ rfl
  rw [cells_int] at f3
  have y3 : ys[3]? = some (ys[3]'(by rw [hyl]; decide)) := List.getElem?_eq_getElem _
  rw [y3] at f3
  have f4 : DataW.trod enc Try.prog w 0 (fun _ => true) true n' 4 ((List.drop 4 [c0, c1, c2, c3, c4]).take (Try.prog.cellsOf 4)) = ys[4]? := hf 4 _ rfl
  rw [cells_bool] at f4
  have y4 : ys[4]? = some (ys[4]'(by rw [hyl]; decide)) := List.getElem?_eq_getElem _
  rw [y4] at f4
  obtain ⟨z0, rfl⟩ := cell_i64 f0
  obtain ⟨z1, rfl, hz1⟩ := cell_u64 f1
  obtain ⟨z2, rfl⟩ := cell_i64 f2
  obtain ⟨z3, rfl⟩ := cell_i64 f3
  obtain ⟨z4, rfl⟩ := cell_bool f4
  obtain ⟨b, o, sp⟩ := a
  have hc0 := hat 0 (by omega)
  have hsp : sp = none := by
    have := World.cell?_spot (w := w) (hc0.trans rfl)
    simpa [Addr.add] using this
  subst hsp
  have hlt : b < w.heap.size := by
    have := World.block_lt_of_cell? w _ (hc0.trans rfl)
    rwa [add_block] at this
  have at_ : ∀ (i : Nat) v, i < 5 → [Value.int .i64 z0, .int .u64 (z1 : Int), .int .i64 z2, .int .i64 z3, .bool z4][i]? = some v → w.cell? ⟨b, o + i, none⟩ = some v := by
    intro i v hi5 hv
    rw [← add_flat, hat i hi5, hv]
  exact ⟨b, o, ⟨z0, z1, z2, z3, z4⟩, rfl, hlt, ⟨at_ 0 _ (by omega) rfl, at_ 1 _ (by omega) rfl, at_ 2 _ (by omega) rfl, at_ 3 _ (by omega) rfl, at_ 4 _ (by omega) rfl, hz1⟩⟩
theorem open_acts {d : DataW H} {p : List MemPlace} {base : Nat} (hok : Value.okWide Try.prog w .any base 22 v) (h : DataW.Trod enc Try.prog w 0 (fun _ => true) true 22 v d p) :
    ∃ (A : Option Addr) (l : List PAct) (c : Nat), v = .slice A l.length c ∧ ActsAt w w.heap.size A l := by
  obtain ⟨a0, len, cap, rfl⟩ := okWide_slice Try.underlying22 hok
  obtain ⟨fuel, hf⟩ := h
  rcases open_slice Try.underlying22 hf with ⟨hcs, _⟩ | ⟨a, len', cap', m, n, D, Pl, hcs, _, hl, hm, hmm, hx, hi⟩
  · simp [Value.cells] at hcs
    obtain ⟨rfl, rfl, rfl⟩ := hcs
    exact ⟨none, [], 0, rfl, fun k x hk => by simp at hk⟩
  · simp [Value.cells] at hcs
    obtain ⟨rfl, rfl, rfl⟩ := hcs
    have hm' : m = cap := by simpa using hmm
    simp only [cells_act] at hi
    obtain ⟨l, hll, hp⟩ := list_of (P := fun i x => ∃ b o, a.add (i * 5) = ⟨b, o, none⟩ ∧ b < w.heap.size ∧ ActAt w b o x) len (fun i hil => by
      obtain ⟨cs', hc, ht⟩ := hi i (by omega)
      obtain ⟨b, o, x, q1, q2, q3⟩ := open_act hc ht
      exact ⟨x, b, o, q1, q2, q3⟩)
    refine ⟨some a, l, cap, by rw [hll], fun k x hk => ?_⟩
    obtain ⟨b, o, q1, q2, q3⟩ := hp k x hk
    have hk0 : k < l.length := (List.getElem?_eq_some_iff.1 hk).1
    obtain ⟨b', o', e0, _⟩ := hp 0 _ (List.getElem?_eq_getElem (by omega))
    have ea : a = ⟨b', o', none⟩ := by
      rw [← e0]
      simp [Addr.add]
    subst ea
    rw [add_flat] at q1
    cases q1
    exact ⟨_, _, rfl, q2, q3⟩
end
end Go.Proofs.Ytejimgjonhaocaa
