/-
  Arguments opened: SegWrites' acts, with their bulk.
-/
import Derived.Test.YtlficcdbnmheeaaDoorSgOpenR
import Derived.Test.YtlficcdbnmheeaaDoorKSg35
namespace Go.Proofs.YtlficcdbnmheeaaDoor
set_option maxRecDepth 20000
open Go.ChangeShapes Go.WideShapes Go.ChangeAt Go.ChangeMaps Go.RowKit Go.Joins Go.Deep

theorem cells_act9 : Tryd.prog.cellsOf 60 = 2 := by kernel_rfl
theorem cells_bool9 : Tryd.prog.cellsOf 4 = 1 := by kernel_rfl
section
variable {H : Type} {enc : TypeId × Value → H} {w : World} {n : Nat} {v : Value} {y : DataW H × List MemPlace}
theorem open_act9 {a : Addr} {cs : List Value} (hc : w.cells? 0 a 2 = some cs) (h : DataW.trod enc Tryd.prog w 0 (fun _ => true) true n 60 cs = some y) :
    ∃ (b o : Nat) (x : WAct), a = ⟨b, o, none⟩ ∧ b < w.heap.size ∧ WActAt w w.heap.size b o x ∧ x.blob.length ≤ Rows.uptoBulk y.1 := by
  obtain ⟨_, hcl, hat⟩ := World.cells?_some hc
  obtain ⟨ys, n', hn', hy, _, hyl, hf⟩ := DataW.trod_struct Tryd.underlying60 h
  match cs, hcl with
  | [c0, c1], _ =>
  have f0 : DataW.trod enc Tryd.prog w 0 (fun _ => true) true n' 25 ((List.drop 0 [c0, c1]).take (Tryd.prog.cellsOf 25)) = ys[0]? := hf 0 _ rfl
  rw [cells_bytes] at f0
  have y0 : ys[0]? = some (ys[0]'(by rw [hyl]; decide)) := List.getElem?_eq_getElem _
  rw [y0] at f0
  have f1 : DataW.trod enc Tryd.prog w 0 (fun _ => true) true n' 4 ((List.drop 1 [c0, c1]).take (Tryd.prog.cellsOf 4)) = ys[1]? := hf 1 _ rfl
  rw [cells_bool9] at f1
  have y1 : ys[1]? = some (ys[1]'(by rw [hyl]; decide)) := List.getElem?_eq_getElem _
  rw [y1] at f1
  obtain ⟨A5, l5, p5, rfl, r5, s5, t5, u5⟩ := cell_bytes2 f0
  obtain ⟨z1, e1, _⟩ := DataW.trod_bool Tryd.underlying4 f1
  cases e1
  obtain ⟨b, o, sp⟩ := a
  have hc0 := hat 0 (by omega)
  have hsp : sp = none := by
    have := World.cell?_spot (w := w) (hc0.trans rfl)
    simpa [Addr.add] using this
  subst hsp
  have hlt : b < w.heap.size := by
    have := World.block_lt_of_cell? w _ (hc0.trans rfl)
    rwa [add_block] at this
  have at_ : ∀ (i : Nat) v, i < 2 → [Value.slice A5 l5.length p5, .bool z1][i]? = some v → w.cell? ⟨b, o + i, none⟩ = some v := by
    intro i v hi5 hv
    rw [← add_flat, hat i hi5, hv]
  have hb5 := bulk_at (ys.map (·.1)) 0 (ys[0]'(by rw [hyl]; decide)).1 (by rw [List.getElem?_map, y0]; rfl)
  refine ⟨b, o, ⟨l5, z1⟩, rfl, hlt, ⟨⟨A5, p5, at_ 0 _ (by omega) rfl, r5, s5⟩, at_ 1 _ (by omega) rfl⟩, ?_⟩
  rw [hy, Rows.uptoBulk]
  show l5.length ≤ _
  omega
theorem open_acts9 {d : DataW H} {p : List MemPlace} {base : Nat} (hok : Value.okWide Tryd.prog w .any base 51 v) (h : DataW.Trod enc Tryd.prog w 0 (fun _ => true) true 51 v d p) :
    ∃ (A : Option Addr) (l : List WAct) (c : Nat), v = .slice A l.length c ∧ WActs w w.heap.size A l ∧ l.length ≤ Rows.uptoBulk d ∧ ∀ (k : Nat) (x : WAct), l[k]? = some x → x.blob.length ≤ Rows.uptoBulk d := by
  obtain ⟨a0, len, cap, rfl⟩ := okWide_slice Tryd.underlying51 hok
  obtain ⟨fuel, hf⟩ := h
  rcases open_slice Tryd.underlying51 hf with ⟨hcs, _⟩ | ⟨a, len', cap', m, n, D, Pl, hcs, _, hl, hm, hmm, hx, hi⟩
  · simp [Value.cells] at hcs
    obtain ⟨rfl, rfl, rfl⟩ := hcs
    exact ⟨none, [], 0, rfl, fun k x hk => by simp at hk, Nat.zero_le _, fun k x hk => by simp at hk⟩
  · simp [Value.cells] at hcs
    obtain ⟨rfl, rfl, rfl⟩ := hcs
    have hm' : m = cap := by simpa using hmm
    simp only [cells_act9] at hi
    obtain ⟨l, hll, hp⟩ := list_of (P := fun i x => ∃ b o, a.add (i * 2) = ⟨b, o, none⟩ ∧ b < w.heap.size ∧ WActAt w w.heap.size b o x ∧ x.blob.length ≤ Rows.uptoBulk (D i)) len (fun i hil => by
      obtain ⟨cs', hc, ht⟩ := hi i (by omega)
      obtain ⟨b, o, x, q1, q2, q3, q4⟩ := open_act9 hc ht
      exact ⟨x, b, o, q1, q2, q3, q4⟩)
    simp only [Prod.mk.injEq] at hx
    have hlen := bulk_len (H := H) ((List.range len).map D)
    rw [List.length_map, List.length_range] at hlen
    refine ⟨some a, l, cap, by rw [hll], fun k x hk => ?_, ?_, fun k x hk => ?_⟩
    · obtain ⟨b, o, q1, q2, q3, _⟩ := hp k x hk
      have hk0 : k < l.length := (List.getElem?_eq_some_iff.1 hk).1
      obtain ⟨b', o', e0, _⟩ := hp 0 _ (List.getElem?_eq_getElem (by omega))
      have ea : a = ⟨b', o', none⟩ := by
        rw [← e0]
        simp [Addr.add]
      subst ea
      rw [add_flat] at q1
      cases q1
      exact ⟨_, _, rfl, q2, q3⟩
    · rw [hx.1, Rows.uptoBulk]
      omega
    · obtain ⟨b, o, _, _, _, q4⟩ := hp k x hk
      have hkl : k < len := by rw [← hll]; exact (List.getElem?_eq_some_iff.1 hk).1
      have hb := bulk_at ((List.range len).map D) k (D k) (by rw [List.getElem?_map, List.getElem?_range hkl]; rfl)
      rw [hx.1, Rows.uptoBulk]
      omega
end
end Go.Proofs.YtlficcdbnmheeaaDoor
