/-
  Arguments opened: a unit; a list of acts, with its bulk.
-/
import Derived.Test.YtajpnjapfiffmaaAlOpen
import Derived.Test.YtajpnjapfiffmaaKAlPlay1
namespace Go.Proofs.Ytajpnjapfiffmaa
open Go.ChangeShapes Go.WideShapes Go.ChangeAt Go.ChangeMaps Go.RowKit Go.Joins Go.Deep

theorem cells_ints : Try.prog.cellsOf 34 = 1 := by kernel_rfl
theorem cells_units : Try.prog.cellsOf 35 = 1 := by kernel_rfl
theorem cells_act8 : Try.prog.cellsOf 37 = 4 := by kernel_rfl
theorem bulk_one {H : Type} : ∀ d : DataW H, 1 ≤ Rows.uptoBulk d
  | .lit l => by cases l <;> simp [Rows.uptoBulk]
  | .nil => by simp [Rows.uptoBulk]
  | .ptr _ | .slice _ _ | .agg _ | .iface _ _ | .map _ => by rw [Rows.uptoBulk]; omega
  | .held _ => by simp [Rows.uptoBulk]
theorem bulk_len {H : Type} : ∀ l : List (DataW H), l.length ≤ Rows.uptoBulkAll l
  | [] => Nat.zero_le _
  | d :: l => by
    have h1 := bulk_one d
    have h2 := bulk_len l
    rw [Rows.uptoBulkAll, List.length_cons]
    omega
theorem bulk_at {H : Type} : ∀ (l : List (DataW H)) (i : Nat) d, l[i]? = some d → Rows.uptoBulk d ≤ Rows.uptoBulkAll l
  | [], _, _, h => by simp at h
  | x :: l, 0, d, h => by
    simp at h
    subst h
    rw [Rows.uptoBulkAll]
    omega
  | x :: l, i + 1, d, h => by
    have := bulk_at l i d (by simpa using h)
    rw [Rows.uptoBulkAll]
    omega
section
set_option maxRecDepth 20000
variable {H : Type} {enc : TypeId × Value → H} {w : World} {n : Nat} {v : Value} {y : DataW H × List MemPlace}
theorem open_unitv {d : DataW H} {p : List MemPlace} {base : Nat} (hok : Value.okWide Try.prog w .any base 24 v) (h : DataW.Trod enc Try.prog w 0 (fun _ => true) true 24 v d p) :
    ∃ a b : Int, v = uV a b := by
  obtain ⟨cs, rfl, hsz⟩ := okWide_struct Try.underlying24 hok
  rw [cells_unit] at hsz
  obtain ⟨fuel, hf⟩ := h
  have hf' : DataW.trod enc Try.prog w 0 (fun _ => true) true fuel 24 cs.toList = some (d, p) := hf
  obtain ⟨ys, n', hn', hy, _, hyl, hfs⟩ := DataW.trod_struct Try.underlying24 hf'
  obtain ⟨l, rfl⟩ : ∃ l : List Value, cs = l.toArray := ⟨cs.toList, by simp⟩
  match l, hsz with
  | [c0, c1], _ =>
  have f0 : DataW.trod enc Try.prog w 0 (fun _ => true) true n' 3 ((List.drop 0 [c0, c1]).take (Try.prog.cellsOf 3)) = ys[0]? := hfs 0 _ rfl
  rw [cells_int] at f0
  have y0 : ys[0]? = some (ys[0]'(by rw [hyl]; decide)) := List.getElem?_eq_getElem _
  rw [y0] at f0
  have f1 : DataW.trod enc Try.prog w 0 (fun _ => true) true n' 3 ((List.drop 1 [c0, c1]).take (Try.prog.cellsOf 3)) = ys[1]? := hfs 1 _ rfl
  rw [cells_int] at f1
  have y1 : ys[1]? = some (ys[1]'(by rw [hyl]; decide)) := List.getElem?_eq_getElem _
  rw [y1] at f1
  obtain ⟨z0, rfl, _, _⟩ := cell_i64 f0
  obtain ⟨z1, rfl, _, _⟩ := cell_i64 f1
  exact ⟨z0, z1, rfl⟩
theorem cell_ints8 (h : DataW.trod enc Try.prog w 0 (fun _ => true) true n 34 [v] = some y) : ∃ (A : Option Addr) (l : List Int) (c : Nat), v = .slice A l.length c ∧ RI w w.heap.size A l ∧ l.length ≤ Rows.uptoBulk y.1 := by
  rcases open_ints Try.underlying34 Try.underlying3 cells_int h with ⟨hcs, _⟩ | ⟨x, l, c, zs, hcs, _, hl, hm, hz, hy, hcell, _⟩
  · cases hcs
    exact ⟨none, [], 0, rfl, RI.nil _ _ _, Nat.zero_le _⟩
  · cases hcs
    have hz' : zs.length = c := by simpa using hz
    have hlen : (zs.take l).length = l := by simp; omega
    refine ⟨some x, zs.take l, c, by rw [hlen], fun k z hz1 => ?_, ?_⟩
    · rw [List.getElem?_take] at hz1
      split at hz1
      · have hk : k < zs.length := (List.getElem?_eq_some_iff.1 hz1).1
        have hc := hcell k hk
        have hg : zs.getD k 0 = z := by simp [List.getD, hz1]
        rw [hg] at hc
        have hlt := World.block_lt_of_cell? w _ hc
        rw [add_block] at hlt
        exact ⟨x, rfl, hlt, hc⟩
      · cases hz1
    · rw [hy, Rows.uptoBulk]
      have := bulk_len (H := H) (lits .i64 (zs.take l))
      have h2 : (lits (H := H) .i64 (zs.take l)).length = (zs.take l).length := by simp [lits]
      omega
theorem cell_units8 (h : DataW.trod enc Try.prog w 0 (fun _ => true) true n 35 [v] = some y) : ∃ (A : Option Addr) (us : List (Int × Int)) (c : Nat), v = .slice A us.length c ∧ RU w w.heap.size A us ∧ us.length ≤ Rows.uptoBulk y.1 := by
  rcases open_slice Try.underlying35 h with ⟨hcs, _⟩ | ⟨a, len', cap', m, n, D, Pl, hcs, _, hl, hm, hmm, hx, hi⟩
  · simp at hcs
    subst hcs
    exact ⟨none, [], 0, rfl, fun k x hk => by simp at hk, Nat.zero_le _⟩
  · simp at hcs
    subst hcs
    have hm' : m = cap' := by simpa using hmm
    simp only [cells_unit] at hi
    obtain ⟨l, hll, hp⟩ := list_of (P := fun i (u : Int × Int) => ∃ b o, a.add (i * 2) = ⟨b, o, none⟩ ∧ b < w.heap.size ∧ w.cell? ⟨b, o, none⟩ = some (.int .i64 u.1) ∧ w.cell? ⟨b, o + 1, none⟩ = some (.int .i64 u.2)) len' (fun i hil => by
      obtain ⟨cs', hc, ht⟩ := hi i (by omega)
      obtain ⟨b, o, x, q1, q2, q3, q4⟩ := open_unit hc ht
      exact ⟨x, b, o, q1, q2, q3, q4⟩)
    refine ⟨some a, l, cap', by rw [hll], fun k x hk => ?_, ?_⟩
    · obtain ⟨b, o, q1, q2, q3, q4⟩ := hp k x hk
      have hk0 : k < l.length := (List.getElem?_eq_some_iff.1 hk).1
      obtain ⟨b', o', e0, _⟩ := hp 0 _ (List.getElem?_eq_getElem (by omega))
      have ea : a = ⟨b', o', none⟩ := by
        rw [← e0]
        simp [Addr.add]
      subst ea
      rw [add_flat] at q1
      cases q1
      exact ⟨_, _, rfl, q2, q3, q4⟩
    · simp only [Prod.ext_iff] at hx
      have hlen := bulk_len (H := H) ((List.range len').map D)
      rw [List.length_map, List.length_range] at hlen
      rw [hx.1, Rows.uptoBulk]
      omega
theorem open_act8 {a : Addr} {cs : List Value} (hc : w.cells? 0 a 4 = some cs) (h : DataW.trod enc Try.prog w 0 (fun _ => true) true n 37 cs = some y) :
    ∃ (b o : Nat) (x : PAct8), a = ⟨b, o, none⟩ ∧ b < w.heap.size ∧ Act8 w b o x ∧ x.wo.length ≤ Rows.uptoBulk y.1 ∧ x.us.length ≤ Rows.uptoBulk y.1 := by
  obtain ⟨_, hcl, hat⟩ := World.cells?_some hc
  obtain ⟨ys, n', hn', hy, _, hyl, hf⟩ := DataW.trod_struct Try.underlying37 h
  match cs, hcl with
  | [c0, c1, c2, c3], _ =>
  have f0 : DataW.trod enc Try.prog w 0 (fun _ => true) true n' 3 ((List.drop 0 [c0, c1, c2, c3]).take (Try.prog.cellsOf 3)) = ys[0]? := hf 0 _ rfl
  rw [cells_int] at f0
  have y0 : ys[0]? = some (ys[0]'(by rw [hyl]; decide)) := List.getElem?_eq_getElem _
  rw [y0] at f0
  have f1 : DataW.trod enc Try.prog w 0 (fun _ => true) true n' 3 ((List.drop 1 [c0, c1, c2, c3]).take (Try.prog.cellsOf 3)) = ys[1]? := hf 1 _ rfl
  rw [cells_int] at f1
  have y1 : ys[1]? = some (ys[1]'(by rw [hyl]; decide)) := List.getElem?_eq_getElem _
  rw [y1] at f1
  have f2 : DataW.trod enc Try.prog w 0 (fun _ => true) true n' 34 ((List.drop 2 [c0, c1, c2, c3]).take (Try.prog.cellsOf 34)) = ys[2]? := hf 2 _ rfl
  rw [cells_ints] at f2
  have y2 : ys[2]? = some (ys[2]'(by rw [hyl]; decide)) := List.getElem?_eq_getElem _
  rw [y2] at f2
  have f3 : DataW.trod enc Try.prog w 0 (fun _ => true) true n' 35 ((List.drop 3 [c0, c1, c2, c3]).take (Try.prog.cellsOf 35)) = ys[3]? := hf 3 _ rfl
  rw [cells_units] at f3
  have y3 : ys[3]? = some (ys[3]'(by rw [hyl]; decide)) := List.getElem?_eq_getElem _
  rw [y3] at f3
  obtain ⟨z0, rfl, _, _⟩ := cell_i64 f0
  obtain ⟨z1, rfl, _, _⟩ := cell_i64 f1
  obtain ⟨A5, l5, p5, rfl, r5, u5⟩ := cell_ints8 f2
  obtain ⟨A6, l6, p6, rfl, r6, u6⟩ := cell_units8 f3
  obtain ⟨b, o, sp⟩ := a
  have hc0 := hat 0 (by omega)
  have hsp : sp = none := by
    have := World.cell?_spot (w := w) (hc0.trans rfl)
    simpa [Addr.add] using this
  subst hsp
  have hlt : b < w.heap.size := by
    have := World.block_lt_of_cell? w _ (hc0.trans rfl)
    rwa [add_block] at this
  have at_ : ∀ (i : Nat) v, i < 4 → [Value.int .i64 z0, .int .i64 z1, .slice A5 l5.length p5, .slice A6 l6.length p6][i]? = some v → w.cell? ⟨b, o + i, none⟩ = some v := by
    intro i v hi5 hv
    rw [← add_flat, hat i hi5, hv]
  have hb5 := bulk_at (ys.map (·.1)) 2 (ys[2]'(by rw [hyl]; decide)).1 (by rw [List.getElem?_map, y2]; rfl)
  have hb6 := bulk_at (ys.map (·.1)) 3 (ys[3]'(by rw [hyl]; decide)).1 (by rw [List.getElem?_map, y3]; rfl)
  refine ⟨b, o, ⟨z0, z1, l5, l6⟩, rfl, hlt, ⟨at_ 0 _ (by omega) rfl, at_ 1 _ (by omega) rfl, ⟨A5, p5, at_ 2 _ (by omega) rfl, r5⟩, ⟨A6, p6, at_ 3 _ (by omega) rfl, r6⟩⟩, ?_, ?_⟩
  · rw [hy, Rows.uptoBulk]
    show l5.length ≤ _
    omega
  · rw [hy, Rows.uptoBulk]
    show l6.length ≤ _
    omega
theorem open_acts8 {d : DataW H} {p : List MemPlace} {base : Nat} (hok : Value.okWide Try.prog w .any base 22 v) (h : DataW.Trod enc Try.prog w 0 (fun _ => true) true 22 v d p) :
    ∃ (A : Option Addr) (l : List PAct8) (c : Nat), v = .slice A l.length c ∧ Acts8 w A l ∧ l.length ≤ Rows.uptoBulk d ∧ ∀ (k : Nat) (x : PAct8), l[k]? = some x → x.wo.length ≤ Rows.uptoBulk d ∧ x.us.length ≤ Rows.uptoBulk d := by
  obtain ⟨a0, len, cap, rfl⟩ := okWide_slice Try.underlying22 hok
  obtain ⟨fuel, hf⟩ := h
  rcases open_slice Try.underlying22 hf with ⟨hcs, _⟩ | ⟨a, len', cap', m, n, D, Pl, hcs, _, hl, hm, hmm, hx, hi⟩
  · simp [Value.cells] at hcs
    obtain ⟨rfl, rfl, rfl⟩ := hcs
    exact ⟨none, [], 0, rfl, fun k x hk => by simp at hk, Nat.zero_le _, fun k x hk => by simp at hk⟩
  · simp [Value.cells] at hcs
    obtain ⟨rfl, rfl, rfl⟩ := hcs
    have hm' : m = cap := by simpa using hmm
    simp only [cells_act8] at hi
    obtain ⟨l, hll, hp⟩ := list_of (P := fun i x => ∃ b o, a.add (i * 4) = ⟨b, o, none⟩ ∧ b < w.heap.size ∧ Act8 w b o x ∧ x.wo.length ≤ Rows.uptoBulk (D i) ∧ x.us.length ≤ Rows.uptoBulk (D i)) len (fun i hil => by
      obtain ⟨cs', hc, ht⟩ := hi i (by omega)
      obtain ⟨b, o, x, q1, q2, q3, q4⟩ := open_act8 hc ht
      exact ⟨x, b, o, q1, q2, q3, q4⟩)
    simp only [Prod.mk.injEq] at hx
    have hlen := bulk_len (H := H) ((List.range len).map D)
    rw [List.length_map, List.length_range] at hlen
    refine ⟨some a, l, cap, by rw [hll], fun k x hk => ?_, ?_, fun k x hk => ?_⟩
    · obtain ⟨b, o, q1, q2, q3, _⟩ := hp k x hk
      have hk0 : k < l.length := (List.getElem?_eq_some_iff.1 hk).1
      obtain ⟨b', o', e0, _⟩ := hp 0 _ (List.getElem?_eq_getElem (by omega))
      have ea : a = ⟨b', o', none⟩ := by
        rw [← e0]
        simp [Addr.add]
      subst ea
      rw [add_flat] at q1
      cases q1
      exact ⟨_, _, rfl, q2, q3⟩
    · rw [hx.1, Rows.uptoBulk]
      omega
    · obtain ⟨b, o, _, _, _, q4, q5⟩ := hp k x hk
      have hkl : k < len := by rw [← hll]; exact (List.getElem?_eq_some_iff.1 hk).1
      have hb := bulk_at ((List.range len).map D) k (D k) (by rw [List.getElem?_map, List.getElem?_range hkl]; rfl)
      rw [hx.1, Rows.uptoBulk]
      exact ⟨by omega, by omega⟩
end
end Go.Proofs.Ytajpnjapfiffmaa
