/-
  Arguments opened: rows of bytes, bytes, numbers, with their bulk (beside SgOpenA).
-/
import Derived.Test.YtlficcdbnmheeaaDoorSgOpenA
import Derived.Test.YtlficcdbnmheeaaDoorKGf8
import Derived.Deep.Slices
import Derived.Deep.Fields
import Derived.ChangeSame
namespace Go.Proofs.YtlficcdbnmheeaaDoor
set_option maxRecDepth 20000
open Go.ChangeShapes Go.WideShapes Go.ChangeAt Go.ChangeMaps Go.RowKit Go.Joins Go.Deep

theorem cells_int : Tryd.prog.cellsOf 3 = 1 := by kernel_rfl
theorem cells_bytes : Tryd.prog.cellsOf 25 = 1 := by kernel_rfl
theorem cells_ints : Tryd.prog.cellsOf 70 = 1 := by kernel_rfl
theorem bulk_one {H : Type} : ∀ d : DataW H, 1 ≤ Rows.uptoBulk d
  | .lit l => by cases l <;> simp [Rows.uptoBulk]
  | .nil => by simp [Rows.uptoBulk]
  | .ptr _ | .slice _ _ | .agg _ | .iface _ _ | .map _ => by rw [Rows.uptoBulk]; omega
  | .held _ => by simp [Rows.uptoBulk]
theorem bulk_len {H : Type} : ∀ l : List (DataW H), l.length ≤ Rows.uptoBulkAll l
  | [] => Nat.zero_le _
  | d :: l => by
    have h1 := bulk_one d
    have h2 := bulk_len l
    rw [Rows.uptoBulkAll, List.length_cons]
    omega
theorem bulk_at {H : Type} : ∀ (l : List (DataW H)) (i : Nat) d, l[i]? = some d → Rows.uptoBulk d ≤ Rows.uptoBulkAll l
  | [], _, _, h => by simp at h
  | x :: l, 0, d, h => by
    simp at h
    subst h
    rw [Rows.uptoBulkAll]
    omega
  | x :: l, i + 1, d, h => by
    have := bulk_at l i d (by simpa using h)
    rw [Rows.uptoBulkAll]
    omega
theorem list_of {α : Type} {P : Nat → α → Prop} : ∀ n : Nat, (∀ i, i < n → ∃ x, P i x) → ∃ l : List α, l.length = n ∧ ∀ i x, l[i]? = some x → P i x
  | 0, _ => ⟨[], rfl, fun i x h => by simp at h⟩
  | n + 1, h => by
    obtain ⟨l, hl, hp⟩ := list_of n (fun i hi => h i (Nat.lt_succ_of_lt hi))
    obtain ⟨x, hx⟩ := h n (Nat.lt_succ_self n)
    refine ⟨l ++ [x], by simp [hl], fun i y hy => ?_⟩
    by_cases hi : i < l.length
    · rw [List.getElem?_append_left hi] at hy
      exact hp i y hy
    · rw [List.getElem?_append_right (by omega)] at hy
      have h0 : i - l.length = 0 := by
        have := (List.getElem?_eq_some_iff.1 hy).1
        simp at this
        omega
      rw [h0] at hy
      simp at hy
      subst hy
      obtain rfl : i = n := by omega
      exact hx

section
variable {H : Type} {enc : TypeId × Value → H} {w : World} {n : Nat} {v : Value} {y : DataW H × List MemPlace}
theorem cell_i64 (h : DataW.trod enc Tryd.prog w 0 (fun _ => true) true n 3 [v] = some y) : ∃ z : Int, v = .int .i64 z ∧ -9223372036854775808 ≤ z ∧ z ≤ 9223372036854775807 := by
  obtain ⟨z, e, _, hw⟩ := DataW.trod_int Tryd.underlying3 h
  have hb := bounds_i64 hw
  cases e
  exact ⟨z, rfl, by omega, by omega⟩
theorem cell_ints2 (h : DataW.trod enc Tryd.prog w 0 (fun _ => true) true n 70 [v] = some y) : ∃ (A : Option Addr) (l : List Int) (c : Nat), v = .slice A l.length c ∧ RI w w.heap.size A l ∧ l.length ≤ c ∧ c ≤ maxLen ∧ l.length ≤ Rows.uptoBulk y.1 := by
  rcases open_ints Tryd.underlying70 Tryd.underlying3 cells_int h with ⟨hcs, _⟩ | ⟨x, l, c, zs, hcs, _, hl, hm, hz, hy, hcell, _⟩
  · cases hcs
    exact ⟨none, [], 0, rfl, RI.nil _ _ _, Nat.le_refl _, Nat.zero_le _, Nat.zero_le _⟩
  · cases hcs
    have hz' : zs.length = c := by simpa using hz
    have hlen : (zs.take l).length = l := by simp; omega
    refine ⟨some x, zs.take l, c, by rw [hlen], fun k z hz1 => ?_, by rw [hlen]; exact hl, hm, ?_⟩
    · rw [List.getElem?_take] at hz1
      split at hz1
      · have hk : k < zs.length := (List.getElem?_eq_some_iff.1 hz1).1
        have hc := hcell k hk
        have hg : zs.getD k 0 = z := by simp [List.getD, hz1]
        rw [hg] at hc
        have hlt := World.block_lt_of_cell? w _ hc
        rw [add_block] at hlt
        exact ⟨x, rfl, hlt, hc⟩
      · cases hz1
    · rw [hy, Rows.uptoBulk]
      have := bulk_len (H := H) (lits .i64 (zs.take l))
      have h2 : (lits (H := H) .i64 (zs.take l)).length = (zs.take l).length := by simp [lits]
      omega
theorem cell_bytes2 (h : DataW.trod enc Tryd.prog w 0 (fun _ => true) true n 25 [v] = some y) : ∃ (A : Option Addr) (l : List UInt8) (c : Nat), v = .slice A l.length c ∧ RB w w.heap.size A l ∧ l.length ≤ c ∧ c ≤ maxLen ∧ l.length ≤ Rows.uptoBulk y.1 := by
  rcases open_ints Tryd.underlying25 Tryd.underlying5 (by kernel_rfl) h with ⟨hcs, _⟩ | ⟨x, l, c, zs, hcs, _, hl, hm, hz, hy, hcell, hwz⟩
  · cases hcs
    exact ⟨none, [], 0, rfl, RB.nil _ _ _, Nat.le_refl _, Nat.zero_le _, Nat.zero_le _⟩
  · cases hcs
    have hz' : zs.length = c := by simpa using hz
    have hlen : ((zs.take l).map fun z => UInt8.ofNat z.toNat).length = l := by simp; omega
    refine ⟨some x, (zs.take l).map fun z => UInt8.ofNat z.toNat, c, by rw [hlen], fun k u hu => ?_, by rw [hlen]; exact hl, hm, ?_⟩
    · rw [List.getElem?_map, Option.map_eq_some_iff] at hu
      obtain ⟨z, hz1, rfl⟩ := hu
      rw [List.getElem?_take] at hz1
      split at hz1
      · have hk : k < zs.length := (List.getElem?_eq_some_iff.1 hz1).1
        have hzk : zs[k] = z := by rw [List.getElem?_eq_getElem hk] at hz1; exact Option.some.inj hz1
        have hc := hcell k hk
        have hg : zs.getD k 0 = z := by simp [List.getD, hz1]
        rw [hg] at hc
        have hb := bounds_u8 (hwz z (by rw [← hzk]; exact List.getElem_mem hk))
        have hlt := World.block_lt_of_cell? w _ hc
        rw [add_block] at hlt
        refine ⟨x, rfl, hlt, ?_⟩
        rw [hc]
        have : ((UInt8.ofNat z.toNat).toNat : Int) = z := by rw [UInt8.toNat_ofNat']; omega
        unfold bv
        rw [this]
      · cases hz1
    · rw [hy, Rows.uptoBulk]
      have := bulk_len (H := H) (lits .u8 (zs.take l))
      have h2 : (lits (H := H) .u8 (zs.take l)).length = (zs.take l).length := by simp [lits]
      rw [List.length_map]
      omega


theorem open_rows {d : DataW H} {p : List MemPlace} {base : Nat} (hok : Value.okWide Tryd.prog w .any base 34 v) (h : DataW.Trod enc Tryd.prog w 0 (fun _ => true) true 34 v d p) :
    ∃ (A : Option Addr) (M : List (List UInt8)) (c : Nat), v = .slice A M.length c ∧ RM w w.heap.size A M ∧ M.length ≤ c ∧ M.length ≤ Rows.uptoBulk d ∧ ∀ (k : Nat) (l : List UInt8), M[k]? = some l → l.length ≤ Rows.uptoBulk d := by
  obtain ⟨a0, len, cap, rfl⟩ := okWide_slice Tryd.underlying34 hok
  obtain ⟨fuel, hf⟩ := h
  rcases open_slice Tryd.underlying34 hf with ⟨hcs, _⟩ | ⟨a, len', cap', m, n, D, Pl, hcs, _, hl, hm, hmm, hx, hi⟩
  · simp [Value.cells] at hcs
    obtain ⟨rfl, rfl, rfl⟩ := hcs
    exact ⟨none, [], 0, rfl, RM.nil _ _ _, Nat.le_refl _, Nat.zero_le _, fun k x hk => by simp at hk⟩
  · simp [Value.cells] at hcs
    obtain ⟨rfl, rfl, rfl⟩ := hcs
    have hm' : m = cap := by simpa using hmm
    simp only [cells_bytes] at hi
    obtain ⟨M, hll, hp⟩ := list_of (P := fun i (l : List UInt8) => ∃ (A' : Option Addr) (c' : Nat), (a.add (i * 1)).block < w.heap.size ∧ (a.add (i * 1)).spot = none ∧ w.cell? (a.add (i * 1)) = some (.slice A' l.length c') ∧ RB w w.heap.size A' l ∧ l.length ≤ c' ∧ l.length ≤ Rows.uptoBulk (D i)) len (fun i hil => by
      obtain ⟨cs', hc, ht⟩ := hi i (by omega)
      obtain ⟨_, hcl, hat⟩ := World.cells?_some hc
      match cs', hcl with
      | [c0], _ =>
      obtain ⟨A', l, c', rfl, r1, r2, _, r4⟩ := cell_bytes2 ht
      have h0 : w.cell? (a.add (i * 1)) = some (.slice A' l.length c') := by
        have := hat 0 (by omega)
        simpa [Addr.add] using this
      exact ⟨l, A', c', World.block_lt_of_cell? w _ h0, World.cell?_spot h0, h0, r1, r2, r4⟩)
    simp only [Prod.mk.injEq] at hx
    have hlen := bulk_len (H := H) ((List.range len).map D)
    rw [List.length_map, List.length_range] at hlen
    refine ⟨some a, M, cap, by rw [hll], fun k x hk => ?_, by rw [hll]; exact hl, ?_, fun k x hk => ?_⟩
    · obtain ⟨A', c', q1, q2, q3, q4, q5, _⟩ := hp k x hk
      have hk0 : k < M.length := (List.getElem?_eq_some_iff.1 hk).1
      obtain ⟨_, _, _, e2, _⟩ := hp 0 _ (List.getElem?_eq_getElem (by omega))
      obtain ⟨b, o, s⟩ := a
      have hs : s = none := by simpa [Addr.add] using e2
      subst hs
      rw [add_flat] at q1 q3
      rw [Nat.mul_one] at q3
      exact ⟨b, o, A', c', rfl, q1, q3, q4, q5⟩
    · rw [hx.1, Rows.uptoBulk]
      omega
    · obtain ⟨_, _, _, _, _, _, _, q4⟩ := hp k x hk
      have hkl : k < len := by rw [← hll]; exact (List.getElem?_eq_some_iff.1 hk).1
      have hb := bulk_at ((List.range len).map D) k (D k) (by rw [List.getElem?_map, List.getElem?_range hkl]; rfl)
      rw [hx.1, Rows.uptoBulk]
      omega
theorem open_bytesR {d : DataW H} {p : List MemPlace} {base : Nat} (hok : Value.okWide Tryd.prog w .any base 25 v) (h : DataW.Trod enc Tryd.prog w 0 (fun _ => true) true 25 v d p) :
    ∃ (A : Option Addr) (l : List UInt8) (c : Nat), v = .slice A l.length c ∧ RB w w.heap.size A l ∧ l.length ≤ c ∧ l.length ≤ Rows.uptoBulk d := by
  obtain ⟨a0, len, cap, rfl⟩ := okWide_slice Tryd.underlying25 hok
  obtain ⟨fuel, hf⟩ := h
  obtain ⟨A, l, c, e, h1, h2, _, h4⟩ := cell_bytes2 (y := (d, p)) hf
  exact ⟨A, l, c, e, h1, h2, h4⟩
theorem open_numsR {d : DataW H} {p : List MemPlace} {base : Nat} (hok : Value.okWide Tryd.prog w .any base 70 v) (h : DataW.Trod enc Tryd.prog w 0 (fun _ => true) true 70 v d p) :
    ∃ (A : Option Addr) (l : List Int) (c : Nat), v = .slice A l.length c ∧ RI w w.heap.size A l ∧ l.length ≤ c ∧ l.length ≤ Rows.uptoBulk d := by
  obtain ⟨a0, len, cap, rfl⟩ := okWide_slice Tryd.underlying70 hok
  obtain ⟨fuel, hf⟩ := h
  obtain ⟨A, l, c, e, h1, h2, _, h4⟩ := cell_ints2 (y := (d, p)) hf
  exact ⟨A, l, c, e, h1, h2, h4⟩
end
end Go.Proofs.YtlficcdbnmheeaaDoor
