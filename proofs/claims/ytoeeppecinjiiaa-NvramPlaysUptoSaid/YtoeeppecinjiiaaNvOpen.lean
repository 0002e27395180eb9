/-
  Arguments opened: a list of acts, with its bulk.
-/
import Derived.Test.YtoeeppecinjiiaaZOpen
import Derived.Test.YtoeeppecinjiiaaNv15
import Derived.Deep.Slices
import Derived.Deep.Fields
import Derived.ChangeSame
namespace Go.Proofs.Ytoeeppecinjiiaa
open Go.ChangeShapes Go.WideShapes Go.ChangeAt Go.ChangeMaps Go.RowKit Go.Joins Go.Deep

theorem cells_int : Try.prog.cellsOf 3 = 1 := by kernel_rfl
theorem cells_bytes : Try.prog.cellsOf 35 = 1 := by kernel_rfl
theorem cells_ints : Try.prog.cellsOf 34 = 1 := by kernel_rfl
theorem cells_act : Try.prog.cellsOf 37 = 5 := by kernel_rfl
theorem bulk_one {H : Type} : ∀ d : DataW H, 1 ≤ Rows.uptoBulk d
  | .lit l => by cases l <;> simp [Rows.uptoBulk]
  | .nil => by simp [Rows.uptoBulk]
  | .ptr _ | .slice _ _ | .agg _ | .iface _ _ | .map _ => by rw [Rows.uptoBulk]; omega
  | .held _ => by simp [Rows.uptoBulk]
theorem bulk_len {H : Type} : ∀ l : List (DataW H), l.length ≤ Rows.uptoBulkAll l
  | [] => Nat.zero_le _
  | d :: l => by
    have h1 := bulk_one d
    have h2 := bulk_len l
    rw [Rows.uptoBulkAll, List.length_cons]
    omega
theorem bulk_at {H : Type} : ∀ (l : List (DataW H)) (i : Nat) d, l[i]? = some d → Rows.uptoBulk d ≤ Rows.uptoBulkAll l
  | [], _, _, h => by simp at h
  | x :: l, 0, d, h => by
    simp at h
    subst h
    rw [Rows.uptoBulkAll]
    omega
  | x :: l, i + 1, d, h => by
    have := bulk_at l i d (by simpa using h)
    rw [Rows.uptoBulkAll]
    omega
theorem list_of {α : Type} {P : Nat → α → Prop} : ∀ n : Nat, (∀ i, i < n → ∃ x, P i x) → ∃ l : List α, l.length = n ∧ ∀ i x, l[i]? = some x → P i x
  | 0, _ => ⟨[], rfl, fun i x h => by simp at h⟩
  | n + 1, h => by
    obtain ⟨l, hl, hp⟩ := list_of n (fun i hi => h i (Nat.lt_succ_of_lt hi))
    obtain ⟨x, hx⟩ := h n (Nat.lt_succ_self n)
    refine ⟨l ++ [x], by simp [hl], fun i y hy => ?_⟩
    by_cases hi : i < l.length
    · rw [List.getElem?_append_left hi] at hy
      exact hp i y hy
    · rw [List.getElem?_append_right (by omega)] at hy
      have h0 : i - l.length = 0 := by
        have := (List.getElem?_eq_some_iff.1 hy).1
        simp at this
        omega
      rw [h0] at hy
      simp at hy
      subst hy
      obtain rfl : i = n := by omega
      exact hx

section
variable {H : Type} {enc : TypeId × Value → H} {w : World} {n : Nat} {v : Value} {y : DataW H × List MemPlace}
theorem cell_i64 (h : DataW.trod enc Try.prog w 0 (fun _ => true) true n 3 [v] = some y) : ∃ z : Int, v = .int .i64 z ∧ -9223372036854775808 ≤ z ∧ z ≤ 9223372036854775807 := by
  obtain ⟨z, e, _, hw⟩ := DataW.trod_int Try.underlying3 h
  have hb := bounds_i64 hw
  cases e
  exact ⟨z, rfl, by omega, by omega⟩
theorem cell_ints2 (h : DataW.trod enc Try.prog w 0 (fun _ => true) true n 34 [v] = some y) : ∃ (A : Option Addr) (l : List Int) (c : Nat), v = .slice A l.length c ∧ RI w w.heap.size A l ∧ l.length ≤ c ∧ c ≤ maxLen ∧ l.length ≤ Rows.uptoBulk y.1 := by
  rcases open_ints Try.underlying34 Try.underlying3 cells_int h with ⟨hcs, _⟩ | ⟨x, l, c, zs, hcs, _, hl, hm, hz, hy, hcell, _⟩
  · cases hcs
    exact ⟨none, [], 0, rfl, RI.nil _ _ _, Nat.le_refl _, Nat.zero_le _, Nat.zero_le _⟩
  · cases hcs
    have hz' : zs.length = c := by simpa using hz
    have hlen : (zs.take l).length = l := by simp; omega
    refine ⟨some x, zs.take l, c, by rw [hlen], fun k z hz1 => ?_, by rw [hlen]; exact hl, hm, ?_⟩
    · rw [List.getElem?_take] at hz1
      split at hz1
      · have hk : k < zs.length := (List.getElem?_eq_some_iff.1 hz1).1
        have hc := hcell k hk
        have hg : zs.getD k 0 = z := by simp [List.getD, hz1]
        rw [hg] at hc
        have hlt := World.block_lt_of_cell? w _ hc
        rw [add_block] at hlt
        exact ⟨x, rfl, hlt, hc⟩
      · cases hz1
    · rw [hy, Rows.uptoBulk]
      have := bulk_len (H := H) (lits .i64 (zs.take l))
      have h2 : (lits (H := H) .i64 (zs.take l)).length = (zs.take l).length := by simp [lits]
      omega
theorem cell_bytes2 (h : DataW.trod enc Try.prog w 0 (fun _ => true) true n 35 [v] = some y) : ∃ (A : Option Addr) (l : List UInt8) (c : Nat), v = .slice A l.length c ∧ RB w w.heap.size A l ∧ l.length ≤ c ∧ c ≤ maxLen ∧ l.length ≤ Rows.uptoBulk y.1 := by
  rcases open_ints Try.underlying35 Try.underlying5 (by kernel_rfl) h with ⟨hcs, _⟩ | ⟨x, l, c, zs, hcs, _, hl, hm, hz, hy, hcell, hwz⟩
  · cases hcs
    exact ⟨none, [], 0, rfl, RB.nil _ _ _, Nat.le_refl _, Nat.zero_le _, Nat.zero_le _⟩
  · cases hcs
    have hz' : zs.length = c := by simpa using hz
    have hlen : ((zs.take l).map fun z => UInt8.ofNat z.toNat).length = l := by simp; omega
    refine ⟨some x, (zs.take l).map fun z => UInt8.ofNat z.toNat, c, by rw [hlen], fun k u hu => ?_, by rw [hlen]; exact hl, hm, ?_⟩
    · rw [List.getElem?_map, Option.map_eq_some_iff] at hu
      obtain ⟨z, hz1, rfl⟩ := hu
      rw [List.getElem?_take] at hz1
      split at hz1
      · have hk : k < zs.length := (List.getElem?_eq_some_iff.1 hz1).1
        have hzk : zs[k] = z := by rw [List.getElem?_eq_getElem hk] at hz1; exact Option.some.inj hz1
        have hc := hcell k hk
        have hg : zs.getD k 0 = z := by simp [List.getD, hz1]
        rw [hg] at hc
        have hb := bounds_u8 (hwz z (by rw [← hzk]; exact List.getElem_mem hk))
        have hlt := World.block_lt_of_cell? w _ hc
        rw [add_block] at hlt
        refine ⟨x, rfl, hlt, ?_⟩
        rw [hc]
        have : ((UInt8.ofNat z.toNat).toNat : Int) = z := by rw [UInt8.toNat_ofNat']; omega
        unfold bv
        rw [this]
      · cases hz1
    · rw [hy, Rows.uptoBulk]
      have := bulk_len (H := H) (lits .u8 (zs.take l))
      have h2 : (lits (H := H) .u8 (zs.take l)).length = (zs.take l).length := by simp [lits]
      rw [List.length_map]
      omega

/-- what is known of an act besides its place -/
def ActOk (B : Nat) (x : PAct) : Prop := (-9223372036854775808 ≤ x.place ∧ x.place ≤ 9223372036854775807 ∧ x.num ≤ 9223372036854775807) ∧ x.bytes.length ≤ B ∧ x.picks.length ≤ B
theorem open_act {a : Addr} {cs : List Value} (hc : w.cells? 0 a 5 = some cs) (h : DataW.trod enc Try.prog w 0 (fun _ => true) true n 37 cs = some y) :
    ∃ (b o : Nat) (x : PAct), a = ⟨b, o, none⟩ ∧ b < w.heap.size ∧ ActAt w b o x ∧ ActOk (Rows.uptoBulk y.1) x := by
  obtain ⟨_, hcl, hat⟩ := World.cells?_some hc
  obtain ⟨ys, n', hn', hy, _, hyl, hf⟩ := DataW.trod_struct Try.underlying37 h
  match cs, hcl with
  | [c0, c1, c2, c3, c4], _ =>
  have f0 : DataW.trod enc Try.prog w 0 (fun _ => true) true n' 3 ((List.drop 0 [c0, c1, c2, c3, c4]).take (Try.prog.cellsOf 3)) = ys[0]? := hf 0 _ rfl
  rw [cells_int] at f0
  have y0 : ys[0]? = some (ys[0]'(by rw [hyl]; decide)) := List.getElem?_eq_getElem _
  rw [y0] at f0
  have f1 : DataW.trod enc Try.prog w 0 (fun _ => true) true n' 3 ((List.drop 1 [c0, c1, c2, c3, c4]).take (Try.prog.cellsOf 3)) = ys[1]? := hf 1 _ rfl
  rw [cells_int] at f1
  have y1 : ys[1]? = some (ys[1]'(by rw [hyl]; decide)) := List.getElem?_eq_getElem _
  rw [y1] at f1
  have f2 : DataW.trod enc Try.prog w 0 (fun _ => true) true n' 3 ((List.drop 2 [c0, c1, c2, c3, c4]).take (Try.prog.cellsOf 3)) = ys[2]? := hf 2 _ rfl
  rw [cells_int] at f2
  have y2 : ys[2]? = some (ys[2]'(by rw [hyl]; decide)) := List.getElem?_eq_getElem _
  rw [y2] at f2
  have f3 : DataW.trod enc Try.prog w 0 (fun _ => true) true n' 35 ((List.drop 3 [c0, c1, c2, c3, c4]).take (Try.prog.cellsOf 35)) = ys[3]? := hf 3 _ rfl
  rw [cells_bytes] at f3
  have y3 : ys[3]? = some (ys[3]'(by rw [hyl]; decide)) := List.getElem?_eq_getElem _
  rw [y3] at f3
  have f4 : DataW.trod enc Try.prog w 0 (fun _ => true) true n' 34 ((List.drop 4 [c0, c1, c2, c3, c4]).take (Try.prog.cellsOf 34)) = ys[4]? := hf 4 _ rfl
  rw [cells_ints] at f4
  have y4 : ys[4]? = some (ys[4]'(by rw [hyl]; decide)) := List.getElem?_eq_getElem _
  rw [y4] at f4
  obtain ⟨z0, rfl, _, _⟩ := cell_i64 f0
  obtain ⟨z1, rfl, lo, hi⟩ := cell_i64 f1
  obtain ⟨z2, rfl, _, hi2⟩ := cell_i64 f2
  obtain ⟨A5, l5, p5, rfl, r5, s5, t5, u5⟩ := cell_bytes2 f3
  obtain ⟨A6, l6, p6, rfl, r6, s6, t6, u6⟩ := cell_ints2 f4
  obtain ⟨b, o, sp⟩ := a
  have hc0 := hat 0 (by omega)
  have hsp : sp = none := by
    have := World.cell?_spot (w := w) (hc0.trans rfl)
    simpa [Addr.add] using this
  subst hsp
  have hlt : b < w.heap.size := by
    have := World.block_lt_of_cell? w _ (hc0.trans rfl)
    rwa [add_block] at this
  have at_ : ∀ (i : Nat) v, i < 5 → [Value.int .i64 z0, .int .i64 z1, .int .i64 z2, .slice A5 l5.length p5, .slice A6 l6.length p6][i]? = some v → w.cell? ⟨b, o + i, none⟩ = some v := by
    intro i v hi5 hv
    rw [← add_flat, hat i hi5, hv]
  have hb5 := bulk_at (ys.map (·.1)) 3 (ys[3]'(by rw [hyl]; decide)).1 (by rw [List.getElem?_map, y3]; rfl)
  have hb6 := bulk_at (ys.map (·.1)) 4 (ys[4]'(by rw [hyl]; decide)).1 (by rw [List.getElem?_map, y4]; rfl)
  refine ⟨b, o, ⟨z0, z1, z2, l5, l6⟩, rfl, hlt, ⟨at_ 0 _ (by omega) rfl, at_ 1 _ (by omega) rfl, at_ 2 _ (by omega) rfl, ⟨A5, p5, at_ 3 _ (by omega) rfl, r5, s5, t5⟩, ⟨A6, p6, at_ 4 _ (by omega) rfl, r6, s6, t6⟩⟩, ⟨lo, hi, hi2⟩, ?_, ?_⟩
  · rw [hy, Rows.uptoBulk]
    show l5.length ≤ _
    omega
  · rw [hy, Rows.uptoBulk]
    show l6.length ≤ _
    omega
theorem open_acts {d : DataW H} {p : List MemPlace} {base : Nat} (hok : Value.okWide Try.prog w .any base 22 v) (h : DataW.Trod enc Try.prog w 0 (fun _ => true) true 22 v d p) :
    ∃ (A : Option Addr) (l : List PAct) (c : Nat), v = .slice A l.length c ∧ ActsAt w A l ∧ l.length ≤ Rows.uptoBulk d ∧ ∀ (k : Nat) (x : PAct), l[k]? = some x → ActOk (Rows.uptoBulk d) x := by
  obtain ⟨a0, len, cap, rfl⟩ := okWide_slice Try.underlying22 hok
  obtain ⟨fuel, hf⟩ := h
  rcases open_slice Try.underlying22 hf with ⟨hcs, _⟩ | ⟨a, len', cap', m, n, D, Pl, hcs, _, hl, hm, hmm, hx, hi⟩
  · simp [Value.cells] at hcs
    obtain ⟨rfl, rfl, rfl⟩ := hcs
    exact ⟨none, [], 0, rfl, fun k x hk => by simp at hk, Nat.zero_le _, fun k x hk => by simp at hk⟩
  · simp [Value.cells] at hcs
    obtain ⟨rfl, rfl, rfl⟩ := hcs
    have hm' : m = cap := by simpa using hmm
    simp only [cells_act] at hi
    obtain ⟨l, hll, hp⟩ := list_of (P := fun i x => ∃ b o, a.add (i * 5) = ⟨b, o, none⟩ ∧ b < w.heap.size ∧ ActAt w b o x ∧ ActOk (Rows.uptoBulk (D i)) x) len (fun i hil => by
      obtain ⟨cs', hc, ht⟩ := hi i (by omega)
      obtain ⟨b, o, x, q1, q2, q3, q4⟩ := open_act hc ht
      exact ⟨x, b, o, q1, q2, q3, q4⟩)
    simp only [Prod.mk.injEq] at hx
    have hlen := bulk_len (H := H) ((List.range len).map D)
    rw [List.length_map, List.length_range] at hlen
    refine ⟨some a, l, cap, by rw [hll], fun k x hk => ?_, ?_, fun k x hk => ?_⟩
    · obtain ⟨b, o, q1, q2, q3, _⟩ := hp k x hk
      have hk0 : k < l.length := (List.getElem?_eq_some_iff.1 hk).1
      obtain ⟨b', o', e0, _⟩ := hp 0 _ (List.getElem?_eq_getElem (by omega))
      have ea : a = ⟨b', o', none⟩ := by
        rw [← e0]
        simp [Addr.add]
      subst ea
      rw [add_flat] at q1
      cases q1
      exact ⟨_, _, rfl, q2, q3⟩
    · rw [hx.1, Rows.uptoBulk]
      omega
    · obtain ⟨b, o, _, _, _, q4⟩ := hp k x hk
      have hkl : k < len := by rw [← hll]; exact (List.getElem?_eq_some_iff.1 hk).1
      have hb := bulk_at ((List.range len).map D) k (D k) (by rw [List.getElem?_map, List.getElem?_range hkl]; rfl)
      rw [hx.1, Rows.uptoBulk]
      obtain ⟨q5, q6, q7⟩ := q4
      exact ⟨q5, by omega, by omega⟩
end
end Go.Proofs.Ytoeeppecinjiiaa
