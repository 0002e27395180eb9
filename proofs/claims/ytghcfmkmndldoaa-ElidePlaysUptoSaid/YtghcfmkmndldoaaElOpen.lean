/-
  Arguments opened: texts, numbers, elisions with their bulk.
-/
import Derived.Test.YtghcfmkmndldoaaRows
import Derived.Test.YtghcfmkmndldoaaKEl13
import Derived.Lib.SmallJoins
import Derived.ChangeOld
import Derived.ChangeMaps5
import Derived.SliceStrings
import Derived.Deep.Matrix
import Derived.ProofKit
import Derived.OpenShut
import Derived.Deep.DeepHandedRow
import Derived.Deep.Slices
import Derived.Deep.Fields
import Derived.ChangeSame
namespace Go.Proofs.Ytghcfmkmndldoaa
set_option maxRecDepth 20000
open Go.ChangeShapes Go.WideShapes Go.ChangeAt Go.ChangeMaps Go.RowKit Go.Joins Go.Deep

theorem ownKnob_none : ownKnob Try.prog.godebug = none := by kernel_rfl
theorem laidOut_true : laidOutB Try.prog = true := by kernel_rfl
/-- a world for the witness -/
noncomputable def laidWorld (os : Os) : World := World.holding Try.prog os ⟨#[], #[], []⟩

section
set_option maxRecDepth 20000
variable {H : Type} {enc : TypeId × Value → H} {w : World} {base : Nat} {v : Value} {d : DataW H} {p : List MemPlace}

theorem open_i64 (hok : Value.okWide Try.prog w .any base 3 v) (h : DataW.Trod enc Try.prog w 0 (fun _ => true) true 3 v d p) : ∃ x : Int, v = .int .i64 x ∧ -9223372036854775808 ≤ x ∧ x ≤ 9223372036854775807 := by
  obtain ⟨a, rfl, _, _, wa⟩ := open_int Try.underlying3 hok h
  have ba := bounds_i64 wa
  exact ⟨a, rfl, by omega, by omega⟩
/-- a reading lies below the heap's end -/
theorem trod_lt' {t : TypeId} (h : DataW.Trod enc Try.prog w 0 (fun _ => true) true t v d p) : ∀ x ∈ p, x.block < w.heap.size := by
  obtain ⟨m, hm⟩ := h
  exact DataW.trod_lt m _ _ _ hm
theorem open_str (hok : Value.okWide Try.prog w .any base 9 v) (h : DataW.Trod enc Try.prog w 0 (fun _ => true) true 9 v d p) : ∃ s : ByteArray, v = .string s ∧ s.size ≤ maxLen := by
  obtain ⟨s, h1, _, _, h2⟩ := open_string Try.underlying9 hok h
  exact ⟨s, h1, h2⟩
theorem open_u64 (hok : Value.okWide Try.prog w .any base 24 v) (h : DataW.Trod enc Try.prog w 0 (fun _ => true) true 24 v d p) : ∃ x : Nat, v = .int .u64 (x : Int) ∧ x < 18446744073709551616 := by
  obtain ⟨a, rfl, _, _, wa⟩ := open_int Try.underlying24 hok h
  have ba := bounds_u64 wa
  obtain ⟨x, rfl⟩ := Int.eq_ofNat_of_zero_le ba.1
  exact ⟨x, rfl, by omega⟩
end
theorem cells_str : Try.prog.cellsOf 9 = 1 := by kernel_rfl
theorem cells_u64 : Try.prog.cellsOf 24 = 1 := by kernel_rfl
theorem cells_elision : Try.prog.cellsOf 32 = 3 := by kernel_rfl
theorem bulk_one {H : Type} : ∀ d : DataW H, 1 ≤ Rows.uptoBulk d
  | .lit l => by cases l <;> simp [Rows.uptoBulk]
  | .nil => by simp [Rows.uptoBulk]
  | .ptr _ | .slice _ _ | .agg _ | .iface _ _ | .map _ => by rw [Rows.uptoBulk]; omega
  | .held _ => by simp [Rows.uptoBulk]
theorem bulk_len {H : Type} : ∀ l : List (DataW H), l.length ≤ Rows.uptoBulkAll l
  | [] => Nat.zero_le _
  | d :: l => by
    have h1 := bulk_one d
    have h2 := bulk_len l
    rw [Rows.uptoBulkAll, List.length_cons]
    omega
theorem bulk_at {H : Type} : ∀ (l : List (DataW H)) (i : Nat) d, l[i]? = some d → Rows.uptoBulk d ≤ Rows.uptoBulkAll l
  | [], _, _, h => by simp at h
  | x :: l, 0, d, h => by
    simp at h
    subst h
    rw [Rows.uptoBulkAll]
    omega
  | x :: l, i + 1, d, h => by
    have := bulk_at l i d (by simpa using h)
    rw [Rows.uptoBulkAll]
    omega
theorem list_of {α : Type} {P : Nat → α → Prop} : ∀ n : Nat, (∀ i, i < n → ∃ x, P i x) → ∃ l : List α, l.length = n ∧ ∀ i x, l[i]? = some x → P i x
  | 0, _ => ⟨[], rfl, fun i x h => by simp at h⟩
  | n + 1, h => by
    obtain ⟨l, hl, hp⟩ := list_of n (fun i hi => h i (Nat.lt_succ_of_lt hi))
    obtain ⟨x, hx⟩ := h n (Nat.lt_succ_self n)
    refine ⟨l ++ [x], by simp [hl], fun i y hy => ?_⟩
    by_cases hi : i < l.length
    · rw [List.getElem?_append_left hi] at hy
      exact hp i y hy
    · rw [List.getElem?_append_right (by omega)] at hy
      have h0 : i - l.length = 0 := by
        have := (List.getElem?_eq_some_iff.1 hy).1
        simp at this
        omega
      rw [h0] at hy
      simp at hy
      subst hy
      obtain rfl : i = n := by omega
      exact hx

section
variable {H : Type} {enc : TypeId × Value → H} {w : World} {n : Nat} {v : Value} {y : DataW H × List MemPlace}
theorem open_elision {a : Addr} {cs : List Value} (hc : w.cells? 0 a 3 = some cs) (h : DataW.trod enc Try.prog w 0 (fun _ => true) true n 32 cs = some y) :
    ∃ (b o : Nat) (f : Ec), a = ⟨b, o, none⟩ ∧ b < w.heap.size ∧ w.cell? ⟨b, o, none⟩ = some (.string f.1) ∧ w.cell? ⟨b, o + 1, none⟩ = some (.string f.2.1) ∧ w.cell? ⟨b, o + 2, none⟩ = some (.int .u64 (f.2.2 : Int)) ∧ f.1.size ≤ Rows.uptoBulk y.1 ∧ f.2.1.size ≤ Rows.uptoBulk y.1 := by
  obtain ⟨_, hcl, hat⟩ := World.cells?_some hc
  obtain ⟨ys, n', hn', hy, _, hyl, hf⟩ := DataW.trod_struct Try.underlying32 h
  match cs, hcl with
  | [c0, c1, c2], _ =>
  have f0 : DataW.trod enc Try.prog w 0 (fun _ => true) true n' 9 ((List.drop 0 [c0, c1, c2]).take (Try.prog.cellsOf 9)) = ys[0]? := hf 0 _ rfl
  rw [cells_str] at f0
  have y0 : ys[0]? = some (ys[0]'(by rw [hyl]; decide)) := List.getElem?_eq_getElem _
  rw [y0] at f0
  have f1 : DataW.trod enc Try.prog w 0 (fun _ => true) true n' 9 ((List.drop 1 [c0, c1, c2]).take (Try.prog.cellsOf 9)) = ys[1]? := hf 1 _ rfl
  rw [cells_str] at f1
  have y1 : ys[1]? = some (ys[1]'(by rw [hyl]; decide)) := List.getElem?_eq_getElem _
  rw [y1] at f1
  have f2 : DataW.trod enc Try.prog w 0 (fun _ => true) true n' 24 ((List.drop 2 [c0, c1, c2]).take (Try.prog.cellsOf 24)) = ys[2]? := hf 2 _ rfl
  rw [cells_u64] at f2
  have y2 : ys[2]? = some (ys[2]'(by rw [hyl]; decide)) := List.getElem?_eq_getElem _
  rw [y2] at f2
  obtain ⟨k, e0, e0y, _⟩ := DataW.trod_string Try.underlying9 f0
  cases e0
  obtain ⟨k2, e1, e1y, _⟩ := DataW.trod_string Try.underlying9 f1
  cases e1
  obtain ⟨z, e2, _, wz⟩ := DataW.trod_int Try.underlying24 f2
  cases e2
  have bz := bounds_u64 wz
  obtain ⟨s, rfl⟩ := Int.eq_ofNat_of_zero_le bz.1
  obtain ⟨b, o, sp⟩ := a
  have hc0 := hat 0 (by omega)
  have hsp : sp = none := by
    have := World.cell?_spot (w := w) (hc0.trans rfl)
    simpa [Addr.add] using this
  subst hsp
  have hlt : b < w.heap.size := by
    have := World.block_lt_of_cell? w _ (hc0.trans rfl)
    rwa [add_block] at this
  have at_ : ∀ (i : Nat) v, i < 3 → [Value.string k, .string k2, .int .u64 (s : Int)][i]? = some v → w.cell? ⟨b, o + i, none⟩ = some v := by
    intro i v hi5 hv
    rw [← add_flat, hat i hi5, hv]
  have hb0 := bulk_at (ys.map (·.1)) 0 (ys[0]'(by rw [hyl]; decide)).1 (by rw [List.getElem?_map, y0]; rfl)
  have hb1 := bulk_at (ys.map (·.1)) 1 (ys[1]'(by rw [hyl]; decide)).1 (by rw [List.getElem?_map, y1]; rfl)
  refine ⟨b, o, (k, k2, s), rfl, hlt, at_ 0 _ (by omega) rfl, at_ 1 _ (by omega) rfl, at_ 2 _ (by omega) rfl, ?_, ?_⟩
  · rw [hy, Rows.uptoBulk]
    rw [e0y] at hb0
    have hk : k.data.toList.length = k.size := by rw [Array.length_toList]; rfl
    dsimp only at hb0
    rw [Rows.uptoBulk] at hb0
    show k.size ≤ _
    omega
  · rw [hy, Rows.uptoBulk]
    rw [e1y] at hb1
    have hk : k2.data.toList.length = k2.size := by rw [Array.length_toList]; rfl
    dsimp only at hb1
    rw [Rows.uptoBulk] at hb1
    show k2.size ≤ _
    omega
theorem open_elisions {d : DataW H} {p : List MemPlace} {base : Nat} (hok : Value.okWide Try.prog w .any base 22 v) (h : DataW.Trod enc Try.prog w 0 (fun _ => true) true 22 v d p) :
    ∃ (A : Option Addr) (l : List Ec) (c : Nat), v = .slice A l.length c ∧ RE w w.heap.size A l ∧ l.length ≤ c ∧ l.length ≤ Rows.uptoBulk d ∧ ∀ (k : Nat) (f : Ec), l[k]? = some f → f.1.size ≤ Rows.uptoBulk d ∧ f.2.1.size ≤ Rows.uptoBulk d := by
  obtain ⟨a0, len, cap, rfl⟩ := okWide_slice Try.underlying22 hok
  obtain ⟨fuel, hf⟩ := h
  rcases open_slice Try.underlying22 hf with ⟨hcs, _⟩ | ⟨a, len', cap', m, n, D, Pl, hcs, _, hl, hm, hmm, hx, hi⟩
  · simp [Value.cells] at hcs
    obtain ⟨rfl, rfl, rfl⟩ := hcs
    exact ⟨none, [], 0, rfl, RE.nil _ _ _, Nat.le_refl _, Nat.zero_le _, fun k x hk => by simp at hk⟩
  · simp [Value.cells] at hcs
    obtain ⟨rfl, rfl, rfl⟩ := hcs
    have hm' : m = cap := by simpa using hmm
    simp only [cells_elision] at hi
    obtain ⟨l, hll, hp⟩ := list_of (P := fun i (q : Ec) => ∃ b o, a.add (i * 3) = ⟨b, o, none⟩ ∧ b < w.heap.size ∧ w.cell? ⟨b, o, none⟩ = some (.string q.1) ∧ w.cell? ⟨b, o + 1, none⟩ = some (.string q.2.1) ∧ w.cell? ⟨b, o + 2, none⟩ = some (.int .u64 (q.2.2 : Int)) ∧ q.1.size ≤ Rows.uptoBulk (D i) ∧ q.2.1.size ≤ Rows.uptoBulk (D i)) len (fun i hil => by
      obtain ⟨cs', hc, ht⟩ := hi i (by omega)
      obtain ⟨b, o, f, q1, q2, q3⟩ := open_elision hc ht
      exact ⟨f, b, o, q1, q2, q3⟩)
    simp only [Prod.mk.injEq] at hx
    have hlen := bulk_len (H := H) ((List.range len).map D)
    rw [List.length_map, List.length_range] at hlen
    refine ⟨some a, l, cap, by rw [hll], fun k q hk => ?_, by rw [hll]; omega, ?_, fun k f hk => ?_⟩
    · obtain ⟨b, o, q1, q2, q3, q4, q5, _⟩ := hp k q hk
      have hk0 : k < l.length := (List.getElem?_eq_some_iff.1 hk).1
      obtain ⟨b', o', e0, _⟩ := hp 0 _ (List.getElem?_eq_getElem (by omega))
      have ea : a = ⟨b', o', none⟩ := by
        rw [← e0]
        simp [Addr.add]
      subst ea
      rw [add_flat] at q1
      cases q1
      exact ⟨_, _, rfl, q2, q3, q4, q5⟩
    · rw [hll, hx.1, Rows.uptoBulk]
      omega
    · obtain ⟨b, o, _, _, _, _, _, q8, q9⟩ := hp k f hk
      have hkl : k < len := by rw [← hll]; exact (List.getElem?_eq_some_iff.1 hk).1
      have hb := bulk_at ((List.range len).map D) k (D k) (by rw [List.getElem?_map, List.getElem?_range hkl]; rfl)
      rw [hx.1, Rows.uptoBulk]
      constructor <;> omega
theorem sumE_bound (B : Nat) : ∀ (l : List Ec), (∀ f ∈ l, f.1.size ≤ B ∧ f.2.1.size ≤ B) → sumE l ≤ l.length * (B + B)
  | [], _ => Nat.zero_le _
  | f :: l, h => by
    have h1 := sumE_bound B l fun g hg => h g (List.mem_cons_of_mem _ hg)
    have h2 := h f List.mem_cons_self
    have e : sumE (f :: l) = f.1.size + f.2.1.size + sumE l := by simp [sumE]
    rw [e, List.length_cons, Nat.add_mul]
    omega
/-- the sum of the texts, where the bulk is bounded -/
theorem sum_of {B : Nat} {l : List Ec} (h3 : l.length ≤ B) (h4 : ∀ (k : Nat) (f : Ec), l[k]? = some f → f.1.size ≤ B ∧ f.2.1.size ≤ B) (hB : B ≤ 1048576) : sumE l ≤ 4611686018427387904 := by
  have hm : ∀ f ∈ l, f.1.size ≤ B ∧ f.2.1.size ≤ B := fun f hf => by
    obtain ⟨k, hk⟩ := List.getElem?_of_mem hf
    exact h4 k f hk
  have := sumE_bound B l hm
  have h5 : l.length * (B + B) ≤ 1048576 * (1048576 + 1048576) := Nat.mul_le_mul (by omega) (by omega)
  omega
end
end Go.Proofs.Ytghcfmkmndldoaa
