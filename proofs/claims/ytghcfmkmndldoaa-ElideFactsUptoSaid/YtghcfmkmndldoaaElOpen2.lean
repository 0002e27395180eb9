/-
  Arguments opened: facts, with their bulk. (FaOpen's text, turned.)
-/
import Derived.Test.YtghcfmkmndldoaaElOpen
import Derived.Test.YtghcfmkmndldoaaEl25
namespace Go.Proofs.Ytghcfmkmndldoaa
set_option maxRecDepth 20000
open Go.ChangeShapes Go.WideShapes Go.ChangeAt Go.ChangeMaps Go.RowKit Go.Joins Go.Deep

theorem cells_bytesF : Try.prog.cellsOf 48 = 1 := by kernel_rfl
theorem cells_strF : Try.prog.cellsOf 9 = 1 := by kernel_rfl
theorem cells_u64F : Try.prog.cellsOf 24 = 1 := by kernel_rfl
theorem cells_fact : Try.prog.cellsOf 50 = 3 := by kernel_rfl
section
variable {H : Type} {enc : TypeId × Value → H} {w : World} {n : Nat} {v : Value} {y : DataW H × List MemPlace}
theorem cell_bytesF (h : DataW.trod enc Try.prog w 0 (fun _ => true) true n 48 [v] = some y) : ∃ (A : Option Addr) (l : List UInt8) (c : Nat), v = .slice A l.length c ∧ RB w w.heap.size A l ∧ l.length ≤ c ∧ (A = none → c = 0) ∧ l.length ≤ Rows.uptoBulk y.1 := by
  rcases open_ints Try.underlying48 Try.underlying5 (by kernel_rfl) h with ⟨hcs, _⟩ | ⟨x, l, c, zs, hcs, _, hl, hm, hz, hy, hcell, hwz⟩
  · cases hcs
    exact ⟨none, [], 0, rfl, RB.nil _ _ _, Nat.le_refl _, fun _ => rfl, Nat.zero_le _⟩
  · cases hcs
    have hz' : zs.length = c := by simpa using hz
    have hlen : ((zs.take l).map fun z => UInt8.ofNat z.toNat).length = l := by simp; omega
    refine ⟨some x, (zs.take l).map fun z => UInt8.ofNat z.toNat, c, by rw [hlen], fun k u hu => ?_, by rw [hlen]; exact hl, (fun e => by cases e), ?_⟩
    · rw [List.getElem?_map, Option.map_eq_some_iff] at hu
      obtain ⟨z, hz1, rfl⟩ := hu
      rw [List.getElem?_take] at hz1
      split at hz1
      · have hk : k < zs.length := (List.getElem?_eq_some_iff.1 hz1).1
        have hzk : zs[k] = z := by rw [List.getElem?_eq_getElem hk] at hz1; exact Option.some.inj hz1
        have hc := hcell k hk
        have hg : zs.getD k 0 = z := by simp [List.getD, hz1]
        rw [hg] at hc
        have hb := bounds_u8 (hwz z (by rw [← hzk]; exact List.getElem_mem hk))
        have hlt := World.block_lt_of_cell? w _ hc
        rw [add_block] at hlt
        refine ⟨x, rfl, hlt, ?_⟩
        rw [hc]
        have : ((UInt8.ofNat z.toNat).toNat : Int) = z := by rw [UInt8.toNat_ofNat']; omega
        unfold bv
        rw [this]
      · cases hz1
    · rw [hy, Rows.uptoBulk]
      have := bulk_len (H := H) (lits .u8 (zs.take l))
      have h2 : (lits (H := H) .u8 (zs.take l)).length = (zs.take l).length := by simp [lits]
      rw [List.length_map]
      omega
theorem open_fact {a : Addr} {cs : List Value} (hc : w.cells? 0 a 3 = some cs) (h : DataW.trod enc Try.prog w 0 (fun _ => true) true n 50 cs = some y) :
    ∃ (b o : Nat) (f : Fc) (V : Value), a = ⟨b, o, none⟩ ∧ b < w.heap.size ∧ w.cell? ⟨b, o, none⟩ = some (.string f.1) ∧ w.cell? ⟨b, o + 1, none⟩ = some (.int .u64 (f.2.1 : Int)) ∧ w.cell? ⟨b, o + 2, none⟩ = some V ∧ Vb w w.heap.size V f.2.2 ∧ f.2.1 < two64 ∧ f.1.size ≤ Rows.uptoBulk y.1 ∧ f.2.2.length ≤ Rows.uptoBulk y.1 := by
  obtain ⟨_, hcl, hat⟩ := World.cells?_some hc
  obtain ⟨ys, n', hn', hy, _, hyl, hf⟩ := DataW.trod_struct Try.underlying50 h
  match cs, hcl with
  | [c0, c1, c2], _ =>
  have f0 : DataW.trod enc Try.prog w 0 (fun _ => true) true n' 9 ((List.drop 0 [c0, c1, c2]).take (Try.prog.cellsOf 9)) = ys[0]? := hf 0 _ rfl
  rw [cells_strF] at f0
  have y0 : ys[0]? = some (ys[0]'(by rw [hyl]; decide)) := List.getElem?_eq_getElem _
  rw [y0] at f0
  have f1 : DataW.trod enc Try.prog w 0 (fun _ => true) true n' 24 ((List.drop 1 [c0, c1, c2]).take (Try.prog.cellsOf 24)) = ys[1]? := hf 1 _ rfl
  rw [cells_u64F] at f1
  have y1 : ys[1]? = some (ys[1]'(by rw [hyl]; decide)) := List.getElem?_eq_getElem _
  rw [y1] at f1
  have f2 : DataW.trod enc Try.prog w 0 (fun _ => true) true n' 48 ((List.drop 2 [c0, c1, c2]).take (Try.prog.cellsOf 48)) = ys[2]? := hf 2 _ rfl
  rw [cells_bytesF] at f2
  have y2 : ys[2]? = some (ys[2]'(by rw [hyl]; decide)) := List.getElem?_eq_getElem _
  rw [y2] at f2
  obtain ⟨k, e0, e0y, _⟩ := DataW.trod_string Try.underlying9 f0
  cases e0
  obtain ⟨z, e1, _, wz⟩ := DataW.trod_int Try.underlying24 f1
  cases e1
  obtain ⟨A5, l5, p5, rfl, r5, s5, t5, u5⟩ := cell_bytesF f2
  have bz := bounds_u64 wz
  obtain ⟨s, rfl⟩ := Int.eq_ofNat_of_zero_le bz.1
  obtain ⟨b, o, sp⟩ := a
  have hc0 := hat 0 (by omega)
  have hsp : sp = none := by
    have := World.cell?_spot (w := w) (hc0.trans rfl)
    simpa [Addr.add] using this
  subst hsp
  have hlt : b < w.heap.size := by
    have := World.block_lt_of_cell? w _ (hc0.trans rfl)
    rwa [add_block] at this
  have at_ : ∀ (i : Nat) v, i < 3 → [Value.string k, .int .u64 (s : Int), .slice A5 l5.length p5][i]? = some v → w.cell? ⟨b, o + i, none⟩ = some v := by
    intro i v hi5 hv
    rw [← add_flat, hat i hi5, hv]
  have hb0 := bulk_at (ys.map (·.1)) 0 (ys[0]'(by rw [hyl]; decide)).1 (by rw [List.getElem?_map, y0]; rfl)
  have hb2 := bulk_at (ys.map (·.1)) 2 (ys[2]'(by rw [hyl]; decide)).1 (by rw [List.getElem?_map, y2]; rfl)
  refine ⟨b, o, (k, s, l5), .slice A5 l5.length p5, rfl, hlt, at_ 0 _ (by omega) rfl, at_ 1 _ (by omega) rfl, at_ 2 _ (by omega) rfl, ⟨A5, p5, rfl, s5, t5, r5⟩, by show s < _; rw [two64_eq]; omega, ?_, ?_⟩
  · rw [hy, Rows.uptoBulk]
    rw [e0y] at hb0
    have hk : k.data.toList.length = k.size := by rw [Array.length_toList]; rfl
    dsimp only at hb0
    rw [Rows.uptoBulk] at hb0
    show k.size ≤ _
    omega
  · rw [hy, Rows.uptoBulk]
    show l5.length ≤ _
    omega
theorem open_facts {d : DataW H} {p : List MemPlace} {base : Nat} (hok : Value.okWide Try.prog w .any base 46 v) (h : DataW.Trod enc Try.prog w 0 (fun _ => true) true 46 v d p) :
    ∃ (A : Option Addr) (l : List Fc) (c : Nat), v = .slice A l.length c ∧ RF w w.heap.size A l ∧ l.length ≤ c ∧ l.length ≤ Rows.uptoBulk d ∧ ∀ (k : Nat) (f : Fc), l[k]? = some f → f.1.size ≤ Rows.uptoBulk d ∧ f.2.2.length ≤ Rows.uptoBulk d := by
  obtain ⟨a0, len, cap, rfl⟩ := okWide_slice Try.underlying46 hok
  obtain ⟨fuel, hf⟩ := h
  rcases open_slice Try.underlying46 hf with ⟨hcs, _⟩ | ⟨a, len', cap', m, n, D, Pl, hcs, _, hl, hm, hmm, hx, hi⟩
  · simp [Value.cells] at hcs
    obtain ⟨rfl, rfl, rfl⟩ := hcs
    exact ⟨none, [], 0, rfl, RF.nil _ _ _, Nat.le_refl _, Nat.zero_le _, fun k x hk => by simp at hk⟩
  · simp [Value.cells] at hcs
    obtain ⟨rfl, rfl, rfl⟩ := hcs
    have hm' : m = cap := by simpa using hmm
    simp only [cells_fact] at hi
    obtain ⟨l, hll, hp⟩ := list_of (P := fun i (q : Fc × Value) => ∃ b o, a.add (i * 3) = ⟨b, o, none⟩ ∧ b < w.heap.size ∧ w.cell? ⟨b, o, none⟩ = some (.string q.1.1) ∧ w.cell? ⟨b, o + 1, none⟩ = some (.int .u64 (q.1.2.1 : Int)) ∧ w.cell? ⟨b, o + 2, none⟩ = some q.2 ∧ Vb w w.heap.size q.2 q.1.2.2 ∧ q.1.2.1 < two64 ∧ q.1.1.size ≤ Rows.uptoBulk (D i) ∧ q.1.2.2.length ≤ Rows.uptoBulk (D i)) len (fun i hil => by
      obtain ⟨cs', hc, ht⟩ := hi i (by omega)
      obtain ⟨b, o, f, V, q1, q2, q3⟩ := open_fact hc ht
      exact ⟨(f, V), b, o, q1, q2, q3⟩)
    simp only [Prod.mk.injEq] at hx
    have hlen := bulk_len (H := H) ((List.range len).map D)
    rw [List.length_map, List.length_range] at hlen
    have hfl : (l.map Prod.fst).length = len := by rw [List.length_map]; exact hll
    refine ⟨some a, l.map Prod.fst, cap, by rw [hfl], ⟨l, rfl, fun k q hk => ?_, fun q hq => ?_⟩, by rw [hfl]; omega, ?_, fun k f hk => ?_⟩
    · obtain ⟨b, o, q1, q2, q3, q4, q5, _⟩ := hp k q hk
      have hk0 : k < l.length := (List.getElem?_eq_some_iff.1 hk).1
      obtain ⟨b', o', e0, _⟩ := hp 0 _ (List.getElem?_eq_getElem (by omega))
      have ea : a = ⟨b', o', none⟩ := by
        rw [← e0]
        simp [Addr.add]
      subst ea
      rw [add_flat] at q1
      cases q1
      exact ⟨_, _, rfl, q2, q3, q4, q5⟩
    · obtain ⟨k, hk⟩ := List.getElem?_of_mem hq
      obtain ⟨b, o, _, _, _, _, _, q6, q7, _⟩ := hp k q hk
      exact ⟨q6, q7⟩
    · rw [hfl, hx.1, Rows.uptoBulk]
      omega
    · rw [List.getElem?_map] at hk
      obtain ⟨q, hq, rfl⟩ := Option.map_eq_some_iff.1 hk
      obtain ⟨b, o, _, _, _, _, _, _, _, q8, q9⟩ := hp k q hq
      have hkl : k < len := by rw [← hll]; exact (List.getElem?_eq_some_iff.1 hq).1
      have hb := bulk_at ((List.range len).map D) k (D k) (by rw [List.getElem?_map, List.getElem?_range hkl]; rfl)
      rw [hx.1, Rows.uptoBulk]
      constructor <;> omega
theorem sumF_bound (B : Nat) : ∀ (l : List Fc), (∀ f ∈ l, f.1.size ≤ B ∧ f.2.2.length ≤ B) → sumF l ≤ l.length * (B + B)
  | [], _ => Nat.zero_le _
  | f :: l, h => by
    have h1 := sumF_bound B l fun g hg => h g (List.mem_cons_of_mem _ hg)
    have h2 := h f List.mem_cons_self
    have e : sumF (f :: l) = f.1.size + f.2.2.length + sumF l := by simp [sumF]
    rw [e, List.length_cons, Nat.add_mul]
    omega
/-- the sum of keys and values, where the bulk is bounded -/
theorem sumF_of {B : Nat} {l : List Fc} (h3 : l.length ≤ B) (h4 : ∀ (k : Nat) (f : Fc), l[k]? = some f → f.1.size ≤ B ∧ f.2.2.length ≤ B) (hB : B ≤ 1048576) : sumF l ≤ 4611686018427387904 := by
  have hm : ∀ f ∈ l, f.1.size ≤ B ∧ f.2.2.length ≤ B := fun f hf => by
    obtain ⟨k, hk⟩ := List.getElem?_of_mem hf
    exact h4 k f hk
  have := sumF_bound B l hm
  have h5 : l.length * (B + B) ≤ 1048576 * (1048576 + 1048576) := Nat.mul_le_mul (by omega) (by omega)
  omega
end
end Go.Proofs.Ytghcfmkmndldoaa
