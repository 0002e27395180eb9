/-
  Arguments opened: slices of bytes (nil or not), heads by value, numbers of 64 bits.
-/
import Derived.Test.YtghcfmkmndldoaaDoorTab
import Derived.Test.YtghcfmkmndldoaaDoorKBase
import Derived.Lib.SmallJoins
import Derived.ChangeOld
import Derived.Deep.Matrix
namespace Go.Proofs.YtghcfmkmndldoaaDoor
set_option maxRecDepth 20000
open Go.ChangeShapes Go.WideShapes Go.ChangeAt Go.RowKit Go.Joins

section
variable {H : Type} {enc : TypeId × Value → H} {w : World} {base : Nat} {v : Value} {d : DataW H} {p : List MemPlace}

theorem open_bytes (hok : Value.okWide Tryd.prog w .any base 25 v) (h : DataW.Trod enc Tryd.prog w 0 (fun _ => true) true 25 v d p) :
    ∃ (A : Option Addr) (l : List UInt8) (c : Nat), v = .slice A l.length c ∧ l.length ≤ c ∧ c ≤ maxLen ∧ RB w w.heap.size A l ∧ (A = none → c = 0) := by
  obtain ⟨a0, len, cap, rfl⟩ := okWide_slice Tryd.underlying25 hok
  obtain ⟨fuel, hf⟩ := h
  rcases open_ints Tryd.underlying25 Tryd.underlying5 (by kernel_rfl) hf with ⟨hcs, _⟩ | ⟨x, l, c, zs, hcs, _, hl, hm, hz, _, hcell, hwz⟩
  · simp [Value.cells] at hcs
    obtain ⟨rfl, rfl, rfl⟩ := hcs
    exact ⟨none, [], 0, rfl, Nat.le_refl _, by simp [maxLen], RB.nil _ _ _, fun _ => rfl⟩
  · simp [Value.cells] at hcs
    obtain ⟨rfl, rfl, rfl⟩ := hcs
    have hz' : zs.length = cap := by simpa using hz
    have hlen : ((zs.take len).map fun z => UInt8.ofNat z.toNat).length = len := by simp; omega
    refine ⟨some x, (zs.take len).map fun z => UInt8.ofNat z.toNat, cap, by rw [hlen], by rw [hlen]; exact hl, hm, fun k y hy => ?_, fun e => by cases e⟩
    rw [List.getElem?_map, Option.map_eq_some_iff] at hy
    obtain ⟨z, hz1, rfl⟩ := hy
    rw [List.getElem?_take] at hz1
    split at hz1
    · have hk : k < zs.length := (List.getElem?_eq_some_iff.1 hz1).1
      have hzk : zs[k] = z := by rw [List.getElem?_eq_getElem hk] at hz1; exact Option.some.inj hz1
      have hc := hcell k hk
      have hg : zs.getD k 0 = z := by simp [List.getD, hz1]
      rw [hg] at hc
      have hb := bounds_u8 (hwz z (by rw [← hzk]; exact List.getElem_mem hk))
      have hlt := World.block_lt_of_cell? w _ hc
      rw [add_block] at hlt
      refine ⟨x, rfl, hlt, ?_⟩
      rw [hc]
      have : ((UInt8.ofNat z.toNat).toNat : Int) = z := by rw [UInt8.toNat_ofNat']; omega
      unfold bv
      rw [this]
    · cases hz1

theorem open_list (hok : Value.okWide Tryd.prog w .any base 78 v) (h : DataW.Trod enc Tryd.prog w 0 (fun _ => true) true 78 v d p) :
    ∃ (A : Option Addr) (ls : List (List UInt8)) (c : Nat), v = .slice A ls.length c ∧ ls.length ≤ c ∧ c ≤ maxLen ∧ RBB w w.heap.size A ls := by
  obtain ⟨a0, len, cap, rfl⟩ := okWide_slice Tryd.underlying78 hok
  obtain ⟨fuel, hf⟩ := h
  rcases Deep.open_int_rows Tryd.underlying78 Tryd.underlying25 Tryd.underlying5 (by kernel_rfl) (by kernel_rfl) hf with ⟨hcs, _⟩ | ⟨a, len', cap', A, L, C, Z, hcs, _, hl, hm, _, hx⟩
  · simp [Value.cells] at hcs
    obtain ⟨rfl, rfl, rfl⟩ := hcs
    exact ⟨none, [], 0, rfl, Nat.le_refl _, by simp [maxLen], fun k l hk => by simp at hk⟩
  · simp [Value.cells] at hcs
    obtain ⟨rfl, rfl, rfl⟩ := hcs
    have hlen : ((List.range len).map fun r => ((Z r).take (L r)).map fun z => UInt8.ofNat z.toNat).length = len := by simp
    refine ⟨some a, (List.range len).map fun r => ((Z r).take (L r)).map fun z => UInt8.ofNat z.toNat, cap, by rw [hlen], by rw [hlen]; exact hl, hm, fun k l hk => ?_⟩
    rw [List.getElem?_map, Option.map_eq_some_iff] at hk
    obtain ⟨r, hr, rfl⟩ := hk
    have hkl : k < len := by
      have := (List.getElem?_eq_some_iff.1 hr).1
      simpa using this
    have hrk : r = k := by
      rw [List.getElem?_range hkl] at hr
      exact (Option.some.inj hr).symm
    subst hrk
    obtain ⟨hc, h1, h2, h3, h4, h5, h6⟩ := hx r (by omega)
    have hlt := World.block_lt_of_cell? w _ hc
    rw [add_block] at hlt
    have hl2 : (((Z r).take (L r)).map fun z => UInt8.ofNat z.toNat).length = L r := by simp; omega
    refine ⟨a, A r, C r, rfl, hlt, by rw [hl2]; exact hc, fun j y hy => ?_, by rw [hl2]; exact h1⟩
    rw [List.getElem?_map, Option.map_eq_some_iff] at hy
    obtain ⟨z, hz1, rfl⟩ := hy
    rw [List.getElem?_take] at hz1
    split at hz1
    · have hj : j < (Z r).length := (List.getElem?_eq_some_iff.1 hz1).1
      have hzj : (Z r)[j] = z := by rw [List.getElem?_eq_getElem hj] at hz1; exact Option.some.inj hz1
      cases hA : A r with
      | none => have := h5 hA; omega
      | some ad =>
        have hc2 := (h6 ad hA).2 j (by omega)
        have hg : (Z r).getD j 0 = z := by simp [List.getD, hz1]
        rw [hg] at hc2
        have hb := bounds_u8 (h4 z (by rw [← hzj]; exact List.getElem_mem hj))
        have hlt2 := World.block_lt_of_cell? w _ hc2
        rw [add_block] at hlt2
        refine ⟨ad, rfl, hlt2, ?_⟩
        rw [hc2]
        have : ((UInt8.ofNat z.toNat).toNat : Int) = z := by rw [UInt8.toNat_ofNat']; omega
        unfold bv
        rw [this]
    · cases hz1

theorem cellsHead : Tryd.prog.cellsOf 91 = 4 := by kernel_rfl
theorem open_head (hok : Value.okWide Tryd.prog w .any base 91 v) (h : DataW.Trod enc Tryd.prog w 0 (fun _ => true) true 91 v d p) :
    ∃ (seg : Nat) (row shard sz : Int), v = .agg #[.int .u64 (seg : Int), .int .i64 row, .int .i64 shard, .int .i64 sz] ∧ seg < two64 := by
  obtain ⟨v0, v1, v2, v3, y0, y1, y2, y3, n, rfl, _, _, h0, h1, h2, h3⟩ := open_agg4 Tryd.underlying91 (by kernel_rfl) cellsHead hok h
  obtain ⟨a, e0, _, wa⟩ := DataW.trod_int Tryd.underlying24 h0
  obtain ⟨b, e1, _, _⟩ := DataW.trod_int Tryd.underlying3 h1
  obtain ⟨c, e2, _, _⟩ := DataW.trod_int Tryd.underlying3 h2
  obtain ⟨d, e3, _, _⟩ := DataW.trod_int Tryd.underlying3 h3
  simp at e0 e1 e2 e3
  subst e0 e1 e2 e3
  have ba := bounds_u64 wa
  obtain ⟨x, rfl⟩ := Int.eq_ofNat_of_zero_le ba.1
  exact ⟨x, b, c, d, rfl, by rw [two64_eq]; omega⟩

theorem open_u64 (hok : Value.okWide Tryd.prog w .any base 24 v) (h : DataW.Trod enc Tryd.prog w 0 (fun _ => true) true 24 v d p) : ∃ x : Nat, v = .int .u64 (x : Int) ∧ x < two64 := by
  obtain ⟨a, rfl, _, _, wa⟩ := open_int Tryd.underlying24 hok h
  have ba := bounds_u64 wa
  obtain ⟨x, rfl⟩ := Int.eq_ofNat_of_zero_le ba.1
  exact ⟨x, rfl, by rw [two64_eq]; omega⟩
theorem open_i64 (hok : Value.okWide Tryd.prog w .any base 3 v) (h : DataW.Trod enc Tryd.prog w 0 (fun _ => true) true 3 v d p) : ∃ x : Int, v = .int .i64 x ∧ -9223372036854775808 ≤ x ∧ x ≤ 9223372036854775807 := by
  obtain ⟨a, rfl, _, _, wa⟩ := open_int Tryd.underlying3 hok h
  have ba := bounds_i64 wa
  exact ⟨a, rfl, by omega, by omega⟩

/-- a reading lies below the heap's end -/
theorem trod_lt' {t : TypeId} (h : DataW.Trod enc Tryd.prog w 0 (fun _ => true) true t v d p) : ∀ x ∈ p, x.block < w.heap.size := by
  obtain ⟨m, hm⟩ := h
  exact DataW.trod_lt m _ _ _ hm
end
end Go.Proofs.YtghcfmkmndldoaaDoor
