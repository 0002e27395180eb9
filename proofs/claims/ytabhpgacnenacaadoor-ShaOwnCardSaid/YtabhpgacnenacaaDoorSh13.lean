/-
  Hashes compared.
-/
import Derived.Test.YtabhpgacnenacaaDoorSh12
import Derived.DeepKeys
namespace Go.Proofs.YtabhpgacnenacaaDoor
open Go.RowKit

theorem part_byte (l : List UInt8) (i : Nat) (x : UInt8) (h : l[i]? = some x) (w : World) : (part 5 (bvs l).toArray i).run Tryd.prog w = .ok (.int .u8 (x.toNat : Int)) w := by
  have ha : (isAgg 5).run Tryd.prog w = .ok false w := by kernel_rfl
  have hm := bvs_at h
  simp [part, ha, hm]
theorem eqItems_bytes (l r : List UInt8) (hl : l.length = 32) (hr : r.length = 32) (w : World) : ∀ is : List Nat, (∀ i ∈ is, i < 32) →
    (Op.eqItems 9999 5 1 (bvs l).toArray (bvs r).toArray is).run Tryd.prog w = .ok (is.all fun i => l.getD i 0 == r.getD i 0) w
  | [], _ => by simp [Op.eqItems]
  | i :: is, h => by
    have hi := h i (by simp)
    obtain ⟨x, hx⟩ : ∃ x, l[i]? = some x := ⟨_, List.getElem?_eq_getElem (by omega)⟩
    obtain ⟨y, hy⟩ : ∃ y, r[i]? = some y := ⟨_, List.getElem?_eq_getElem (by omega)⟩
    have ih := eqItems_bytes l r hl hr w is fun j hj => h j (by simp [hj])
    have e1 := part_byte l i x hx w
    have e2 := part_byte r i y hy w
    have e3 := run_equalIn_int (P := Tryd.prog) w 9998 5 .u8 .u8 (x.toNat : Int) (y.toNat : Int) Tryd.underlying5
    have e4 : ((x.toNat : Int) == (y.toNat : Int)) = (x == y) := by
      rw [Bool.eq_iff_iff, beq_iff_eq, beq_iff_eq]
      constructor
      · intro h; exact UInt8.toNat_inj.1 (by omega)
      · rintro rfl; rfl
    simp only [Op.eqItems, Sem.run_bind, Nat.mul_one, e1, e2, e3, Result.andThen_ok, List.all_cons, List.getD_eq_getElem?_getD, hx, hy, Option.getD_some, e4]
    cases hxy : (x == y) with
    | true => simpa [List.getD_eq_getElem?_getD] using ih
    | false => simp
theorem all_eq {l r : List UInt8} (hl : l.length = 32) (hr : r.length = 32) : ((List.range 32).all fun i => l.getD i 0 == r.getD i 0) = decide (l = r) := by
  rw [Bool.eq_iff_iff, List.all_eq_true, decide_eq_true_eq]
  constructor
  · intro h
    refine List.ext_getElem (by omega) fun i h1 h2 => ?_
    have := h i (by simp; omega)
    simp only [List.getD_eq_getElem?_getD, List.getElem?_eq_getElem h1, List.getElem?_eq_getElem h2, Option.getD_some, beq_iff_eq] at this
    exact this
  · rintro rfl i _
    simp
theorem eq_hash (l r : List UInt8) (hl : l.length = 32) (hr : r.length = 32) (w : World) : (Op.equalIn 10000 28 (.agg (bvs l).toArray) (.agg (bvs r).toArray)).run Tryd.prog w = .ok (decide (l = r)) w := by
  obtain ⟨i, hi⟩ : ∃ i, Tryd.prog.info? 5 = some i := info_of_underlying Tryd.underlying5
  rw [run_equalIn_array w 9999 _ _ Tryd.underlying28 hi, show Tryd.prog.cellsOf 5 = 1 from by kernel_rfl, eqItems_bytes l r hl hr w _ (by simp), all_eq hl hr]
theorem eq_same (l : List UInt8) (hl : l.length = 32) (w : World) : (Op.equalIn 10000 28 (.agg (bvs l).toArray) (.agg (bvs l).toArray)).run Tryd.prog w = .ok true w := by
  rw [eq_hash l l hl hl]
  simp
end Go.Proofs.YtabhpgacnenacaaDoor
