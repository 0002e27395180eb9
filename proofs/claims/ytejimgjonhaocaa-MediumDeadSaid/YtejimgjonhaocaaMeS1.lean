/-
  slices.Sort at numbers of 64 bits: cmp.Less; the insertion sort. Own walks over the library's plain sort.
-/
import Derived.Test.YtejimgjonhaocaaMe11
import Derived.Shelf.SlSortCmp.Kit1
import Derived.Sort.LotA
import Derived.Sort.LotB
import Derived.Sort.LotC
import Derived.Sort.LotD1
import Derived.Sort.LotD2
import Derived.Sort.LotD3
import Derived.Deep.LoopGhost
import Derived.Deep.CutBlock
namespace Go.Proofs.Ytejimgjonhaocaa
open Go.RowKit Go.Maps Go.Shelf Go.Lib Go.Sort

abbrev eU : Int → Value := Value.int .u64
theorem eU_one : OneCell eU := fun _ => rfl
section
set_option maxRecDepth 100000
set_option maxHeartbeats 4000000
theorem nan_any (x : Int) (w : World) : Calls Try.prog 65 #[.int .u64 x] w fun e w' => e = .returned (.bool false) ∧ w' = w := by
  go_enter Try.func65, Try.ntmps65
  go_wp2_with fail
  go_ret
  exact ⟨by simp, rfl⟩
theorem less_any (x y : Int) (w : World) : Calls Try.prog 55 #[.int .u64 x, .int .u64 y] w fun e w' => e = .returned (.bool (ltInt x y)) ∧ w' = w := by
  have Hn := Lib.hid fun x w => nan_any x w
  unfold ltInt
  go_enter Try.func55, Try.ntmps55
  go_wp2_with (go_at_call 65; refine (Hn.out _ _).mono ?_; rintro e w2 ⟨rfl, rfl⟩)
  go_ret
  exact ⟨by simp, rfl⟩
/-- the sort's row under way: d lies there, of z elements -/
structure SR (w0 : World) (g off z : Nat) (d : Array Int) (W : World) : Prop where
  sw : SW eU w0 g off d W
  sz : d.size = z
theorem SR.drewN {w0 W : World} {g off z : Nat} {d : Array Int} (h : SR w0 g off z d W) (n : Nat) : SR w0 g off z d (W.drewN n) := ⟨h.sw.drewN n, h.sz⟩
theorem SR.cell {w0 W : World} {g off z : Nat} {d d0 : Array Int} (h : SR w0 g off z d W) (R : Row1 eU w0 g off d0) (hz : d0.size = z) {i : Nat} (hi : i < z) : W.cell? ⟨g, off + i, none⟩ = some (.int .u64 d[i]!) := h.sw.c1 R (h.sz.trans hz.symm) i (by rw [h.sz]; exact hi)
theorem SR.frozen {w0 W : World} {g off z : Nat} {d d0 : Array Int} (h : SR w0 g off z d W) (R : Row1 eU w0 g off d0) (hz : d0.size = z) {i : Nat} (hi : i < z) : W.frozen? ⟨g, off + i, none⟩ = false := h.sw.f1 R (h.sz.trans hz.symm) i (by rw [h.sz]; exact hi)
theorem SR.second {w0 W : World} {g off z : Nat} {d d0 : Array Int} (h : SR w0 g off z d W) (R : Row1 eU w0 g off d0) (hz : d0.size = z) {i j : Nat} (hi : i < z) (hj : j < z) (v : Value) : ∃ u, (W.setCell ⟨g, off + i, none⟩ v).cell? ⟨g, off + j, none⟩ = some u := h.sw.c2 R (h.sz.trans hz.symm) i j (by rw [h.sz]; exact hi) (by rw [h.sz]; exact hj) v
theorem SR.swap {w0 W : World} {g off z : Nat} {d d0 : Array Int} (h : SR w0 g off z d W) (R : Row1 eU w0 g off d0) {i j : Nat} (hi : i < z) (hj : j < z) : SR w0 g off z (swp d i j) ((W.setCell ⟨g, off + i, none⟩ (.int .u64 d[j]!)).setCell ⟨g, off + j, none⟩ (.int .u64 d[i]!)).drew :=
  ⟨h.sw.swapped R i j (by rw [h.sz]; exact hi) (by rw [h.sz]; exact hj), by rw [swp_size]; exact h.sz⟩
end
end Go.Proofs.Ytejimgjonhaocaa
