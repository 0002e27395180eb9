/-
  Plain: an order of numbers by what each of them has, the most first, then by themselves; two ascending stretches, one behind the other.
-/
import Derived.Test.YtffmipmkbbholaaAlRot
namespace Go.Proofs.Ytffmipmkbbholaa
open Go.RowKit Go.Maps Go.Shelf Go.Lib Go.Sort

def cmpI (a b : Int) : Int := if a < b then -1 else if b < a then 1 else 0
theorem cmpI_neg {a b : Int} : cmpI a b < 0 ↔ a < b := by unfold cmpI; (repeat' split) <;> omega
/-- x comes ahead of y -/
def ltF (F : Int → Nat) (x y : Int) : Prop := F y < F x ∨ (F x = F y ∧ x < y)
def cfF (F : Int → Nat) (x y : Int) : Int := cmpI (F y) (F x)
section
variable {F : Int → Nat}
theorem ltF.trans {x y z : Int} (h1 : ltF F x y) (h2 : ltF F y z) : ltF F x z := by unfold ltF at *; omega
theorem ltF.irr {x : Int} (h : ltF F x x) : False := by unfold ltF at h; omega
theorem cf_neg {x y : Int} (h : x < y) : cfF F y x < 0 ↔ ltF F y x := by unfold cfF; rw [cmpI_neg]; unfold ltF; omega
theorem cf_not {x y : Int} (h : x < y) : ¬ cfF F y x < 0 ↔ ltF F x y := by unfold cfF; rw [cmpI_neg]; unfold ltF; omega
/-- ascending -/
abbrev Asc (F : Int → Nat) (l : List Int) : Prop := l.Pairwise (ltF F)
theorem Asc.at {l : List Int} (h : Asc F l) {i j : Nat} (hj : j < l.length) (hij : i < j) : ltF F (l[i]'(by omega)) l[j] := List.pairwise_iff_getElem.1 h i j (by omega) hj hij
theorem get_mid (p l q : List Int) (k : Nat) (hk : k < l.length) : (p ++ l ++ q).toArray[p.length + k]! = l[k] := by
  rw [getElem!_pos _ _ (by simp; omega)]
  simp [List.getElem_append_left, hk]
theorem swp_adj (p q : List Int) (x y : Int) : swp (p ++ x :: y :: q).toArray p.length (p.length + 1) = (p ++ y :: x :: q).toArray := swp_list p [] q x y
theorem swp_adj' (p q : List Int) (x y : Int) : swp (p ++ x :: y :: q).toArray (p.length + 1) p.length = (p ++ y :: x :: q).toArray := by
  have h1 : (p ++ x :: y :: q).toArray[p.length]! = x := get_at _ _ _
  have h2 : (p ++ x :: y :: q).toArray[p.length + 1]! = y := by
    have := get_at (p ++ [x]) q y
    rw [List.append_assoc, List.length_append, List.length_singleton] at this
    exact this
  unfold swp
  rw [h1, h2]
  apply Array.ext'
  simp only [List.setIfInBounds_toArray]
  rw [List.set_append_right _ _ (by omega), show p.length + 1 - p.length = 1 by omega, List.set_cons_succ, List.set_cons_zero, List.set_append_right _ _ (Nat.le_refl _), Nat.sub_self, List.set_cons_zero]
/-- a stretch is parted at u -/
theorem part_left {R : List Int} {x : Int} {u : Nat} (hR : Asc F R) (h1 : ∀ k (hk : k < R.length), k < u → ltF F R[k] x) (h2 : ∀ k (hk : k < R.length), u ≤ k → ltF F x R[k]) : Asc F (R.take u ++ x :: R.drop u) := by
  refine List.pairwise_append.2 ⟨hR.sublist (List.take_sublist _ _), List.pairwise_cons.2 ⟨fun y hy => ?_, hR.sublist (List.drop_sublist _ _)⟩, fun y hy z hz => ?_⟩
  · obtain ⟨k, hk, rfl⟩ := List.getElem_of_mem hy
    rw [List.getElem_drop]
    exact h2 _ _ (by omega)
  · obtain ⟨k, hk, rfl⟩ := List.getElem_of_mem hy
    have hk' : k < R.length ∧ k < u := by simp at hk; omega
    rw [List.getElem_take]
    have h3 := h1 k hk'.1 hk'.2
    rcases List.mem_cons.1 hz with rfl | hz
    · exact h3
    · obtain ⟨j, hj, rfl⟩ := List.getElem_of_mem hz
      rw [List.getElem_drop]
      exact h3.trans (h2 _ _ (by omega))
end
end Go.Proofs.Ytffmipmkbbholaa
