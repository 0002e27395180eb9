/-
  The program's inverse.
-/
import Derived.Test.YtbfbjmngcojaoaaGf17
namespace Go.Proofs.Ytbfbjmngcojaoaa
open Go.RowKit

set_option maxRecDepth 20000
def gib (y : UInt8) : UInt8 := UInt8.ofNat (gi y.toNat)
theorem gib_nat (y : UInt8) : (gib y).toNat = gi y.toNat := by
  unfold gib
  rw [UInt8.toNat_ofNat']
  exact Nat.mod_eq_of_lt (gi_lt _)
def stepRow (i row : Nat) (S : Mtx × Mtx) : Mtx × Mtx := if row = i then S else (addM S.1 row i (at2 S.1 row i), addM S.2 row i (at2 S.1 row i))
def elimK (i : Nat) : Nat → Mtx × Mtx → Mtx × Mtx
  | 0, S => S
  | k + 1, S => stepRow i k (elimK i k S)
def turnM (i p : Nat) (S : Mtx × Mtx) : Mtx × Mtx :=
  (scaleM (swapM S.1 i p) i (gib (at2 (swapM S.1 i p) i i)), scaleM (swapM S.2 i p) i (gib (at2 (swapM S.1 i p) i i)))
def stepM (n i : Nat) (S : Mtx × Mtx) : Option (Mtx × Mtx) := match pivot S.1 i with
  | none => none
  | some p => some (elimK i n (turnM i p S))
def invK (n : Nat) (M : Mtx) : Nat → Option (Mtx × Mtx)
  | 0 => some (M, unitM n)
  | k + 1 => (invK n M k).bind (stepM n k)
theorem invK_none {n : Nat} {M : Mtx} {k : Nat} (h : invK n M k = none) : ∀ m, k ≤ m → invK n M m = none := by
  intro m hm
  obtain ⟨d, rfl⟩ : ∃ d, m = k + d := ⟨m - k, by omega⟩
  induction d with
  | zero => exact h
  | succ d ih =>
    show (invK n M (k + d)).bind (stepM n (k + d)) = none
    rw [ih (by omega)]; rfl
theorem pivFrom_some (M : Mtx) (n : Nat) : ∀ (f k p : Nat), pivFrom M n f k = some p → k ≤ p ∧ p < k + f ∧ at2 M p n ≠ 0
  | 0, k, p, h => by cases h
  | f + 1, k, p, h => by
    unfold pivFrom at h
    split at h
    · rename_i hx
      cases h
      exact ⟨Nat.le_refl _, by omega, hx⟩
    · obtain ⟨h1, h2, h3⟩ := pivFrom_some M n f (k + 1) p h
      exact ⟨by omega, by omega, h3⟩
theorem pivot_some {M : Mtx} {n i p : Nat} (h : pivot M i = some p) (hd : M.length = n) (hi : i < n) : i ≤ p ∧ p < n ∧ at2 M p i ≠ 0 := by
  obtain ⟨h1, h2, h3⟩ := pivFrom_some M i _ _ _ h
  exact ⟨h1, by omega, h3⟩
theorem swap_row {M : Mtx} {n i p : Nat} (hd : M.length = n) (hi : i < n) (hp : p < n) : (swapM M i p).getD i [] = M.getD p [] := by
  unfold swapM
  rw [List.getD_eq_getElem?_getD, List.getElem?_set]
  by_cases h : p = i
  · subst h
    rw [if_pos rfl, if_pos (by simp; omega)]; rfl
  · rw [if_neg h, List.getElem?_set_self (by omega)]; rfl
theorem at2_swap {M : Mtx} {n i p : Nat} (hd : M.length = n) (hi : i < n) (hp : p < n) (j : Nat) : at2 (swapM M i p) i j = at2 M p j := by
  unfold at2
  rw [swap_row hd hi hp]
section
variable {w0 w w1 : World} {a4 a5 g1 g2 n lo1 hi1 lo2 hi2 : Nat} {L R : Mtx}
theorem Two.elem (h : Two w0 a4 a5 g1 g2 n lo1 hi1 lo2 hi2 L R w) {i j : Nat} (hi : i < n) (hj : j < n) : ∃ b c, w.cell? ⟨g1, i, none⟩ = some (.slice (some ⟨b, 0, none⟩) n c) ∧ n ≤ c ∧ w.cell? ⟨b, j, none⟩ = some (.int .u8 ((at2 L i j).toNat : Int)) := by
  obtain ⟨q1, q2⟩ := h.d1.get hi
  obtain ⟨b, c, hr, _⟩ := h.m1.row q1
  have e1 := hr.head
  rw [q2] at e1
  have hx : (L.getD i [])[j]? = some (at2 L i j) := by
    unfold at2
    rw [List.getD_eq_getElem?_getD (l := L.getD i [])]
    rw [List.getElem?_eq_getElem (by rw [q2]; exact hj)]; rfl
  exact ⟨b, c, e1, by have := hr.cap; omega, hr.cells j _ hx⟩
theorem Two.start {A : Option Addr} (h0 : w0.heap.size ≤ w0.heap.size) (hm1 : MatO w w0.heap.size w.heap.size (.slice (some ⟨g1, 0, none⟩) n n) L) (hb : Below w0.heap.size w0 w) (hd : Dim L n)
    (hm2 : MatO w1 (w.heap.size + 1) w1.heap.size (.slice (some ⟨g2, 0, none⟩) n n) (unitM n)) (hb2 : Below (w.heap.size + 1) (w.alloc (.cells #[.slice (some ⟨g1, 0, none⟩) n n] 38)) w1) :
    Two w0 w.heap.size w1.heap.size g1 g2 n w0.heap.size w.heap.size (w.heap.size + 1) w1.heap.size L (unitM n) (w1.alloc (.cells #[.slice (some ⟨g2, 0, none⟩) n n] 38)) := by
  have hs : w.heap.size + 1 ≤ w1.heap.size := by have := hb2.size; simpa using this
  have hs0 := hb.size
  refine ⟨?_, ?_, ?_, cell_new _ _ _, ?_, hd, dim_unit n, Nat.le_refl _, Nat.le_refl _, by omega, Nat.le_refl _, by simp, by omega, by omega⟩
  · refine hm1.move fun b h1 h2 h3 => ?_
    exact (Below.heap_alloc _ _ b (by omega)).trans ((hb2.block b (by omega)).trans (Below.heap_alloc _ _ b h3))
  · exact hm2.move fun b h1 h2 h3 => Below.heap_alloc _ _ b h3
  · have e1 : (w1.alloc (.cells #[.slice (some ⟨g2, 0, none⟩) n n] 38)).cell? ⟨w.heap.size, 0, none⟩ = w1.cell? ⟨w.heap.size, 0, none⟩ := World.cell?_alloc_lt _ _ ⟨w.heap.size, 0, none⟩ (by show w.heap.size < _; omega)
    rw [e1, hb2.cell (p := ⟨w.heap.size, 0, none⟩) (by show w.heap.size < _; omega)]
    exact cell_new _ _ _
  · have q1 : Below w0.heap.size w0 (w.alloc (.cells #[.slice (some ⟨g1, 0, none⟩) n n] 38)) := hb.alloc hs0 _
    exact (q1.trans (hb2.mono (by omega))).alloc (by omega) _
end
end Go.Proofs.Ytbfbjmngcojaoaa
