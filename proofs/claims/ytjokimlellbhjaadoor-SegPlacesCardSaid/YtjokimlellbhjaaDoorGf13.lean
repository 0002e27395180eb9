/-
  A matrix times a vector: the program's.
-/
import Derived.Test.YtjokimlellbhjaaDoorKGf8
import Derived.StillTailTactics
namespace Go.Proofs.YtjokimlellbhjaaDoor
open Go.RowKit

set_option maxRecDepth 20000
/-- product, sum of bytes -/
def bm (x y : UInt8) : UInt8 := UInt8.ofNat (gm x.toNat y.toNat)
theorem u8_lt (x : UInt8) : x.toNat < 256 := by have := x.toNat_lt; omega
theorem bm_nat (x y : UInt8) : (bm x y).toNat = gm x.toNat y.toNat := by
  unfold bm
  rw [UInt8.toNat_ofNat']
  exact Nat.mod_eq_of_lt (gm_lt _ (u8_lt x))
theorem bx_nat (x y : UInt8) : (x ^^^ y).toNat = x.toNat ^^^ y.toNat := UInt8.toNat_xor x y
/-- the first k elements' products, added -/
def dotK (r v : List UInt8) : Nat → UInt8
  | 0 => 0
  | k + 1 => dotK r v k ^^^ bm (r.getD k 0) (v.getD k 0)
def dot (r v : List UInt8) : UInt8 := dotK r v r.length
def applyL (M : List (List UInt8)) (v : List UInt8) : List UInt8 := M.map fun r => dot r v
/-- the sums, i rows done, and j elements of the next -/
def sumsK (M : List (List UInt8)) (v : List UInt8) (i j : Nat) : List UInt8 :=
  (List.range M.length).map fun a => if a < i then dot (M.getD a []) v else if a = i then dotK (M.getD a []) v j else 0
theorem sumsK_length (M : List (List UInt8)) (v : List UInt8) (i j : Nat) : (sumsK M v i j).length = M.length := by simp [sumsK]
theorem sumsK_get (M : List (List UInt8)) (v : List UInt8) (i j a : Nat) (h : a < M.length) : (sumsK M v i j)[a]? = some (if a < i then dot (M.getD a []) v else if a = i then dotK (M.getD a []) v j else 0) := by
  unfold sumsK
  rw [List.getElem?_map, List.getElem?_range h]; rfl
theorem sumsK_start (M : List (List UInt8)) (v : List UInt8) : List.replicate M.length 0 = sumsK M v 0 0 := by
  apply List.ext_getElem?
  intro a
  by_cases h : a < M.length
  · rw [List.getElem?_replicate, if_pos h, sumsK_get M v 0 0 a h, if_neg (by omega)]
    by_cases e : a = 0
    · rw [if_pos e]; rfl
    · rw [if_neg e]
  · rw [List.getElem?_eq_none (by simp; omega), List.getElem?_eq_none (by rw [sumsK_length]; omega)]
theorem sumsK_next (M : List (List UInt8)) (v : List UInt8) (i : Nat) : sumsK M v i (M.getD i []).length = sumsK M v (i + 1) 0 := by
  unfold sumsK
  apply List.map_congr_left
  intro a _
  by_cases h1 : a < i
  · rw [if_pos h1, if_pos (by omega)]
  · rw [if_neg h1]
    by_cases h2 : a = i
    · rw [if_pos h2, if_pos (by omega), h2]; rfl
    · rw [if_neg h2, if_neg (by omega)]
      by_cases h3 : a = i + 1
      · rw [if_pos h3]; rfl
      · rw [if_neg h3]
theorem sumsK_step (M : List (List UInt8)) (v : List UInt8) (i j : Nat) (x y : UInt8) (hi : i < M.length) (hx : (M.getD i []).getD j 0 = x) (hy : v.getD j 0 = y) :
    (sumsK M v i j).set i (dotK (M.getD i []) v j ^^^ bm x y) = sumsK M v i (j + 1) := by
  apply List.ext_getElem?
  intro a
  by_cases h : a < M.length
  · rw [List.getElem?_set, sumsK_get M v i (j + 1) a h, sumsK_get M v i j a h, sumsK_length]
    by_cases e : i = a
    · subst e
      rw [if_pos rfl, if_pos hi, if_neg (by omega), if_pos rfl]
      show _ = some (dotK _ _ j ^^^ bm _ _)
      rw [hx, hy]
    · rw [if_neg e]
      by_cases h1 : a < i
      · rw [if_pos h1, if_pos h1]
      · rw [if_neg h1, if_neg h1, if_neg (fun q => e q.symm), if_neg (fun q => e q.symm)]
  · rw [List.getElem?_eq_none (by rw [List.length_set, sumsK_length]; omega), List.getElem?_eq_none (by rw [sumsK_length]; omega)]
theorem sumsK_done (M : List (List UInt8)) (v : List UInt8) : sumsK M v M.length 0 = applyL M v := by
  apply List.ext_getElem?
  intro a
  by_cases h : a < M.length
  · rw [sumsK_get M v _ _ a h, if_pos h]
    unfold applyL
    rw [List.getElem?_map, List.getElem?_eq_getElem h]
    simp [List.getD_eq_getElem?_getD, h]
  · rw [List.getElem?_eq_none (by rw [sumsK_length]; omega), List.getElem?_eq_none (by simp [applyL]; omega)]
def AppRel (w : World) (M : List (List UInt8)) (v : List UInt8) (i j : Nat) (wr : World) : Prop := Blk wr w.heap.size (sumsK M v i j) ∧ Below w.heap.size w wr
end Go.Proofs.YtjokimlellbhjaaDoor
