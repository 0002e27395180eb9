/-
  What the inverse is: row operations on both sides act alike on every vector; in the end the left one is Unit.
-/
import Derived.Test.YtbfbjmngcojaoaaGf18
namespace Go.Proofs.Ytbfbjmngcojaoaa
open Go.RowKit

set_option maxRecDepth 20000
theorem u8_ext {x y : UInt8} (h : x.toNat = y.toNat) : x = y := UInt8.toNat_inj.1 h
theorem bm_zero (x : UInt8) : bm 0 x = 0 := u8_ext (by rw [bm_nat]; exact gm_zero' _)
theorem bm_zero' (x : UInt8) : bm x 0 = 0 := u8_ext (by rw [bm_nat]; exact gm_zero _)
theorem bm_one (x : UInt8) : bm 1 x = x := u8_ext (by rw [bm_nat]; exact gm_one (u8_lt x))
theorem bm_comm (x y : UInt8) : bm x y = bm y x := u8_ext (by rw [bm_nat, bm_nat]; exact gm_comm (u8_lt x) (u8_lt y))
theorem bm_assoc (x y z : UInt8) : bm x (bm y z) = bm (bm x y) z := u8_ext (by rw [bm_nat, bm_nat, bm_nat, bm_nat]; exact gm_assoc (u8_lt x) (u8_lt y) (u8_lt z))
theorem bm_add (x y z : UInt8) : bm (x ^^^ y) z = bm x z ^^^ bm y z := u8_ext (by rw [bm_nat, bx_nat, bx_nat, bm_nat, bm_nat]; exact gm_xor_left _ (u8_lt x) (u8_lt y))
theorem bm_gib {x : UInt8} (h : x ≠ 0) : bm x (gib x) = 1 := u8_ext (by rw [bm_nat, gib_nat]; exact gm_gi (u8_lt x) fun e => h (u8_ext e))
theorem bx_self (x : UInt8) : x ^^^ x = 0 := u8_ext (by rw [bx_nat, Nat.xor_self]; rfl)
theorem bx_zero (x : UInt8) : x ^^^ 0 = x := u8_ext (by rw [bx_nat]; exact Nat.xor_zero _)
theorem zero_bx (x : UInt8) : 0 ^^^ x = x := u8_ext (by rw [bx_nat]; exact Nat.zero_xor _)
theorem bx_assoc (x y z : UInt8) : x ^^^ y ^^^ z = x ^^^ (y ^^^ z) := u8_ext (by simp only [bx_nat]; exact Nat.xor_assoc _ _ _)
theorem bx_comm (x y : UInt8) : x ^^^ y = y ^^^ x := u8_ext (by simp only [bx_nat]; exact Nat.xor_comm _ _)
theorem bx_swap (a b c d : UInt8) : (a ^^^ b) ^^^ (c ^^^ d) = (a ^^^ c) ^^^ (b ^^^ d) := by
  rw [bx_assoc, bx_assoc, ← bx_assoc b c d, bx_comm b c, bx_assoc c b d]

/-! dot products of turned rows -/
theorem scale_get (r : List UInt8) (x : UInt8) (k : Nat) : (scaleR r x).getD k 0 = bm (r.getD k 0) x := by
  unfold scaleR
  rw [List.getD_eq_getElem?_getD, List.getD_eq_getElem?_getD, List.getElem?_map]
  cases r[k]? with
  | none => simp [bm_zero]
  | some y => rfl
theorem add_get (r o : List UInt8) (x : UInt8) (h : r.length = o.length) (k : Nat) : (addR r o x).getD k 0 = r.getD k 0 ^^^ bm (o.getD k 0) x := by
  unfold addR
  rw [List.getD_eq_getElem?_getD, List.getD_eq_getElem?_getD, List.getD_eq_getElem?_getD, List.getElem?_zipWith]
  by_cases hk : k < r.length
  · rw [List.getElem?_eq_getElem hk, List.getElem?_eq_getElem (by omega)]; rfl
  · rw [List.getElem?_eq_none (by omega), List.getElem?_eq_none (by omega)]
    simp [bm_zero]
theorem dotK_scale (r v : List UInt8) (x : UInt8) : ∀ k, dotK (scaleR r x) v k = bm (dotK r v k) x
  | 0 => (bm_zero x).symm
  | k + 1 => by
    show dotK (scaleR r x) v k ^^^ bm ((scaleR r x).getD k 0) (v.getD k 0) = bm (dotK r v k ^^^ bm (r.getD k 0) (v.getD k 0)) x
    rw [dotK_scale r v x k, scale_get, bm_add]
    congr 1
    rw [← bm_assoc, bm_comm x, bm_assoc]
theorem dotK_add (r o v : List UInt8) (x : UInt8) (h : r.length = o.length) : ∀ k, dotK (addR r o x) v k = dotK r v k ^^^ bm (dotK o v k) x
  | 0 => by show (0 : UInt8) = 0 ^^^ bm 0 x; rw [bm_zero]; rfl
  | k + 1 => by
    show dotK (addR r o x) v k ^^^ bm ((addR r o x).getD k 0) (v.getD k 0) = (dotK r v k ^^^ bm (r.getD k 0) (v.getD k 0)) ^^^ bm (dotK o v k ^^^ bm (o.getD k 0) (v.getD k 0)) x
    rw [dotK_add r o v x h k, add_get r o x h, bm_add, bm_add, bx_swap]
    congr 2
    rw [← bm_assoc, bm_comm x, bm_assoc]
theorem dot_scale (r v : List UInt8) (x : UInt8) : dot (scaleR r x) v = bm (dot r v) x := by
  unfold dot
  rw [show (scaleR r x).length = r.length by simp [scaleR], dotK_scale]
theorem dot_add (r o v : List UInt8) (x : UInt8) (h : r.length = o.length) : dot (addR r o x) v = dot r v ^^^ bm (dot o v) x := by
  unfold dot
  rw [show (addR r o x).length = r.length by simp [addR, h], dotK_add r o v x h, ← h]
/-- a vector's turns -/
def vAt (u : List UInt8) (i : Nat) : UInt8 := u.getD i 0
theorem apply_get (M : Mtx) (v : List UInt8) (i : Nat) (h : i < M.length) : (applyL M v)[i]? = some (dot (M.getD i []) v) := by
  unfold applyL
  rw [List.getElem?_map, List.getElem?_eq_getElem h, getD_of (List.getElem?_eq_getElem h)]; rfl
theorem apply_ext {M N : Mtx} {u v : List UInt8} (hl : M.length = N.length) (h : ∀ i, i < M.length → dot (M.getD i []) u = dot (N.getD i []) v) : applyL M u = applyL N v := by
  apply List.ext_getElem?
  intro i
  by_cases hi : i < M.length
  · rw [apply_get M u i hi, apply_get N v i (by omega), h i hi]
  · rw [List.getElem?_eq_none (by simp [applyL]; omega), List.getElem?_eq_none (by simp [applyL]; omega)]
theorem apply_inj {M N : Mtx} {u v : List UInt8} (h : applyL M u = applyL N v) (i : Nat) (hi : i < M.length) (hl : M.length = N.length) : dot (M.getD i []) u = dot (N.getD i []) v := by
  have := congrArg (fun l => l[i]?) h
  rw [apply_get M u i hi, apply_get N v i (by omega)] at this
  exact Option.some.inj this
theorem set_getD {M : Mtx} {i k : Nat} {l : List UInt8} (hi : i < M.length) : (M.set i l).getD k [] = if k = i then l else M.getD k [] := by
  rw [List.getD_eq_getElem?_getD, List.getElem?_set]
  by_cases h : i = k
  · subst h
    rw [if_pos rfl, if_pos hi, if_pos rfl]; rfl
  · rw [if_neg h, if_neg (fun e => h e.symm), List.getD_eq_getElem?_getD]
theorem swap_getD {M : Mtx} {i p k : Nat} (hi : i < M.length) (hp : p < M.length) : (swapM M i p).getD k [] = M.getD (if k = p then i else if k = i then p else k) [] := by
  unfold swapM
  rw [set_getD (by rw [List.length_set]; exact hp)]
  by_cases h1 : k = p
  · rw [if_pos h1, if_pos h1]
  · rw [if_neg h1, if_neg h1, set_getD hi]
    by_cases h2 : k = i
    · rw [if_pos h2, if_pos h2]
    · rw [if_neg h2, if_neg h2]
/-- the same is done to both: what is told of every vector goes on -/
def Alike2 (n : Nat) (M L R : Mtx) : Prop := ∀ v : List UInt8, v.length = n → applyL L v = applyL R (applyL M v)
section
variable {n i p : Nat} {M L R : Mtx} {x : UInt8}
theorem Alike2.swap (h : Alike2 n M L R) (hL : Dim L n) (hR : Dim R n) (hi : i < n) (hp : p < n) : Alike2 n M (swapM L i p) (swapM R i p) := fun v hv => by
  have h1 := h v hv
  refine apply_ext (by simp [swapM, hL.1, hR.1]) fun k hk => ?_
  have hkn : k < n := by simpa [swapM, hL.1] using hk
  rw [swap_getD (by rw [hL.1]; exact hi) (by rw [hL.1]; exact hp), swap_getD (by rw [hR.1]; exact hi) (by rw [hR.1]; exact hp)]
  exact apply_inj h1 _ (by rw [hL.1]; split <;> (try split) <;> omega) (by rw [hL.1, hR.1])
theorem Alike2.scale (h : Alike2 n M L R) (hL : Dim L n) (hR : Dim R n) (hi : i < n) : Alike2 n M (scaleM L i x) (scaleM R i x) := fun v hv => by
  have h1 := h v hv
  refine apply_ext (by simp [scaleM, hL.1, hR.1]) fun k hk => ?_
  have hkn : k < n := by simpa [scaleM, hL.1] using hk
  unfold scaleM
  rw [set_getD (by rw [hL.1]; exact hi), set_getD (by rw [hR.1]; exact hi)]
  by_cases e : k = i
  · rw [if_pos e, if_pos e, dot_scale, dot_scale, apply_inj h1 i (by rw [hL.1]; exact hi) (by rw [hL.1, hR.1])]
  · rw [if_neg e, if_neg e]
    exact apply_inj h1 k (by rw [hL.1]; exact hkn) (by rw [hL.1, hR.1])
theorem Alike2.add (h : Alike2 n M L R) (hL : Dim L n) (hR : Dim R n) (hi : i < n) (hp : p < n) : Alike2 n M (addM L p i x) (addM R p i x) := fun v hv => by
  have h1 := h v hv
  refine apply_ext (by simp [addM, hL.1, hR.1]) fun k hk => ?_
  have hkn : k < n := by simpa [addM, hL.1] using hk
  unfold addM
  rw [set_getD (by rw [hL.1]; exact hp), set_getD (by rw [hR.1]; exact hp)]
  by_cases e : k = p
  · rw [if_pos e, if_pos e, dot_add _ _ _ _ (by rw [(hL.get hp).2, (hL.get hi).2]), dot_add _ _ _ _ (by rw [(hR.get hp).2, (hR.get hi).2]),
      apply_inj h1 p (by rw [hL.1]; exact hp) (by rw [hL.1, hR.1]), apply_inj h1 i (by rw [hL.1]; exact hi) (by rw [hL.1, hR.1])]
  · rw [if_neg e, if_neg e]
    exact apply_inj h1 k (by rw [hL.1]; exact hkn) (by rw [hL.1, hR.1])
end
theorem unit_getD (n i : Nat) (h : i < n) : (unitM n).getD i [] = (List.replicate n 0).set i 1 := by
  unfold unitM
  rw [List.getD_eq_getElem?_getD, List.getElem?_map, List.getElem?_range h]; rfl
theorem unitrow_get (n i k : Nat) (h : i < n) : ((List.replicate n (0 : UInt8)).set i 1).getD k 0 = if k = i then 1 else 0 := by
  rw [List.getD_eq_getElem?_getD, List.getElem?_set]
  by_cases e : i = k
  · subst e
    rw [if_pos rfl, if_pos (by simpa using h), if_pos rfl]; rfl
  · rw [if_neg e, if_neg (fun q => e q.symm), List.getElem?_replicate]
    split <;> rfl
theorem dot_unit (n i : Nat) (v : List UInt8) (h : i < n) : ∀ k, dotK ((List.replicate n (0 : UInt8)).set i 1) v k = if i < k then v.getD i 0 else 0
  | 0 => by rw [if_neg (by omega)]; rfl
  | k + 1 => by
    show dotK _ v k ^^^ bm (((List.replicate n (0 : UInt8)).set i 1).getD k 0) (v.getD k 0) = _
    rw [dot_unit n i v h k, unitrow_get n i k h]
    by_cases e : k = i
    · subst e
      rw [if_neg (by omega), if_pos rfl, if_pos (by omega), bm_one, zero_bx]
    · rw [if_neg e, bm_zero, bx_zero]
      by_cases h2 : i < k
      · rw [if_pos h2, if_pos (by omega)]
      · rw [if_neg h2, if_neg (by omega)]
theorem apply_unit (n : Nat) (v : List UInt8) (hv : v.length = n) : applyL (unitM n) v = v := by
  have hu : (unitM n).length = n := by simp [unitM]
  apply List.ext_getElem?
  intro i
  by_cases hi : i < n
  · rw [apply_get _ _ i (by omega), unit_getD n i hi]
    unfold dot
    rw [dot_unit n i v hi, if_pos (by simpa using hi), List.getElem?_eq_getElem (by omega), List.getD_eq_getElem?_getD, List.getElem?_eq_getElem (by omega)]; rfl
  · rw [List.getElem?_eq_none (by simp [applyL, hu]; omega), List.getElem?_eq_none (by omega)]
end Go.Proofs.Ytbfbjmngcojaoaa
