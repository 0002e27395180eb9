/-
  Linear algebra for GfInverts: what has no kernel has an inverse, from both sides.
-/
import Derived.Test.YtbfbjmngcojaoaaGf30
namespace Go.Proofs.Ytbfbjmngcojaoaa
open Go.RowKit

set_option maxRecDepth 20000
def zeros (n : Nat) : List UInt8 := List.replicate n 0
theorem zeros_ext {n : Nat} {u : List UInt8} (hl : u.length = n) (h : ∀ k, k < n → u.getD k 0 = 0) : u = zeros n := by
  apply List.ext_getElem?
  intro k
  unfold zeros
  by_cases hk : k < n
  · have := h k hk
    rw [List.getD_eq_getElem?_getD, List.getElem?_eq_getElem (by omega)] at this
    rw [List.getElem?_eq_getElem (by omega), List.getElem?_replicate, if_pos hk]
    congr 1
  · rw [List.getElem?_eq_none (by omega), List.getElem?_eq_none (by simp; omega)]
theorem bm_cancel {x y : UInt8} (h : bm x y = 0) (hx : x ≠ 0) : y = 0 := by
  have h1 : bm (gib x) (bm x y) = 0 := by rw [h]; exact bm_zero' _
  rw [bm_assoc, bm_comm (gib x) x, bm_gib hx, bm_one] at h1
  exact h1
theorem gib_ne {x : UInt8} (h : x ≠ 0) : gib x ≠ 0 := fun e => by
  have := bm_gib h
  rw [e, bm_zero'] at this
  exact absurd this (by decide)
theorem bx_eq {x y : UInt8} (h : x ^^^ y = 0) : x = y := by
  have : x ^^^ y ^^^ y = y := by rw [h, zero_bx]
  rw [bx_assoc, bx_self, bx_zero] at this
  exact this
/-- all rows' products with u are 0 -/
def Ker (n : Nat) (R : Mtx) (u : List UInt8) : Prop := ∀ k, k < n → dot (R.getD k []) u = 0
theorem ker_swap {n i p : Nat} {R : Mtx} {u : List UInt8} (hd : Dim R n) (hi : i < n) (hp : p < n) (h : Ker n (swapM R i p) u) : Ker n R u := fun k hk => by
  have h1 := h (if k = p then i else if k = i then p else k) (by split; exact hi; split; exact hp; exact hk)
  rw [swap_getD (by rw [hd.1]; exact hi) (by rw [hd.1]; exact hp)] at h1
  by_cases e : k = p
  · rw [if_pos e] at h1
    by_cases e2 : i = p
    · rw [if_pos e2] at h1
      rw [e, ← e2]; exact h1
    · rw [if_neg e2, if_pos rfl] at h1
      rw [e]; exact h1
  · rw [if_neg e] at h1
    by_cases e2 : k = i
    · rw [if_pos e2, if_pos rfl] at h1
      rw [e2]; exact h1
    · rw [if_neg e2, if_neg e, if_neg e2] at h1
      exact h1
theorem ker_scale {n i : Nat} {R : Mtx} {u : List UInt8} {x : UInt8} (hd : Dim R n) (hi : i < n) (hx : x ≠ 0) (h : Ker n (scaleM R i x) u) : Ker n R u := fun k hk => by
  have h1 := h k hk
  unfold scaleM at h1
  rw [set_getD (by rw [hd.1]; exact hi)] at h1
  by_cases e : k = i
  · rw [if_pos e, dot_scale, bm_comm] at h1
    rw [e]
    exact bm_cancel h1 hx
  · rw [if_neg e] at h1
    exact h1
theorem ker_add {n p i : Nat} {R : Mtx} {u : List UInt8} {x : UInt8} (hd : Dim R n) (hp : p < n) (hi : i < n) (hpi : p ≠ i) (h : Ker n (addM R p i x) u) : Ker n R u := fun k hk => by
  have get : ∀ j, (addM R p i x).getD j [] = if j = p then addR (R.getD p []) (R.getD i []) x else R.getD j [] := fun j => by
    unfold addM
    exact set_getD (by rw [hd.1]; exact hp)
  have h0 := h i hi
  rw [get, if_neg (fun e => hpi e.symm)] at h0
  have h1 := h k hk
  rw [get] at h1
  by_cases e : k = p
  · rw [if_pos e, dot_add _ _ _ _ (by rw [(hd.get hp).2, (hd.get hi).2]), h0, bm_zero, bx_zero] at h1
    rw [e]; exact h1
  · rw [if_neg e] at h1
    exact h1
theorem ker_row {n i k : Nat} {S : Mtx × Mtx} {u : List UInt8} (hd : Dim S.2 n) (hi : i < n) (hk : k < n) (h : Ker n (stepRow i k S).2 u) : Ker n S.2 u := by
  unfold stepRow at h
  by_cases e : k = i
  · rw [if_pos e] at h; exact h
  · rw [if_neg e] at h
    exact ker_add hd hk hi e h
theorem dim_row {n i k : Nat} {S : Mtx × Mtx} (hd : Dim S.2 n) (hi : i < n) (hk : k < n) : Dim (stepRow i k S).2 n := by
  unfold stepRow
  by_cases e : k = i
  · rw [if_pos e]; exact hd
  · rw [if_neg e]; exact hd.add hk hi _
theorem ker_elim {n i : Nat} {S : Mtx × Mtx} {u : List UInt8} (hd : Dim S.2 n) (hi : i < n) : ∀ k, k ≤ n → Dim (elimK i k S).2 n ∧ (Ker n (elimK i k S).2 u → Ker n S.2 u)
  | 0, _ => ⟨hd, fun h => h⟩
  | k + 1, hk => by
    obtain ⟨d, f⟩ := ker_elim hd hi k (by omega)
    exact ⟨dim_row d hi (by omega), fun h => f (ker_row d hi (by omega) h)⟩
theorem ker_step {n i : Nat} {L R : Mtx} {S : Mtx × Mtx} {u : List UInt8} (hdL : Dim L n) (hd : Dim R n) (hi : i < n) (hs : stepM n i (L, R) = some S) (h : Ker n S.2 u) : Ker n R u := by
  unfold stepM at hs
  rcases hp : pivot L i with _ | p
  · rw [show pivot (L, R).1 i = none from hp] at hs
    cases hs
  · rw [show pivot (L, R).1 i = some p from hp] at hs
    have hs' := Option.some.inj hs
    obtain ⟨h1, h2, h3⟩ := pivot_some hp hdL.1 hi
    rw [← hs'] at h
    have hx : at2 (swapM L i p) i i ≠ 0 := by rw [at2_swap hdL.1 hi h2]; exact h3
    have dt : Dim (turnM i p (L, R)).2 n := (hd.swap hi h2).scale hi _
    have k1 := (ker_elim dt hi n (Nat.le_refl _)).2 h
    exact ker_swap hd hi h2 (ker_scale (hd.swap hi h2) hi (gib_ne hx) k1)
theorem ker_unit {n : Nat} {u : List UInt8} (hl : u.length = n) (h : Ker n (unitM n) u) : u = zeros n := by
  refine zeros_ext hl fun k hk => ?_
  have := h k hk
  rw [unit_getD n k hk] at this
  unfold dot at this
  rw [dot_unit n k u hk, List.length_set, List.length_replicate, if_pos hk] at this
  exact this
theorem invK_ker {n : Nat} {M : Mtx} {u : List UInt8} (hd : Dim M n) : ∀ (k : Nat) (S : Mtx × Mtx), k ≤ n → invK n M k = some S → Ker n S.2 u → Ker n (unitM n) u
  | 0, S, _, h, hk => by
    cases h
    exact hk
  | k + 1, S, hkn, h, hk => by
    change (invK n M k).bind (stepM n k) = some S at h
    rcases h0 : invK n M k with _ | ⟨L, R⟩
    · rw [h0] at h; cases h
    · rw [h0] at h
      have g := invK_good hd k (L, R) (by omega) h0
      exact invK_ker hd k (L, R) (by omega) h0 (ker_step g.d1 g.d2 (by omega) h hk)
theorem inv_inj {n : Nat} {M : Mtx} {S : Mtx × Mtx} {u : List UInt8} (hd : Dim M n) (k : Nat) (hk : k ≤ n) (h : invK n M k = some S) (hl : u.length = n) (hu : Ker n S.2 u) : u = zeros n := ker_unit hl (invK_ker hd k S hk h hu)
theorem pivFrom_none (M : Mtx) (n : Nat) : ∀ (f k : Nat), pivFrom M n f k = none → ∀ r, k ≤ r → r < k + f → at2 M r n = 0
  | 0, k, _, r, h1, h2 => by omega
  | f + 1, k, h, r, h1, h2 => by
    unfold pivFrom at h
    by_cases e : at2 M k n ≠ 0
    · rw [if_pos e] at h; cases h
    · rw [if_neg e] at h
      by_cases er : r = k
      · rw [er]; simpa using e
      · exact pivFrom_none M n f (k + 1) h r (by omega) (by omega)
theorem invK_stuck {n : Nat} {M : Mtx} : ∀ k, invK n M k = none → ∃ i L R, i < k ∧ invK n M i = some (L, R) ∧ pivot L i = none
  | 0, h => by cases h
  | k + 1, h => by
    change (invK n M k).bind (stepM n k) = none at h
    rcases h0 : invK n M k with _ | ⟨L, R⟩
    · obtain ⟨i, L, R, a, b, c⟩ := invK_stuck k h0
      exact ⟨i, L, R, by omega, b, c⟩
    · rw [h0] at h
      refine ⟨k, L, R, by omega, h0, ?_⟩
      change stepM n k (L, R) = none at h
      unfold stepM at h
      rcases hp : pivot L k with _ | p
      · rfl
      · rw [show pivot (L, R).1 k = some p from hp] at h; cases h
/-- the vector that a missing pivot shows -/
def kvec (n i : Nat) (L : Mtx) : List UInt8 := (List.range n).map fun j => if j < i then at2 L j i else if j = i then 1 else 0
theorem kvec_get (n i : Nat) (L : Mtx) (j : Nat) (h : j < n) : (kvec n i L).getD j 0 = if j < i then at2 L j i else if j = i then 1 else 0 := by
  unfold kvec
  rw [List.getD_eq_getElem?_getD, List.getElem?_map, List.getElem?_range h]; rfl
theorem kvec_ker {n i : Nat} {L : Mtx} (hd : Dim L n) (hc : Col n i L) (hi : i < n) (hp : pivot L i = none) : Ker n L (kvec n i L) := fun r hr => by
  have hz : ∀ r, i ≤ r → r < n → at2 L r i = 0 := fun r h1 h2 => pivFrom_none L i _ _ hp r h1 (by rw [hd.1]; omega)
  have key : ∀ k, k ≤ n → dotK (L.getD r []) (kvec n i L) k = if k ≤ i then (if r < k then at2 L r i else 0) else 0 := by
    intro k
    induction k with
    | zero => intro _; rw [if_pos (by omega), if_neg (by omega)]; rfl
    | succ k ih =>
      intro hk
      show dotK _ _ k ^^^ bm _ _ = _
      rw [ih (by omega), kvec_get n i L k (by omega)]
      have ha : (L.getD r []).getD k 0 = at2 L r k := rfl
      rw [ha]
      by_cases h1 : k < i
      · rw [if_pos (show k ≤ i by omega), if_pos h1, if_pos (show k + 1 ≤ i by omega), hc k h1 r hr]
        by_cases h2 : r = k
        · rw [if_pos h2, bm_one, if_neg (show ¬ r < k by omega), if_pos (show r < k + 1 by omega), zero_bx, h2]
        · rw [if_neg h2, bm_zero, bx_zero]
          by_cases h3 : r < k
          · rw [if_pos h3, if_pos (show r < k + 1 by omega)]
          · rw [if_neg h3, if_neg (show ¬ r < k + 1 by omega)]
      · rw [if_neg h1, if_neg (show ¬ k + 1 ≤ i by omega)]
        by_cases h2 : k = i
        · rw [if_pos h2, if_pos (show k ≤ i by omega), bm_comm, bm_one, h2]
          by_cases h3 : r < i
          · rw [if_pos h3]; exact bx_self _
          · rw [if_neg h3, hz r (by omega) hr]; rfl
        · rw [if_neg h2, bm_zero', if_neg (show ¬ k ≤ i by omega)]; rfl
  unfold dot
  rw [(hd.get hr).2, key n (Nat.le_refl _), if_neg (show ¬ n ≤ i by omega)]
theorem apply_zeros {n : Nat} {M : Mtx} {u : List UInt8} (hd : Dim M n) (h : applyL M u = zeros n) : Ker n M u := fun k hk => by
  have := apply_get M u k (by rw [hd.1]; exact hk)
  rw [h] at this
  unfold zeros at this
  rw [List.getElem?_replicate, if_pos hk] at this
  exact (Option.some.inj this).symm
/-- no kernel: an inverse -/
theorem inv_some {n : Nat} {M : Mtx} (hd : Dim M n) (hk : ∀ u : List UInt8, u.length = n → Ker n M u → u = zeros n) : ∃ S, invK n M n = some S := by
  rcases h : invK n M n with _ | S
  · obtain ⟨i, L, R, hi, h1, h2⟩ := invK_stuck n h
    have g := invK_good hd i (L, R) (by omega) h1
    have hl : (kvec n i L).length = n := by simp [kvec]
    have kz := kvec_ker g.d1 g.col hi h2
    have e := g.ak (kvec n i L) hl
    have kr : Ker n R (applyL M (kvec n i L)) := fun k hk => by
      rw [← apply_inj e k (by rw [g.d1.1]; exact hk) (by rw [g.d1.1, g.d2.1])]
      exact kz k hk
    have e1 := inv_inj hd i (by omega) h1 (by rw [apply_len]; exact hd.1) kr
    have e2 := hk _ hl (apply_zeros hd e1)
    have e3 := kvec_get n i L i hi
    rw [if_neg (by omega), if_pos rfl, e2] at e3
    unfold zeros at e3
    rw [List.getD_eq_getElem?_getD, List.getElem?_replicate, if_pos hi] at e3
    exact absurd e3 (by decide)
  · exact ⟨S, rfl⟩
def addV (u v : List UInt8) : List UInt8 := List.zipWith (fun a b => a ^^^ b) u v
theorem addV_get (u v : List UInt8) (k : Nat) (h : u.length = v.length) : (addV u v).getD k 0 = u.getD k 0 ^^^ v.getD k 0 := by
  unfold addV
  simp only [List.getD_eq_getElem?_getD, List.getElem?_zipWith]
  by_cases hk : k < u.length
  · rw [List.getElem?_eq_getElem hk, List.getElem?_eq_getElem (by omega)]; rfl
  · rw [List.getElem?_eq_none (by omega), List.getElem?_eq_none (by omega)]; rfl
theorem dotK_addV (r u v : List UInt8) (h : u.length = v.length) : ∀ k, dotK r (addV u v) k = dotK r u k ^^^ dotK r v k
  | 0 => (bx_self 0).symm
  | k + 1 => by
    show dotK r (addV u v) k ^^^ bm _ _ = (dotK r u k ^^^ bm _ _) ^^^ (dotK r v k ^^^ bm _ _)
    rw [dotK_addV r u v h k, addV_get u v k h, bm_comm, bm_add, bm_comm, bm_comm (v.getD k 0), bx_swap]
theorem inv_right {n : Nat} {M : Mtx} {S : Mtx × Mtx} (hd : Dim M n) (h : invK n M n = some S) (u : List UInt8) (hu : u.length = n) : applyL M (applyL S.2 u) = u := by
  have g := invK_good hd n S (Nat.le_refl _) h
  have hl2 : (applyL S.2 u).length = n := by rw [apply_len]; exact g.d2.1
  have hl3 : (applyL M (applyL S.2 u)).length = n := by rw [apply_len]; exact hd.1
  have e1 := inv_undoes hd h (applyL S.2 u) hl2
  have hk : Ker n S.2 (addV (applyL M (applyL S.2 u)) u) := fun k hk => by
    unfold dot
    rw [dotK_addV _ _ _ (by rw [hl3, hu])]
    have := apply_inj e1 k (by rw [g.d2.1]; exact hk) rfl
    unfold dot at this
    rw [this]
    exact bx_self _
  have e2 := inv_inj hd n (Nat.le_refl _) h (by unfold addV; rw [List.length_zipWith, hl3, hu, Nat.min_self]) hk
  apply List.ext_getElem?
  intro j
  by_cases hj : j < n
  · have e3 := addV_get (applyL M (applyL S.2 u)) u j (by rw [hl3, hu])
    rw [e2] at e3
    unfold zeros at e3
    rw [List.getD_eq_getElem?_getD, List.getElem?_replicate, if_pos hj] at e3
    have e4 := bx_eq e3.symm
    rw [List.getD_eq_getElem?_getD, List.getElem?_eq_getElem (by omega), List.getD_eq_getElem?_getD, List.getElem?_eq_getElem (by omega)] at e4
    rw [List.getElem?_eq_getElem (by omega), List.getElem?_eq_getElem (by omega)]
    congr 1
  · rw [List.getElem?_eq_none (by omega), List.getElem?_eq_none (by omega)]
def eV (n j : Nat) : List UInt8 := (List.replicate n 0).set j 1
theorem dotK_comm (r v : List UInt8) : ∀ k, dotK r v k = dotK v r k
  | 0 => rfl
  | k + 1 => by
    show dotK r v k ^^^ bm _ _ = dotK v r k ^^^ bm _ _
    rw [dotK_comm r v k, bm_comm]
theorem col_eV {n j : Nat} {B : Mtx} (hd : Dim B n) (hj : j < n) : colO B j = applyL B (eV n j) := by
  unfold colO applyL
  apply List.map_congr_left
  intro r hr
  obtain ⟨i, hi⟩ := List.getElem?_of_mem hr
  have hl := hd.2 i r hi
  unfold dot eV
  rw [dotK_comm, dot_unit n j r hj, if_pos (by omega)]
theorem times_unit {n : Nat} {A B : Mtx} (hA : Dim A n) (hB : Dim B n) (hn : 1 ≤ n) (h : ∀ u : List UInt8, u.length = n → applyL A (applyL B u) = u) : timesM A B = unitM n := by
  have hh : (B.headD []).length = n := hB.2 0 _ (head_get (by rw [hB.1]; omega))
  unfold timesM
  rw [hh, hA.1]
  have e1 : (turnedM B n).map (applyL A) = (List.range n).map (eV n) := by
    unfold turnedM
    rw [List.map_map]
    apply List.map_congr_left
    intro j hj
    have hj' := List.mem_range.1 hj
    show applyL A (colO B j) = _
    rw [col_eV hB hj']
    exact h _ (by simp [eV])
  rw [e1]
  unfold turnedM unitM
  apply List.map_congr_left
  intro i hi
  have hi' := List.mem_range.1 hi
  rw [List.map_map]
  apply List.ext_getElem?
  intro j
  by_cases hj : j < n
  · rw [List.getElem?_map, List.getElem?_range hj]
    show some ((eV n j).getD i 0) = _
    unfold eV
    rw [unitrow_get n j i hj]
    have := unitrow_get n i j hi'
    rw [List.getD_eq_getElem?_getD] at this
    rw [List.getElem?_eq_getElem (by simpa using hj)] at this ⊢
    congr 1
    rw [show ∀ x : UInt8, (some x).getD 0 = x from fun _ => rfl] at this
    rw [this]
    by_cases e : i = j
    · rw [if_pos e, if_pos e.symm]
    · rw [if_neg e, if_neg (fun q => e q.symm)]
  · rw [List.getElem?_eq_none (by simp; omega), List.getElem?_eq_none (by simp; omega)]
end Go.Proofs.Ytbfbjmngcojaoaa
