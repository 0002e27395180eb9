/-
  The program's inverse, walked.
-/
import Derived.Test.YtjokimlellbhjaaDoorKGf17
namespace Go.Proofs.YtjokimlellbhjaaDoor
open Go.RowKit

set_option maxRecDepth 20000
section
variable {w0 w : World} {a4 a5 g1 g2 n lo1 hi1 lo2 hi2 : Nat} {L R : Mtx}
end
/-- what the program's Inverse answers -/
def sqB (M : Mtx) : Bool := rightB M && decide (M.length = (M.headD []).length)
def invL (M : Mtx) : Mtx := if sqB M then (match invK M.length M M.length with | none => [] | some S => S.2) else []
def invC (M : Mtx) : Nat := if sqB M then (match invK M.length M M.length with | none => 4 | some _ => 0) else 1
theorem inv_sq {M : Mtx} (h : sqB M = true) : ∃ n, 1 ≤ n ∧ n ≤ 255 ∧ Dim M n ∧ M[0]? = some (M.headD []) := by
  unfold sqB at h
  rw [Bool.and_eq_true, decide_eq_true_eq] at h
  obtain ⟨n, h1, h2, h3, h4, h5, h6, h7⟩ := right_facts h.1
  exact ⟨n, h3, h4, ⟨by rw [h.2, h6], h7⟩, h5⟩
end Go.Proofs.YtjokimlellbhjaaDoor

/-
  In the end the left matrix is Unit: so the right one undoes the given one.
-/
namespace Go.Proofs.YtjokimlellbhjaaDoor
open Go.RowKit

set_option maxRecDepth 20000
theorem at2_scale {M : Mtx} {i r j : Nat} {x : UInt8} (hi : i < M.length) : at2 (scaleM M i x) r j = if r = i then bm (at2 M i j) x else at2 M r j := by
  unfold at2 scaleM
  rw [set_getD hi]
  by_cases h : r = i
  · rw [if_pos h, if_pos h, scale_get]
  · rw [if_neg h, if_neg h]
theorem at2_add {M : Mtx} {n p i r j : Nat} {x : UInt8} (hd : Dim M n) (hp : p < n) (hi : i < n) : at2 (addM M p i x) r j = if r = p then at2 M p j ^^^ bm (at2 M i j) x else at2 M r j := by
  unfold at2 addM
  rw [set_getD (by rw [hd.1]; exact hp)]
  by_cases h : r = p
  · rw [if_pos h, if_pos h, add_get _ _ _ (by rw [(hd.get hp).2, (hd.get hi).2])]
  · rw [if_neg h, if_neg h]
theorem at2_swap' {M : Mtx} {i p r j : Nat} (hi : i < M.length) (hp : p < M.length) : at2 (swapM M i p) r j = at2 M (if r = p then i else if r = i then p else r) j := by
  unfold at2
  rw [swap_getD hi hp]
def Col (n k : Nat) (L : Mtx) : Prop := ∀ j, j < k → ∀ r, r < n → at2 L r j = if r = j then 1 else 0
structure Good (n k : Nat) (M L R : Mtx) : Prop where
  d1 : Dim L n
  d2 : Dim R n
  ak : Alike2 n M L R
  col : Col n k L
section
variable {n i p : Nat} {M L R : Mtx}
theorem Good.swap (h : Good n i M L R) (hi : i < n) (hp : p < n) (hip : i ≤ p) : Good n i M (swapM L i p) (swapM R i p) := by
  refine ⟨h.d1.swap hi hp, h.d2.swap hi hp, h.ak.swap h.d1 h.d2 hi hp, fun j hj r hr => ?_⟩
  rw [at2_swap' (by rw [h.d1.1]; exact hi) (by rw [h.d1.1]; exact hp)]
  by_cases h1 : r = p
  · rw [if_pos h1, h.col j hj i hi, if_neg (by omega), if_neg (by omega)]
  · rw [if_neg h1]
    by_cases h2 : r = i
    · rw [if_pos h2, h.col j hj p hp, if_neg (by omega), if_neg (by omega)]
    · rw [if_neg h2, h.col j hj r hr]
theorem Good.scale (h : Good n i M L R) (hi : i < n) (x : UInt8) : Good n i M (scaleM L i x) (scaleM R i x) := by
  refine ⟨h.d1.scale hi x, h.d2.scale hi x, h.ak.scale h.d1 h.d2 hi, fun j hj r hr => ?_⟩
  rw [at2_scale (by rw [h.d1.1]; exact hi)]
  by_cases h1 : r = i
  · rw [if_pos h1, h.col j hj i hi, if_neg (by omega), if_neg (by omega), bm_zero]
  · rw [if_neg h1, h.col j hj r hr]
/-- k rows are cleared in column i -/
structure Clear (n i k : Nat) (M : Mtx) (S : Mtx × Mtx) : Prop where
  good : Good n i M S.1 S.2
  one : at2 S.1 i i = 1
  zero : ∀ r, r < k → r ≠ i → at2 S.1 r i = 0
theorem Clear.row {k : Nat} {S : Mtx × Mtx} (h : Clear n i k M S) (hi : i < n) (hk : k < n) : Clear n i (k + 1) M (stepRow i k S) := by
  unfold stepRow
  by_cases hki : k = i
  · rw [if_pos hki]
    exact ⟨h.good, h.one, fun r hr hri => h.zero r (by omega) hri⟩
  · rw [if_neg hki]
    obtain ⟨g, h1, h0⟩ := h
    refine ⟨⟨g.d1.add hk hi _, g.d2.add hk hi _, g.ak.add g.d1 g.d2 hi hk, fun j hj r hr => ?_⟩, ?_, fun r hr hri => ?_⟩
    · show at2 (addM S.1 k i _) r j = _
      rw [at2_add g.d1 hk hi]
      by_cases e : r = k
      · rw [if_pos e, g.col j hj i hi, if_neg (show ¬ i = j by omega), bm_zero, bx_zero, g.col j hj k hk, e]
      · rw [if_neg e, g.col j hj r hr]
    · show at2 (addM S.1 k i _) i i = 1
      rw [at2_add g.d1 hk hi, if_neg (fun e => hki e.symm)]
      exact h1
    · show at2 (addM S.1 k i _) r i = 0
      rw [at2_add g.d1 hk hi]
      by_cases e : r = k
      · rw [if_pos e, h1, bm_one, bx_self]
      · rw [if_neg e]
        exact h0 r (by omega) hri
theorem Clear.elim {S : Mtx × Mtx} (h : Clear n i 0 M S) (hi : i < n) : ∀ k, k ≤ n → Clear n i k M (elimK i k S)
  | 0, _ => h
  | k + 1, hk => (Clear.elim h hi k (by omega)).row hi (by omega)
theorem Good.step {S : Mtx × Mtx} (h : Good n i M L R) (hi : i < n) (hs : stepM n i (L, R) = some S) : Good n (i + 1) M S.1 S.2 := by
  unfold stepM at hs
  rcases hp : pivot L i with _ | p
  · rw [show pivot (L, R).1 i = none from hp] at hs
    cases hs
  · rw [show pivot (L, R).1 i = some p from hp] at hs
    obtain ⟨p1, p2, p3⟩ := pivot_some hp h.d1.1 hi
    cases hs
    have h1 := h.swap hi p2 p1
    have hy : at2 (swapM L i p) i i ≠ 0 := by rw [at2_swap h.d1.1 hi p2]; exact p3
    have h2 := h1.scale hi (gib (at2 (swapM L i p) i i))
    have hc : Clear n i 0 M (turnM i p (L, R)) := by
      refine ⟨h2, ?_, fun r hr => by omega⟩
      show at2 (scaleM (swapM L i p) i _) i i = 1
      rw [at2_scale (by rw [h1.d1.1]; exact hi), if_pos rfl, bm_gib hy]
    have h3 := hc.elim hi n (Nat.le_refl _)
    refine ⟨h3.good.d1, h3.good.d2, h3.good.ak, fun j hj r hr => ?_⟩
    by_cases e : j = i
    · subst e
      by_cases e2 : r = j
      · rw [if_pos e2, e2]; exact h3.one
      · rw [if_neg e2]; exact h3.zero r hr e2
    · exact h3.good.col j (by omega) r hr
theorem invK_good (hd : Dim M n) : ∀ (k : Nat) (S : Mtx × Mtx), k ≤ n → invK n M k = some S → Good n k M S.1 S.2
  | 0, S, _, h => by
    cases h
    refine ⟨hd, dim_unit n, fun v hv => ?_, fun j hj => by omega⟩
    exact (apply_unit n _ (by simp [applyL, hd.1])).symm
  | k + 1, S, hk, h => by
    unfold invK at h
    rcases h0 : invK n M k with _ | ⟨L, R⟩
    · rw [h0] at h; cases h
    · rw [h0] at h
      exact (invK_good hd k (L, R) (by omega) h0).step (by omega) h
end
theorem col_unit {n : Nat} {L : Mtx} (hd : Dim L n) (h : Col n n L) : L = unitM n := by
  have hu : (unitM n).length = n := by simp [unitM]
  apply List.ext_getElem?
  intro r
  by_cases hr : r < n
  · rw [(hd.get hr).1]
    have e1 : (unitM n)[r]? = some ((unitM n).getD r []) := by
      rw [List.getD_eq_getElem?_getD, List.getElem?_eq_getElem (by omega)]; rfl
    rw [e1]
    congr 1
    rw [unit_getD n r hr]
    apply List.ext_getElem?
    intro j
    by_cases hj : j < n
    · have e2 := h j hj r hr
      have e3 := unitrow_get n r j hr
      unfold at2 at e2
      have hj1 : j < (L.getD r []).length := by rw [(hd.get hr).2]; exact hj
      have hj2 : j < ((List.replicate n (0:UInt8)).set r 1).length := by simpa using hj
      rw [List.getD_eq_getElem?_getD (l := L.getD r []), List.getElem?_eq_getElem hj1] at e2
      rw [List.getD_eq_getElem?_getD, List.getElem?_eq_getElem hj2] at e3
      rw [List.getElem?_eq_getElem hj1, List.getElem?_eq_getElem hj2]
      congr 1
      have e4 : (if r = j then (1 : UInt8) else 0) = if j = r then 1 else 0 := by
        by_cases e : r = j
        · rw [if_pos e, if_pos e.symm]
        · rw [if_neg e, if_neg (fun q => e q.symm)]
      simp only [Option.getD_some] at e2 e3
      rw [e2, e3, e4]
    · rw [List.getElem?_eq_none (by rw [(hd.get hr).2]; omega), List.getElem?_eq_none (by simp; omega)]
  · rw [List.getElem?_eq_none (by rw [hd.1]; omega), List.getElem?_eq_none (by omega)]
/-- THE INVERSE UNDOES -/
theorem inv_undoes {n : Nat} {M : Mtx} {S : Mtx × Mtx} (hd : Dim M n) (h : invK n M n = some S) (v : List UInt8) (hv : v.length = n) : applyL S.2 (applyL M v) = v := by
  have g := invK_good hd n S (Nat.le_refl _) h
  have e := col_unit g.d1 g.col
  have := g.ak v hv
  rw [e, apply_unit n v hv] at this
  exact this.symm
end Go.Proofs.YtjokimlellbhjaaDoor

/-
  GfSolves, walked: the inverse where there is none, the product with a vector, the law.
-/
namespace Go.Proofs.YtjokimlellbhjaaDoor
open Go.RowKit

set_option maxRecDepth 20000
end Go.Proofs.YtjokimlellbhjaaDoor

/-
  A matrix turned, rows for columns: the program's.
-/
namespace Go.Proofs.YtjokimlellbhjaaDoor
open Go.RowKit

set_option maxRecDepth 20000
/-- row a of the turned matrix, i rows done and j elements of the next -/
def turnR (M : Mtx) (i j a : Nat) : List UInt8 := (List.range M.length).map fun b => if b < i ∨ (b = i ∧ a < j) then at2 M b a else 0
def turnK (M : Mtx) (n i j : Nat) : Mtx := (List.range n).map (turnR M i j)
def turnedM (M : Mtx) (n : Nat) : Mtx := (List.range n).map fun a => M.map fun r => r.getD a 0
theorem turnR_length (M : Mtx) (i j a : Nat) : (turnR M i j a).length = M.length := by simp [turnR]
theorem turnK_length (M : Mtx) (n i j : Nat) : (turnK M n i j).length = n := by simp [turnK]
theorem turnR_get (M : Mtx) (i j a b : Nat) (h : b < M.length) : (turnR M i j a)[b]? = some (if b < i ∨ (b = i ∧ a < j) then at2 M b a else 0) := by
  unfold turnR
  rw [List.getElem?_map, List.getElem?_range h]; rfl
theorem turnK_get (M : Mtx) (n i j a : Nat) (h : a < n) : (turnK M n i j)[a]? = some (turnR M i j a) := by
  unfold turnK
  rw [List.getElem?_map, List.getElem?_range h]; rfl
theorem turnK_zero (M : Mtx) (n : Nat) : blankM n M.length = turnK M n 0 0 := by
  apply List.ext_getElem?
  intro a
  by_cases h : a < n
  · unfold blankM
    rw [turnK_get M n 0 0 a h, List.getElem?_replicate, if_pos h]
    congr 1
    apply List.ext_getElem?
    intro b
    by_cases hb : b < M.length
    · rw [turnR_get M 0 0 a b hb, List.getElem?_replicate, if_pos hb, if_neg (by omega)]
    · rw [List.getElem?_eq_none (by simp; omega), List.getElem?_eq_none (by rw [turnR_length]; omega)]
  · rw [List.getElem?_eq_none (by simp [blankM]; omega), List.getElem?_eq_none (by rw [turnK_length]; omega)]
theorem turnK_step (M : Mtx) (n i j : Nat) (hi : i < M.length) (hj : j < n) : (turnK M n i j).set j ((turnR M i j j).set i (at2 M i j)) = turnK M n i (j + 1) := by
  apply List.ext_getElem?
  intro a
  by_cases h : a < n
  · rw [List.getElem?_set, turnK_length, turnK_get M n i j a h, turnK_get M n i (j + 1) a h]
    by_cases e : j = a
    · subst e
      rw [if_pos rfl, if_pos hj]
      congr 1
      apply List.ext_getElem?
      intro b
      by_cases hb : b < M.length
      · rw [List.getElem?_set, turnR_length, turnR_get M i j j b hb, turnR_get M i (j + 1) j b hb]
        by_cases e2 : i = b
        · subst e2
          rw [if_pos rfl, if_pos hi, if_pos (by omega)]
        · rw [if_neg e2]
          by_cases h1 : b < i
          · rw [if_pos (.inl h1), if_pos (.inl h1)]
          · rw [if_neg (by omega), if_neg (by omega)]
      · rw [List.getElem?_eq_none (by rw [List.length_set, turnR_length]; omega), List.getElem?_eq_none (by rw [turnR_length]; omega)]
    · rw [if_neg e]
      congr 1
      apply List.ext_getElem?
      intro b
      by_cases hb : b < M.length
      · rw [turnR_get M i j a b hb, turnR_get M i (j + 1) a b hb]
        by_cases h1 : b < i ∨ (b = i ∧ a < j)
        · rw [if_pos h1, if_pos (by omega)]
        · rw [if_neg h1, if_neg (by omega)]
      · rw [List.getElem?_eq_none (by rw [turnR_length]; omega), List.getElem?_eq_none (by rw [turnR_length]; omega)]
  · rw [List.getElem?_eq_none (by rw [List.length_set, turnK_length]; omega), List.getElem?_eq_none (by rw [turnK_length]; omega)]
theorem turnK_next (M : Mtx) (n i : Nat) : turnK M n i n = turnK M n (i + 1) 0 := by
  unfold turnK turnR
  apply List.map_congr_left
  intro a ha
  have ha' := List.mem_range.1 ha
  apply List.map_congr_left
  intro b _
  by_cases h1 : b < i ∨ (b = i ∧ a < n)
  · rw [if_pos h1, if_pos (by omega)]
  · rw [if_neg h1, if_neg (by omega)]
theorem turnK_done (M : Mtx) (n : Nat) : turnK M n M.length 0 = turnedM M n := by
  unfold turnK turnedM
  apply List.map_congr_left
  intro a _
  apply List.ext_getElem?
  intro b
  by_cases hb : b < M.length
  · rw [turnR_get M M.length 0 a b hb, if_pos (.inl hb), List.getElem?_map, List.getElem?_eq_getElem hb]
    unfold at2
    rw [List.getD_eq_getElem?_getD (l := M), List.getElem?_eq_getElem hb]; rfl
  · rw [List.getElem?_eq_none (by rw [turnR_length]; omega), List.getElem?_eq_none (by simp; omega)]
def TurnRel (w : World) (M : Mtx) (lo hi g n i j : Nat) (wr : World) : Prop := MatO wr lo hi (.slice (some ⟨g, 0, none⟩) n n) (turnK M n i j) ∧ Below w.heap.size w wr ∧ wr.heap.size = hi ∧ lo = w.heap.size
end Go.Proofs.YtjokimlellbhjaaDoor

/-
  The program's each with a matrix's apply handed in, and Times.
-/
namespace Go.Proofs.YtjokimlellbhjaaDoor
open Go.RowKit

set_option maxRecDepth 20000
/-- the product, by columns -/
def timesM (M O : Mtx) : Mtx := turnedM ((turnedM O (O.headD []).length).map (applyL M)) M.length
def timesB (M O : Mtx) : Bool := rightB M && rightB O && decide ((M.headD []).length = O.length)
theorem turned_row (O : Mtx) (n : Nat) (k : Nat) (l : List UInt8) (h : (turnedM O n)[k]? = some l) : l.length = O.length := by
  unfold turnedM at h
  rw [List.getElem?_map] at h
  obtain ⟨a, _, rfl⟩ := Option.map_eq_some_iff.1 h
  simp
theorem turned_length (O : Mtx) (n : Nat) : (turnedM O n).length = n := by simp [turnedM]
end Go.Proofs.YtjokimlellbhjaaDoor
