/-
  Two matrices side by side, turned alike: what the program's inverse does to both.
-/
import Derived.Test.YtjokimlellbhjaaDoorGf16
import Derived.Test.YtjokimlellbhjaaDoorKGf10
namespace Go.Proofs.YtjokimlellbhjaaDoor
open Go.RowKit

set_option maxRecDepth 20000
def Dim (M : Mtx) (n : Nat) : Prop := M.length = n ∧ ∀ (k : Nat) (l : List UInt8), M[k]? = some l → l.length = n
theorem Dim.get {M : Mtx} {n i : Nat} (h : Dim M n) (hi : i < n) : M[i]? = some (M.getD i []) ∧ (M.getD i []).length = n := by
  have hlt : i < M.length := by rw [h.1]; exact hi
  have h1 : M[i]? = some M[i] := List.getElem?_eq_getElem hlt
  rw [getD_of h1]
  exact ⟨h1, h.2 i _ h1⟩
theorem Dim.set {M : Mtx} {n i : Nat} {l : List UInt8} (h : Dim M n) (hl : l.length = n) : Dim (M.set i l) n := by
  refine ⟨by rw [List.length_set]; exact h.1, fun k x hx => ?_⟩
  rw [List.getElem?_set] at hx
  split at hx
  · split at hx
    · cases hx; exact hl
    · cases hx
  · exact h.2 k x hx
theorem Dim.swap {M : Mtx} {n i p : Nat} (h : Dim M n) (hi : i < n) (hp : p < n) : Dim (swapM M i p) n := (h.set (h.get hp).2).set (h.get hi).2
theorem Dim.scale {M : Mtx} {n i : Nat} (h : Dim M n) (hi : i < n) (x : UInt8) : Dim (scaleM M i x) n := h.set (by unfold scaleR; rw [List.length_map]; exact (h.get hi).2)
theorem Dim.add {M : Mtx} {n p i : Nat} (h : Dim M n) (hp : p < n) (hi : i < n) (x : UInt8) : Dim (addM M p i x) n := h.set (by unfold addR; rw [List.length_zipWith, (h.get hp).2, (h.get hi).2, Nat.min_self])
theorem dim_unit (n : Nat) : Dim (unitM n) n := by
  refine ⟨unitM_length n, fun k l hl => ?_⟩
  have hk : k < n := by
    have := (List.getElem?_eq_some_iff.1 hl).1
    rwa [unitM_length] at this
  rw [← unitK_done, unitK_get n n k hk] at hl
  have := Option.some.inj hl
  rw [← this, if_pos hk]
  simp
structure Two (w0 : World) (a4 a5 g1 g2 n lo1 hi1 lo2 hi2 : Nat) (L R : Mtx) (w : World) : Prop where
  m1 : MatO w lo1 hi1 (.slice (some ⟨g1, 0, none⟩) n n) L
  m2 : MatO w lo2 hi2 (.slice (some ⟨g2, 0, none⟩) n n) R
  c4 : w.cell? ⟨a4, 0, none⟩ = some (.slice (some ⟨g1, 0, none⟩) n n)
  c5 : w.cell? ⟨a5, 0, none⟩ = some (.slice (some ⟨g2, 0, none⟩) n n)
  bel : Below w0.heap.size w0 w
  d1 : Dim L n
  d2 : Dim R n
  o0 : w0.heap.size ≤ lo1
  o1 : hi1 ≤ a4
  o2 : a4 < lo2
  o3 : hi2 ≤ a5
  o4 : a5 < w.heap.size
  o5 : a4 < a5
  o6 : w0.heap.size ≤ lo2
section
variable {w0 w w1 : World} {a4 a5 g1 g2 n lo1 hi1 lo2 hi2 : Nat} {L R L' R' : Mtx}
theorem Two.drewN (h : Two w0 a4 a5 g1 g2 n lo1 hi1 lo2 hi2 L R w) (q : Nat) : Two w0 a4 a5 g1 g2 n lo1 hi1 lo2 hi2 L R (w.drewN q) :=
  ⟨h.m1.drewN q, h.m2.drewN q, h.c4, h.c5, drewN_below h.bel q, h.d1, h.d2, h.o0, h.o1, h.o2, h.o3, h.o4, h.o5, h.o6⟩
theorem Two.left (h : Two w0 a4 a5 g1 g2 n lo1 hi1 lo2 hi2 L R w) (hm : MatO w1 lo1 hi1 (.slice (some ⟨g1, 0, none⟩) n n) L') (ho : Out lo1 hi1 w w1) (hd : Dim L' n) : Two w0 a4 a5 g1 g2 n lo1 hi1 lo2 hi2 L' R w1 := by
  obtain ⟨m1, m2, c4, c5, bel, d1, d2, o0, o1, o2, o3, o4, o5, o6⟩ := h
  exact ⟨hm, m2.move fun b h1 h2 h3 => ho.block b h3 (.inr (by omega)), (World.cell?_of_block (w := w) (a := ⟨a4, 0, none⟩) (ho.block a4 (by omega) (.inr o1))).trans c4,
    (World.cell?_of_block (w := w) (a := ⟨a5, 0, none⟩) (ho.block a5 o4 (.inr (by omega)))).trans c5, bel.trans (ho.below o0 bel.size), hd, d2, o0, o1, o2, o3, Nat.lt_of_lt_of_le o4 ho.size, o5, o6⟩
theorem Two.right (h : Two w0 a4 a5 g1 g2 n lo1 hi1 lo2 hi2 L R w) (hm : MatO w1 lo2 hi2 (.slice (some ⟨g2, 0, none⟩) n n) R') (ho : Out lo2 hi2 w w1) (hd : Dim R' n) : Two w0 a4 a5 g1 g2 n lo1 hi1 lo2 hi2 L R' w1 := by
  obtain ⟨m1, m2, c4, c5, bel, d1, d2, o0, o1, o2, o3, o4, o5, o6⟩ := h
  exact ⟨m1.move fun b h1 h2 h3 => ho.block b h3 (.inl (by omega)), hm, (World.cell?_of_block (w := w) (a := ⟨a4, 0, none⟩) (ho.block a4 (by omega) (.inl o2))).trans c4,
    (World.cell?_of_block (w := w) (a := ⟨a5, 0, none⟩) (ho.block a5 o4 (.inr o3))).trans c5, bel.trans (ho.below o6 bel.size), d1, hd, o0, o1, o2, o3, Nat.lt_of_lt_of_le o4 ho.size, o5, o6⟩
end
end Go.Proofs.YtjokimlellbhjaaDoor

/-
  The program's inverse.
-/
namespace Go.Proofs.YtjokimlellbhjaaDoor
open Go.RowKit

set_option maxRecDepth 20000
def gib (y : UInt8) : UInt8 := UInt8.ofNat (gi y.toNat)
theorem gib_nat (y : UInt8) : (gib y).toNat = gi y.toNat := by
  unfold gib
  rw [UInt8.toNat_ofNat']
  exact Nat.mod_eq_of_lt (gi_lt _)
def stepRow (i row : Nat) (S : Mtx × Mtx) : Mtx × Mtx := if row = i then S else (addM S.1 row i (at2 S.1 row i), addM S.2 row i (at2 S.1 row i))
def elimK (i : Nat) : Nat → Mtx × Mtx → Mtx × Mtx
  | 0, S => S
  | k + 1, S => stepRow i k (elimK i k S)
def turnM (i p : Nat) (S : Mtx × Mtx) : Mtx × Mtx :=
  (scaleM (swapM S.1 i p) i (gib (at2 (swapM S.1 i p) i i)), scaleM (swapM S.2 i p) i (gib (at2 (swapM S.1 i p) i i)))
def stepM (n i : Nat) (S : Mtx × Mtx) : Option (Mtx × Mtx) := match pivot S.1 i with
  | none => none
  | some p => some (elimK i n (turnM i p S))
def invK (n : Nat) (M : Mtx) : Nat → Option (Mtx × Mtx)
  | 0 => some (M, unitM n)
  | k + 1 => (invK n M k).bind (stepM n k)
theorem invK_none {n : Nat} {M : Mtx} {k : Nat} (h : invK n M k = none) : ∀ m, k ≤ m → invK n M m = none := by
  intro m hm
  obtain ⟨d, rfl⟩ : ∃ d, m = k + d := ⟨m - k, by omega⟩
  induction d with
  | zero => exact h
  | succ d ih =>
    show (invK n M (k + d)).bind (stepM n (k + d)) = none
    rw [ih (by omega)]; rfl
theorem pivFrom_some (M : Mtx) (n : Nat) : ∀ (f k p : Nat), pivFrom M n f k = some p → k ≤ p ∧ p < k + f ∧ at2 M p n ≠ 0
  | 0, k, p, h => by cases h
  | f + 1, k, p, h => by
    unfold pivFrom at h
    split at h
    · rename_i hx
      cases h
      exact ⟨Nat.le_refl _, by omega, hx⟩
    · obtain ⟨h1, h2, h3⟩ := pivFrom_some M n f (k + 1) p h
      exact ⟨by omega, by omega, h3⟩
theorem pivot_some {M : Mtx} {n i p : Nat} (h : pivot M i = some p) (hd : M.length = n) (hi : i < n) : i ≤ p ∧ p < n ∧ at2 M p i ≠ 0 := by
  obtain ⟨h1, h2, h3⟩ := pivFrom_some M i _ _ _ h
  exact ⟨h1, by omega, h3⟩
theorem swap_row {M : Mtx} {n i p : Nat} (hd : M.length = n) (hi : i < n) (hp : p < n) : (swapM M i p).getD i [] = M.getD p [] := by
  unfold swapM
  rw [List.getD_eq_getElem?_getD, List.getElem?_set]
  by_cases h : p = i
  · subst h
    rw [if_pos rfl, if_pos (by simp; omega)]; rfl
  · rw [if_neg h, List.getElem?_set_self (by omega)]; rfl
theorem at2_swap {M : Mtx} {n i p : Nat} (hd : M.length = n) (hi : i < n) (hp : p < n) (j : Nat) : at2 (swapM M i p) i j = at2 M p j := by
  unfold at2
  rw [swap_row hd hi hp]
section
variable {w0 w w1 : World} {a4 a5 g1 g2 n lo1 hi1 lo2 hi2 : Nat} {L R : Mtx}
theorem Two.elem (h : Two w0 a4 a5 g1 g2 n lo1 hi1 lo2 hi2 L R w) {i j : Nat} (hi : i < n) (hj : j < n) : ∃ b c, w.cell? ⟨g1, i, none⟩ = some (.slice (some ⟨b, 0, none⟩) n c) ∧ n ≤ c ∧ w.cell? ⟨b, j, none⟩ = some (.int .u8 ((at2 L i j).toNat : Int)) := by
  obtain ⟨q1, q2⟩ := h.d1.get hi
  obtain ⟨b, c, hr, _⟩ := h.m1.row q1
  have e1 := hr.head
  rw [q2] at e1
  have hx : (L.getD i [])[j]? = some (at2 L i j) := by
    unfold at2
    rw [List.getD_eq_getElem?_getD (l := L.getD i [])]
    rw [List.getElem?_eq_getElem (by rw [q2]; exact hj)]; rfl
  exact ⟨b, c, e1, by have := hr.cap; omega, hr.cells j _ hx⟩
theorem Two.start {A : Option Addr} (h0 : w0.heap.size ≤ w0.heap.size) (hm1 : MatO w w0.heap.size w.heap.size (.slice (some ⟨g1, 0, none⟩) n n) L) (hb : Below w0.heap.size w0 w) (hd : Dim L n)
    (hm2 : MatO w1 (w.heap.size + 1) w1.heap.size (.slice (some ⟨g2, 0, none⟩) n n) (unitM n)) (hb2 : Below (w.heap.size + 1) (w.alloc (.cells #[.slice (some ⟨g1, 0, none⟩) n n] 111)) w1) :
    Two w0 w.heap.size w1.heap.size g1 g2 n w0.heap.size w.heap.size (w.heap.size + 1) w1.heap.size L (unitM n) (w1.alloc (.cells #[.slice (some ⟨g2, 0, none⟩) n n] 111)) := by
  have hs : w.heap.size + 1 ≤ w1.heap.size := by have := hb2.size; simpa using this
  have hs0 := hb.size
  refine ⟨?_, ?_, ?_, cell_new _ _ _, ?_, hd, dim_unit n, Nat.le_refl _, Nat.le_refl _, by omega, Nat.le_refl _, by simp, by omega, by omega⟩
  · refine hm1.move fun b h1 h2 h3 => ?_
    exact (Below.heap_alloc _ _ b (by omega)).trans ((hb2.block b (by omega)).trans (Below.heap_alloc _ _ b h3))
  · exact hm2.move fun b h1 h2 h3 => Below.heap_alloc _ _ b h3
  · have e1 : (w1.alloc (.cells #[.slice (some ⟨g2, 0, none⟩) n n] 111)).cell? ⟨w.heap.size, 0, none⟩ = w1.cell? ⟨w.heap.size, 0, none⟩ := World.cell?_alloc_lt _ _ ⟨w.heap.size, 0, none⟩ (by show w.heap.size < _; omega)
    rw [e1, hb2.cell (p := ⟨w.heap.size, 0, none⟩) (by show w.heap.size < _; omega)]
    exact cell_new _ _ _
  · have q1 : Below w0.heap.size w0 (w.alloc (.cells #[.slice (some ⟨g1, 0, none⟩) n n] 111)) := hb.alloc hs0 _
    exact (q1.trans (hb2.mono (by omega))).alloc (by omega) _
end
end Go.Proofs.YtjokimlellbhjaaDoor

/-
  What the inverse is: row operations on both sides act alike on every vector; in the end the left one is Unit.
-/
namespace Go.Proofs.YtjokimlellbhjaaDoor
open Go.RowKit

set_option maxRecDepth 20000
theorem u8_ext {x y : UInt8} (h : x.toNat = y.toNat) : x = y := UInt8.toNat_inj.1 h
theorem bm_zero (x : UInt8) : bm 0 x = 0 := u8_ext (by rw [bm_nat]; exact gm_zero' _)
theorem bm_zero' (x : UInt8) : bm x 0 = 0 := u8_ext (by rw [bm_nat]; exact gm_zero _)
theorem bm_one (x : UInt8) : bm 1 x = x := u8_ext (by rw [bm_nat]; exact gm_one (u8_lt x))
theorem bm_comm (x y : UInt8) : bm x y = bm y x := u8_ext (by rw [bm_nat, bm_nat]; exact gm_comm (u8_lt x) (u8_lt y))
theorem bm_assoc (x y z : UInt8) : bm x (bm y z) = bm (bm x y) z := u8_ext (by rw [bm_nat, bm_nat, bm_nat, bm_nat]; exact gm_assoc (u8_lt x) (u8_lt y) (u8_lt z))
theorem bm_add (x y z : UInt8) : bm (x ^^^ y) z = bm x z ^^^ bm y z := u8_ext (by rw [bm_nat, bx_nat, bx_nat, bm_nat, bm_nat]; exact gm_xor_left _ (u8_lt x) (u8_lt y))
theorem bm_gib {x : UInt8} (h : x ≠ 0) : bm x (gib x) = 1 := u8_ext (by rw [bm_nat, gib_nat]; exact gm_gi (u8_lt x) fun e => h (u8_ext e))
theorem bx_self (x : UInt8) : x ^^^ x = 0 := u8_ext (by rw [bx_nat, Nat.xor_self]; rfl)
theorem bx_zero (x : UInt8) : x ^^^ 0 = x := u8_ext (by rw [bx_nat]; exact Nat.xor_zero _)
theorem zero_bx (x : UInt8) : 0 ^^^ x = x := u8_ext (by rw [bx_nat]; exact Nat.zero_xor _)
theorem bx_assoc (x y z : UInt8) : x ^^^ y ^^^ z = x ^^^ (y ^^^ z) := u8_ext (by simp only [bx_nat]; exact Nat.xor_assoc _ _ _)
theorem bx_comm (x y : UInt8) : x ^^^ y = y ^^^ x := u8_ext (by simp only [bx_nat]; exact Nat.xor_comm _ _)
theorem bx_swap (a b c d : UInt8) : (a ^^^ b) ^^^ (c ^^^ d) = (a ^^^ c) ^^^ (b ^^^ d) := by
  rw [bx_assoc, bx_assoc, ← bx_assoc b c d, bx_comm b c, bx_assoc c b d]

/-! dot products of turned rows -/
theorem scale_get (r : List UInt8) (x : UInt8) (k : Nat) : (scaleR r x).getD k 0 = bm (r.getD k 0) x := by
  unfold scaleR
  rw [List.getD_eq_getElem?_getD, List.getD_eq_getElem?_getD, List.getElem?_map]
  cases r[k]? with
  | none => simp [bm_zero]
  | some y => rfl
theorem add_get (r o : List UInt8) (x : UInt8) (h : r.length = o.length) (k : Nat) : (addR r o x).getD k 0 = r.getD k 0 ^^^ bm (o.getD k 0) x := by
  unfold addR
  rw [List.getD_eq_getElem?_getD, List.getD_eq_getElem?_getD, List.getD_eq_getElem?_getD, List.getElem?_zipWith]
  by_cases hk : k < r.length
  · rw [List.getElem?_eq_getElem hk, List.getElem?_eq_getElem (by omega)]; rfl
  · rw [List.getElem?_eq_none (by omega), List.getElem?_eq_none (by omega)]
    simp [bm_zero]
theorem dotK_scale (r v : List UInt8) (x : UInt8) : ∀ k, dotK (scaleR r x) v k = bm (dotK r v k) x
  | 0 => (bm_zero x).symm
  | k + 1 => by
    show dotK (scaleR r x) v k ^^^ bm ((scaleR r x).getD k 0) (v.getD k 0) = bm (dotK r v k ^^^ bm (r.getD k 0) (v.getD k 0)) x
    rw [dotK_scale r v x k, scale_get, bm_add]
    congr 1
    rw [← bm_assoc, bm_comm x, bm_assoc]
theorem dotK_add (r o v : List UInt8) (x : UInt8) (h : r.length = o.length) : ∀ k, dotK (addR r o x) v k = dotK r v k ^^^ bm (dotK o v k) x
  | 0 => by show (0 : UInt8) = 0 ^^^ bm 0 x; rw [bm_zero]; rfl
  | k + 1 => by
    show dotK (addR r o x) v k ^^^ bm ((addR r o x).getD k 0) (v.getD k 0) = (dotK r v k ^^^ bm (r.getD k 0) (v.getD k 0)) ^^^ bm (dotK o v k ^^^ bm (o.getD k 0) (v.getD k 0)) x
    rw [dotK_add r o v x h k, add_get r o x h, bm_add, bm_add, bx_swap]
    congr 2
    rw [← bm_assoc, bm_comm x, bm_assoc]
theorem dot_scale (r v : List UInt8) (x : UInt8) : dot (scaleR r x) v = bm (dot r v) x := by
  unfold dot
  rw [show (scaleR r x).length = r.length by simp [scaleR], dotK_scale]
theorem dot_add (r o v : List UInt8) (x : UInt8) (h : r.length = o.length) : dot (addR r o x) v = dot r v ^^^ bm (dot o v) x := by
  unfold dot
  rw [show (addR r o x).length = r.length by simp [addR, h], dotK_add r o v x h, ← h]
/-- a vector's turns -/
def vAt (u : List UInt8) (i : Nat) : UInt8 := u.getD i 0
theorem apply_get (M : Mtx) (v : List UInt8) (i : Nat) (h : i < M.length) : (applyL M v)[i]? = some (dot (M.getD i []) v) := by
  unfold applyL
  rw [List.getElem?_map, List.getElem?_eq_getElem h, getD_of (List.getElem?_eq_getElem h)]; rfl
theorem apply_ext {M N : Mtx} {u v : List UInt8} (hl : M.length = N.length) (h : ∀ i, i < M.length → dot (M.getD i []) u = dot (N.getD i []) v) : applyL M u = applyL N v := by
  apply List.ext_getElem?
  intro i
  by_cases hi : i < M.length
  · rw [apply_get M u i hi, apply_get N v i (by omega), h i hi]
  · rw [List.getElem?_eq_none (by simp [applyL]; omega), List.getElem?_eq_none (by simp [applyL]; omega)]
theorem apply_inj {M N : Mtx} {u v : List UInt8} (h : applyL M u = applyL N v) (i : Nat) (hi : i < M.length) (hl : M.length = N.length) : dot (M.getD i []) u = dot (N.getD i []) v := by
  have := congrArg (fun l => l[i]?) h
  rw [apply_get M u i hi, apply_get N v i (by omega)] at this
  exact Option.some.inj this
theorem set_getD {M : Mtx} {i k : Nat} {l : List UInt8} (hi : i < M.length) : (M.set i l).getD k [] = if k = i then l else M.getD k [] := by
  rw [List.getD_eq_getElem?_getD, List.getElem?_set]
  by_cases h : i = k
  · subst h
    rw [if_pos rfl, if_pos hi, if_pos rfl]; rfl
  · rw [if_neg h, if_neg (fun e => h e.symm), List.getD_eq_getElem?_getD]
theorem swap_getD {M : Mtx} {i p k : Nat} (hi : i < M.length) (hp : p < M.length) : (swapM M i p).getD k [] = M.getD (if k = p then i else if k = i then p else k) [] := by
  unfold swapM
  rw [set_getD (by rw [List.length_set]; exact hp)]
  by_cases h1 : k = p
  · rw [if_pos h1, if_pos h1]
  · rw [if_neg h1, if_neg h1, set_getD hi]
    by_cases h2 : k = i
    · rw [if_pos h2, if_pos h2]
    · rw [if_neg h2, if_neg h2]
/-- the same is done to both: what is told of every vector goes on -/
def Alike2 (n : Nat) (M L R : Mtx) : Prop := ∀ v : List UInt8, v.length = n → applyL L v = applyL R (applyL M v)
section
variable {n i p : Nat} {M L R : Mtx} {x : UInt8}
theorem Alike2.swap (h : Alike2 n M L R) (hL : Dim L n) (hR : Dim R n) (hi : i < n) (hp : p < n) : Alike2 n M (swapM L i p) (swapM R i p) := fun v hv => by
  have h1 := h v hv
  refine apply_ext (by simp [swapM, hL.1, hR.1]) fun k hk => ?_
  have hkn : k < n := by simpa [swapM, hL.1] using hk
  rw [swap_getD (by rw [hL.1]; exact hi) (by rw [hL.1]; exact hp), swap_getD (by rw [hR.1]; exact hi) (by rw [hR.1]; exact hp)]
  exact apply_inj h1 _ (by rw [hL.1]; split <;> (try split) <;> omega) (by rw [hL.1, hR.1])
theorem Alike2.scale (h : Alike2 n M L R) (hL : Dim L n) (hR : Dim R n) (hi : i < n) : Alike2 n M (scaleM L i x) (scaleM R i x) := fun v hv => by
  have h1 := h v hv
  refine apply_ext (by simp [scaleM, hL.1, hR.1]) fun k hk => ?_
  have hkn : k < n := by simpa [scaleM, hL.1] using hk
  unfold scaleM
  rw [set_getD (by rw [hL.1]; exact hi), set_getD (by rw [hR.1]; exact hi)]
  by_cases e : k = i
  · rw [if_pos e, if_pos e, dot_scale, dot_scale, apply_inj h1 i (by rw [hL.1]; exact hi) (by rw [hL.1, hR.1])]
  · rw [if_neg e, if_neg e]
    exact apply_inj h1 k (by rw [hL.1]; exact hkn) (by rw [hL.1, hR.1])
theorem Alike2.add (h : Alike2 n M L R) (hL : Dim L n) (hR : Dim R n) (hi : i < n) (hp : p < n) : Alike2 n M (addM L p i x) (addM R p i x) := fun v hv => by
  have h1 := h v hv
  refine apply_ext (by simp [addM, hL.1, hR.1]) fun k hk => ?_
  have hkn : k < n := by simpa [addM, hL.1] using hk
  unfold addM
  rw [set_getD (by rw [hL.1]; exact hp), set_getD (by rw [hR.1]; exact hp)]
  by_cases e : k = p
  · rw [if_pos e, if_pos e, dot_add _ _ _ _ (by rw [(hL.get hp).2, (hL.get hi).2]), dot_add _ _ _ _ (by rw [(hR.get hp).2, (hR.get hi).2]),
      apply_inj h1 p (by rw [hL.1]; exact hp) (by rw [hL.1, hR.1]), apply_inj h1 i (by rw [hL.1]; exact hi) (by rw [hL.1, hR.1])]
  · rw [if_neg e, if_neg e]
    exact apply_inj h1 k (by rw [hL.1]; exact hkn) (by rw [hL.1, hR.1])
end
theorem unit_getD (n i : Nat) (h : i < n) : (unitM n).getD i [] = (List.replicate n 0).set i 1 := by
  unfold unitM
  rw [List.getD_eq_getElem?_getD, List.getElem?_map, List.getElem?_range h]; rfl
theorem unitrow_get (n i k : Nat) (h : i < n) : ((List.replicate n (0 : UInt8)).set i 1).getD k 0 = if k = i then 1 else 0 := by
  rw [List.getD_eq_getElem?_getD, List.getElem?_set]
  by_cases e : i = k
  · subst e
    rw [if_pos rfl, if_pos (by simpa using h), if_pos rfl]; rfl
  · rw [if_neg e, if_neg (fun q => e q.symm), List.getElem?_replicate]
    split <;> rfl
theorem dot_unit (n i : Nat) (v : List UInt8) (h : i < n) : ∀ k, dotK ((List.replicate n (0 : UInt8)).set i 1) v k = if i < k then v.getD i 0 else 0
  | 0 => by rw [if_neg (by omega)]; rfl
  | k + 1 => by
    show dotK _ v k ^^^ bm (((List.replicate n (0 : UInt8)).set i 1).getD k 0) (v.getD k 0) = _
    rw [dot_unit n i v h k, unitrow_get n i k h]
    by_cases e : k = i
    · subst e
      rw [if_neg (by omega), if_pos rfl, if_pos (by omega), bm_one, zero_bx]
    · rw [if_neg e, bm_zero, bx_zero]
      by_cases h2 : i < k
      · rw [if_pos h2, if_pos (by omega)]
      · rw [if_neg h2, if_neg (by omega)]
theorem apply_unit (n : Nat) (v : List UInt8) (hv : v.length = n) : applyL (unitM n) v = v := by
  have hu : (unitM n).length = n := by simp [unitM]
  apply List.ext_getElem?
  intro i
  by_cases hi : i < n
  · rw [apply_get _ _ i (by omega), unit_getD n i hi]
    unfold dot
    rw [dot_unit n i v hi, if_pos (by simpa using hi), List.getElem?_eq_getElem (by omega), List.getD_eq_getElem?_getD, List.getElem?_eq_getElem (by omega)]; rfl
  · rw [List.getElem?_eq_none (by simp [applyL, hu]; omega), List.getElem?_eq_none (by omega)]
end Go.Proofs.YtjokimlellbhjaaDoor
