/-
  Lists of lists that grow by append: their headers the call's own; the rows the call's own, or only read. Parity's sums.
-/
import Derived.Test.YtonihcgjepfpkaaKRs12
namespace Go.Proofs.Ytonihcgjepfpkaa
open Go.RowKit

set_option maxRecDepth 20000
/-- header and rows are the call's own -/
structure ListO (w : World) (v : Value) (rows : List Value) (M : Mtx) (wr : World) : Prop where
  head : OwnV wr w.heap.size 41 v rows
  len : rows.length = M.length
  rows : ∀ (t : Nat) (r : Value) (l : List UInt8), rows[t]? = some r → M[t]? = some l → Own wr w.heap.size r l
  bel : Below w.heap.size w wr
theorem ListO.nil (w wr : World) (h : Below w.heap.size w wr) : ListO w (.slice none 0 0) [] [] wr := ⟨OwnV.nil _ _ _, rfl, fun t r l hr => by simp at hr, h⟩
theorem ListO.below {w wr w1 : World} {v : Value} {rows : List Value} {M : Mtx} (h : ListO w v rows M wr) (hb : Below wr.heap.size wr w1) : ListO w v rows M w1 :=
  ⟨h.head.move fun g hg => hb.block g (h.head.ge g hg).2, h.len, fun t r l hr hl => (h.rows t r l hr hl).below hb, h.bel.trans (hb.mono h.bel.size)⟩
theorem ListO.alloc {w wr : World} {v : Value} {rows : List Value} {M : Mtx} (h : ListO w v rows M wr) (o : Obj) : ListO w v rows M (wr.alloc o) := h.below ((Below.refl _ _).alloc (Nat.le_refl _) _)
theorem ListO.drewN {w wr : World} {v : Value} {rows : List Value} {M : Mtx} (h : ListO w v rows M wr) (q : Nat) : ListO w v rows M (wr.drewN q) := ⟨h.head.drewN q, h.len, h.rows, drewN_below h.bel q⟩
theorem own_head_ne {w : World} {lo lo2 : Nat} {v r : Value} {rows : List Value} {l : List UInt8} (h : Own w lo r l) (hv : OwnV w lo2 41 v rows) : ∀ g, r.ownBlock = some g → v.ownBlock ≠ some g := fun g hg hv2 => by
  rcases hv.form with ⟨e, _⟩ | ⟨g', cap, cur, e, _, hc, _⟩
  · rw [e] at hv2; cases hv2
  · rw [e] at hv2
    cases hv2
    exact own_ne h hc hg
theorem ListO.push {w wr w' : World} {v v' x : Value} {rows : List Value} {M : Mtx} {l : List UInt8} (h : ListO w v rows M wr) (hx : Own wr w.heap.size x l) (ho : OwnV w' w.heap.size 41 v' (rows ++ [x])) (hg : wr.grownBy w' v.ownBlock) : ListO w v' (rows ++ [x]) (M ++ [l]) w' := by
  have keep : ∀ (r : Value) (y : List UInt8), Own wr w.heap.size r y → Own w' w.heap.size r y := fun r y hr => hr.move fun b hb => hg.block b (hr.lt b hb).2 fun e => own_head_ne hr h.head b hb e.symm
  refine ⟨ho, by rw [List.length_append, List.length_append, h.len]; rfl, fun t r y hr hy => ?_, h.bel.grown hg h.bel.size fun g hg2 => (h.head.ge g hg2).1⟩
  by_cases ht : t < rows.length
  · rw [List.getElem?_append_left ht] at hr
    rw [List.getElem?_append_left (by rw [← h.len]; exact ht)] at hy
    exact keep r y (h.rows t r y hr hy)
  · rw [List.getElem?_append_right (by omega)] at hr
    rw [List.getElem?_append_right (by rw [← h.len]; omega), ← h.len] at hy
    have h0 : t - rows.length = 0 := by
      have := (List.getElem?_eq_some_iff.1 hr).1
      simp at this
      omega
    rw [h0] at hr hy
    cases hr
    cases hy
    exact keep _ _ hx
theorem ListO.rm {w wr : World} {v : Value} {rows : List Value} {M : Mtx} (h : ListO w v rows M wr) : ∃ A c, v = .slice A M.length c ∧ M.length ≤ c ∧ RM wr wr.heap.size A M := by
  obtain ⟨A, c, rfl, hc, _, hrd⟩ := h.head.rd
  rw [h.len] at hc ⊢
  refine ⟨A, c, rfl, hc, fun i l hl => ?_⟩
  obtain ⟨r, hr⟩ : ∃ r, rows[i]? = some r := ⟨_, List.getElem?_eq_getElem (by rw [h.len]; exact (List.getElem?_eq_some_iff.1 hl).1)⟩
  obtain ⟨b, rfl, hb, hcell⟩ := hrd i r hr
  obtain ⟨A', c', rfl, h1, h2, _⟩ := (h.rows i r l hr hl).rb
  exact ⟨b, 0, A', c', rfl, hb, by rw [Nat.zero_add]; exact hcell, h2, h1⟩
/-- the header is the call's own, the rows lie lower -/
structure ListR (w : World) (v : Value) (rows : List Value) (M : Mtx) (wr : World) : Prop where
  head : OwnV wr w.heap.size 41 v rows
  len : rows.length = M.length
  rows : ∀ (t : Nat) (r : Value) (l : List UInt8), rows[t]? = some r → M[t]? = some l → ∃ A c, r = .slice A l.length c ∧ RB wr w.heap.size A l ∧ l.length ≤ c
  bel : Below w.heap.size w wr
theorem ListR.nil (w wr : World) (h : Below w.heap.size w wr) : ListR w (.slice none 0 0) [] [] wr := ⟨OwnV.nil _ _ _, rfl, fun t r l hr => by simp at hr, h⟩
theorem ListR.below {w wr w1 : World} {v : Value} {rows : List Value} {M : Mtx} (h : ListR w v rows M wr) (hb : Below wr.heap.size wr w1) : ListR w v rows M w1 :=
  ⟨h.head.move fun g hg => hb.block g (h.head.ge g hg).2, h.len, fun t r l hr hl => by
    obtain ⟨A, c, e, h1, h2⟩ := h.rows t r l hr hl
    exact ⟨A, c, e, h1.below (hb.mono h.bel.size), h2⟩, h.bel.trans (hb.mono h.bel.size)⟩
theorem ListR.alloc {w wr : World} {v : Value} {rows : List Value} {M : Mtx} (h : ListR w v rows M wr) (o : Obj) : ListR w v rows M (wr.alloc o) := h.below ((Below.refl _ _).alloc (Nat.le_refl _) _)
theorem ListR.drewN {w wr : World} {v : Value} {rows : List Value} {M : Mtx} (h : ListR w v rows M wr) (q : Nat) : ListR w v rows M (wr.drewN q) := ⟨h.head.drewN q, h.len, h.rows, drewN_below h.bel q⟩
theorem ListR.push {w wr w' : World} {v v' : Value} {rows : List Value} {M : Mtx} {A : Option Addr} {c : Nat} {l : List UInt8} (h : ListR w v rows M wr) (hx : RB wr w.heap.size A l) (hc : l.length ≤ c) (ho : OwnV w' w.heap.size 41 v' (rows ++ [.slice A l.length c])) (hg : wr.grownBy w' v.ownBlock) :
    ListR w v' (rows ++ [.slice A l.length c]) (M ++ [l]) w' := by
  have keep : ∀ (A : Option Addr) (y : List UInt8), RB wr w.heap.size A y → RB w' w.heap.size A y := fun A y hy => hy.grown hg h.bel.size fun g hg2 => (h.head.ge g hg2).1
  refine ⟨ho, by rw [List.length_append, List.length_append, h.len]; rfl, fun t r y hr hy => ?_, h.bel.grown hg h.bel.size fun g hg2 => (h.head.ge g hg2).1⟩
  by_cases ht : t < rows.length
  · rw [List.getElem?_append_left ht] at hr
    rw [List.getElem?_append_left (by rw [← h.len]; exact ht)] at hy
    obtain ⟨A1, c1, e, h1, h2⟩ := h.rows t r y hr hy
    exact ⟨A1, c1, e, keep A1 y h1, h2⟩
  · rw [List.getElem?_append_right (by omega)] at hr
    rw [List.getElem?_append_right (by rw [← h.len]; omega), ← h.len] at hy
    have h0 : t - rows.length = 0 := by
      have := (List.getElem?_eq_some_iff.1 hr).1
      simp at this
      omega
    rw [h0] at hr hy
    cases hr
    cases hy
    exact ⟨A, c, rfl, keep A l hx, hc⟩
theorem ListR.rm {w wr : World} {v : Value} {rows : List Value} {M : Mtx} (h : ListR w v rows M wr) : ∃ A c, v = .slice A M.length c ∧ M.length ≤ c ∧ RM wr wr.heap.size A M := by
  obtain ⟨A, c, rfl, hc, _, hrd⟩ := h.head.rd
  rw [h.len] at hc ⊢
  refine ⟨A, c, rfl, hc, fun i l hl => ?_⟩
  obtain ⟨r, hr⟩ : ∃ r, rows[i]? = some r := ⟨_, List.getElem?_eq_getElem (by rw [h.len]; exact (List.getElem?_eq_some_iff.1 hl).1)⟩
  obtain ⟨b, rfl, hb, hcell⟩ := hrd i r hr
  obtain ⟨A', c', rfl, h1, h2⟩ := h.rows i r l hr hl
  exact ⟨b, 0, A', c', rfl, hb, by rw [Nat.zero_add]; exact hcell, h1.wide h.bel.size, h2⟩
/-! sums -/
def xorL (a b : List UInt8) : List UInt8 := List.zipWith (fun x y => x ^^^ y) a b
def xorM (a b : Mtx) : Mtx := List.zipWith xorL a b
theorem xorL_length {a b : List UInt8} (h : a.length = b.length) : (xorL a b).length = a.length := by simp [xorL, h]
theorem xorL_get {a b : List UInt8} (h : a.length = b.length) (j : Nat) : (xorL a b).getD j 0 = a.getD j 0 ^^^ b.getD j 0 := by
  unfold xorL
  rw [List.getD_eq_getElem?_getD, List.getD_eq_getElem?_getD, List.getD_eq_getElem?_getD, List.getElem?_zipWith]
  by_cases hj : j < a.length
  · rw [List.getElem?_eq_getElem hj, List.getElem?_eq_getElem (by omega)]; rfl
  · rw [List.getElem?_eq_none (by omega), List.getElem?_eq_none (by omega)]; rfl
theorem xorM_length {a b : Mtx} (h : a.length = b.length) : (xorM a b).length = a.length := by simp [xorM, h]
theorem xorM_get {a b : Mtx} {i : Nat} {x y : List UInt8} (hx : a[i]? = some x) (hy : b[i]? = some y) : (xorM a b)[i]? = some (xorL x y) := by
  unfold xorM
  rw [List.getElem?_zipWith, hx, hy]
theorem dotK_xor (r u v : List UInt8) (h : u.length = v.length) : ∀ k, dotK r (xorL u v) k = dotK r u k ^^^ dotK r v k
  | 0 => by show (0 : UInt8) = 0 ^^^ 0; decide
  | k + 1 => by
    show dotK r (xorL u v) k ^^^ bm (r.getD k 0) ((xorL u v).getD k 0) = (dotK r u k ^^^ bm (r.getD k 0) (u.getD k 0)) ^^^ (dotK r v k ^^^ bm (r.getD k 0) (v.getD k 0))
    rw [dotK_xor r u v h k, xorL_get h, bm_comm, bm_add, bm_comm (u.getD k 0), bm_comm (v.getD k 0), bx_swap]
theorem col_xor {a b : Mtx} {n j : Nat} (h : a.length = b.length) (ha : ∀ (t : Nat) (l : List UInt8), a[t]? = some l → l.length = n) (hb : ∀ (t : Nat) (l : List UInt8), b[t]? = some l → l.length = n) : col (xorM a b) j = xorL (col a j) (col b j) := by
  apply List.ext_getElem?
  intro i
  by_cases hi : i < a.length
  · have e1 := List.getElem?_eq_getElem hi
    have e2 := List.getElem?_eq_getElem (show i < b.length by omega)
    unfold col xorL
    rw [List.getElem?_map, List.getElem?_zipWith, List.getElem?_map, List.getElem?_map, xorM_get e1 e2, e1, e2]
    show some ((xorL a[i] b[i]).getD j 0) = some (a[i].getD j 0 ^^^ b[i].getD j 0)
    rw [xorL_get (by rw [ha i _ e1, hb i _ e2])]
  · rw [List.getElem?_eq_none (by rw [col_length, xorM_length h]; omega), List.getElem?_eq_none (by rw [xorL_length (by rw [col_length, col_length, h]), col_length]; omega)]
/-- the first k, summed -/
def xorK (v : List UInt8) : Nat → UInt8
  | 0 => 0
  | k + 1 => xorK v k ^^^ v.getD k 0
theorem dotK_ones (n : Nat) (v : List UInt8) : ∀ k, k ≤ n → dotK (List.replicate n 1) v k = xorK v k
  | 0, _ => rfl
  | k + 1, h => by
    show dotK _ v k ^^^ bm ((List.replicate n (1 : UInt8)).getD k 0) (v.getD k 0) = xorK v k ^^^ v.getD k 0
    rw [dotK_ones n v k (by omega), ones_get n k (by omega), bm_one]
end Go.Proofs.Ytonihcgjepfpkaa

/-
  Whatever two are missing: Rebuild's sums are the shards again.
-/
namespace Go.Proofs.Ytonihcgjepfpkaa
open Go.RowKit

set_option maxRecDepth 20000
/-- the shards and their parity -/
def allD (k n : Nat) (D : Mtx) : Mtx := D ++ linM (pairsM k) D n
theorem allD_length {k n : Nat} {D : Mtx} (hD : D.length = k) : (allD k n D).length = k + 2 := by
  unfold allD
  rw [List.length_append, linM_length, hD]; rfl
/-- each is a row of allM times the shards -/
theorem allD_get {k n j : Nat} {D : Mtx} (hD : D.length = k) (hl : ∀ (i : Nat) (l : List UInt8), D[i]? = some l → l.length = n) (hj : j < k + 2) : (allD k n D)[j]? = some (lin ((allM k).getD j []) D n) := by
  unfold allD
  by_cases h : j < k
  · rw [List.getElem?_append_left (by omega), allM_unit k j h]
    have e := List.getElem?_eq_getElem (show j < D.length by omega)
    rw [e]
    congr 1
    refine bytes_ext (hl j _ e) (lin_length (by simp [hD]) hl) fun b hb => ?_
    rw [lin_get (by simp [hD]) hl b hb]
    unfold dot
    rw [dot_unit k j _ h, List.length_set, List.length_replicate, if_pos h, col_get e]
  · rw [List.getElem?_append_right (by omega), hD]
    by_cases h2 : j = k
    · subst h2
      rw [Nat.sub_self, allM_ones]; rfl
    · obtain rfl : j = k + 1 := by omega
      rw [show k + 1 - k = 1 by omega, allM_pows]; rfl
theorem allD_row {k n j : Nat} {D : Mtx} {l : List UInt8} (hD : D.length = k) (hl : ∀ (i : Nat) (l : List UInt8), D[i]? = some l → l.length = n) (h : (allD k n D)[j]? = some l) : l.length = n := by
  have hj : j < k + 2 := by rw [← allD_length (n := n) hD]; exact (List.getElem?_eq_some_iff.1 h).1
  rw [allD_get hD hl hj] at h
  cases h
  refine lin_length ?_ hl
  have := List.getElem?_eq_getElem (show j < (allM k).length by rw [allM_length]; exact hj)
  rw [getD_of this, allM_row k j _ this, hD]; exact Nat.le_refl _
/-- some struck out -/
def Sub (X S : Mtx) : Prop := S.length = X.length ∧ ∀ (j : Nat), j < X.length → S.getD j [] = X.getD j [] ∨ S.getD j [] = []
theorem Sub.refl (X : Mtx) : Sub X X := ⟨rfl, fun _ _ => .inl rfl⟩
theorem set_getD' {S : Mtx} {g j : Nat} {l : List UInt8} (hg : g < S.length) : (S.set g l).getD j [] = if j = g then l else S.getD j [] := set_getD hg
theorem Sub.strike {X S : Mtx} (h : Sub X S) (g : Nat) (hg : g < X.length) : Sub X (S.set g []) := by
  refine ⟨by rw [List.length_set]; exact h.1, fun j hj => ?_⟩
  rw [set_getD' (by rw [h.1]; exact hg)]
  split
  · exact .inr rfl
  · exact h.2 j hj
theorem missK_set {S : Mtx} {g : Nat} (hg : g < S.length) (h0 : (S.getD g []).length ≠ 0) : ∀ i, (missK (S.set g []) i).length = (missK S i).length + if g < i then 1 else 0
  | 0 => by rw [if_neg (by omega)]; rfl
  | i + 1 => by
    have ih := missK_set hg h0 i
    have e1 : missK (S.set g []) (i + 1) = if ((S.set g []).getD i []).length = 0 then missK (S.set g []) i ++ [(i : Int)] else missK (S.set g []) i := rfl
    have e2 : missK S (i + 1) = if (S.getD i []).length = 0 then missK S i ++ [(i : Int)] else missK S i := rfl
    rw [e1, e2, set_getD' hg]
    by_cases hi : i = g
    · subst hi
      rw [if_pos rfl, if_pos List.length_nil, if_neg h0, List.length_append, ih, if_neg (by omega), if_pos (by omega)]; rfl
    · rw [if_neg hi]
      by_cases h1 : (S.getD i []).length = 0
      · rw [if_pos h1, if_pos h1, List.length_append, List.length_append, ih]
        by_cases h2 : g < i
        · rw [if_pos h2, if_pos (by omega)]; omega
        · rw [if_neg h2, if_neg (by omega)]; omega
      · rw [if_neg h1, if_neg h1, ih]
        by_cases h2 : g < i
        · rw [if_pos h2, if_pos (by omega)]
        · rw [if_neg h2, if_neg (by omega)]
theorem missL_set {S : Mtx} {g : Nat} (hg : g < S.length) (h0 : (S.getD g []).length ≠ 0) : (missL (S.set g [])).length = (missL S).length + 1 := by
  unfold missL
  rw [List.length_set, missK_set hg h0, if_pos hg]
theorem missL_full {X : Mtx} (h : ∀ (i : Nat) (l : List UInt8), X[i]? = some l → l.length ≠ 0) : (missL X).length = 0 := by
  have hm : ∀ i, i ≤ X.length → missK X i = [] := fun i => by
    induction i with
    | zero => intro _; rfl
    | succ i ih =>
      intro hi
      have e := List.getElem?_eq_getElem (show i < X.length by omega)
      show (if (X.getD i []).length = 0 then missK X i ++ [(i : Int)] else missK X i) = []
      rw [if_neg (by rw [getD_of e]; exact h i _ e)]
      exact ih (by omega)
  unfold missL
  rw [hm _ (Nat.le_refl _)]; rfl
theorem sub_fit {k n : Nat} {D S : Mtx} (hD : D.length = k) (hl : ∀ (i : Nat) (l : List UInt8), D[i]? = some l → l.length = n) (hs : Sub (allD k n D) S) :
    fitB ((k : Int) + 2) S = true ∧ ∀ (i : Nat) (l : List UInt8), S[i]? = some l → l.length = 0 ∨ l.length = n := by
  have hS : S.length = k + 2 := by rw [hs.1, allD_length hD]
  have hrow : ∀ (i : Nat) (l : List UInt8), S[i]? = some l → l.length = 0 ∨ l.length = n := fun i l hi => by
    have hj : i < (allD k n D).length := by rw [← hs.1]; exact (List.getElem?_eq_some_iff.1 hi).1
    rcases hs.2 i hj with h | h
    · rw [getD_of hi] at h
      have e := List.getElem?_eq_getElem hj
      rw [getD_of e] at h
      rw [h]
      exact .inr (allD_row hD hl e)
    · rw [getD_of hi] at h
      rw [h]; exact .inl rfl
  refine ⟨?_, hrow⟩
  unfold fitB
  rw [decide_eq_true (by rw [hS]; omega)]
  rcases hq : fitS 0 S with _ | m
  · exact absurd (fun l hl => by
      obtain ⟨i, hi⟩ := List.getElem?_of_mem hl
      exact hrow i l hi) (fitS_none S 0 hq n (.inl rfl))
  · rfl
theorem any_lost {k n : Nat} {D S : Mtx} (hD : D.length = k) (hl : ∀ (i : Nat) (l : List UInt8), D[i]? = some l → l.length = n) (hs : Sub (allD k n D) S) (hm : 2 < (missL S).length) : rebL k S = [] ∧ rebE k S = 7 := by
  have hf := (sub_fit hD hl hs).1
  have hb : rebB k S = false := by unfold rebB; rw [hf, decide_eq_false (by omega)]; rfl
  constructor
  · unfold rebL; rw [hb]; rfl
  · unfold rebE; rw [if_pos hf, if_neg (by omega)]
theorem any_reb {k n : Nat} {D S : Mtx} (hk1 : 1 ≤ k) (hk2 : k ≤ 253) (hn : 1 ≤ n) (hD : D.length = k) (hl : ∀ (i : Nat) (l : List UInt8), D[i]? = some l → l.length = n) (hs : Sub (allD k n D) S) (hm : (missL S).length ≤ 2) : rebL k S = allD k n D ∧ rebE k S = 0 := by
  obtain ⟨hf, hrow⟩ := sub_fit hD hl hs
  have hb : rebB k S = true := by unfold rebB; rw [hf, decide_eq_true hm]; rfl
  obtain ⟨h1, h2, h3, h4, h5⟩ := lens_of hb hk1
  obtain ⟨V, hV⟩ := first_inv hk2 h1 h2
  have hd := first_dim h1 h5
  have hdV : Dim V.2 k := (invK_good hd k V (Nat.le_refl _) hV).d2
  have hX := allD_length (n := n) hD
  -- those that are there are the shards'
  have hthere : ∀ x ∈ (thereL S).take k, ∃ m : Nat, x = (m : Int) ∧ m < k + 2 ∧ S.getD m [] = lin ((allM k).getD m []) D n := fun x hx => by
    obtain ⟨m, rfl, hm1, hm2⟩ := (mem_there S.length).1 (List.mem_of_mem_take hx)
    refine ⟨m, rfl, by omega, ?_⟩
    rcases hs.2 m (by omega) with h | h
    · rw [h]
      exact getD_of (allD_get hD hl (by omega))
    · rw [h] at hm2; exact absurd rfl hm2
  have hlen : lenS S = n := by
    obtain ⟨x, hx⟩ : ∃ x, (thereL S)[0]? = some x := ⟨_, List.getElem?_eq_getElem (by omega)⟩
    obtain ⟨m, rfl, hm1, hm2⟩ := (mem_there S.length).1 (List.mem_of_getElem? hx)
    have e := List.getElem?_eq_getElem hm1
    rw [getD_of e] at hm2
    rcases h4 m _ e with q | q
    · exact absurd q hm2
    · rcases hrow m _ e with q2 | q2
      · exact absurd q2 hm2
      · omega
  have hpl : (pick S ((thereL S).take k)).length = k := by rw [pick_length, List.length_take]; omega
  have hfl := first_len (k := k) h4
  rw [hlen] at hfl
  have hcol : ∀ b, b < n → col (pick S ((thereL S).take k)) b = applyL (pick (allM k) ((thereL S).take k)) (col D b) := fun b hb9 => by
    unfold col pick applyL
    rw [List.map_map, List.map_map]
    apply List.map_congr_left
    intro x hx
    obtain ⟨m, rfl, hm1, hm2⟩ := hthere x hx
    show (S.getD (Int.toNat (m : Int)) []).getD b 0 = dot ((allM k).getD (Int.toNat (m : Int)) []) (col D b)
    rw [Int.toNat_natCast, hm2]
    refine lin_get ?_ hl b hb9
    have e := List.getElem?_eq_getElem (show m < (allM k).length by rw [allM_length]; exact hm1)
    rw [getD_of e, allM_row k m _ e, hD]; exact Nat.le_refl _
  have hVs : ∀ (i : Nat) (r : List UInt8), V.2[i]? = some r → r.length ≤ (pick S ((thereL S).take k)).length := fun i r hr => by rw [hdV.2 i r hr, hpl]; exact Nat.le_refl _
  -- the inverse's products are the shards
  have hdata : linM V.2 (pick S ((thereL S).take k)) n = D := by
    apply List.ext_getElem?
    intro j
    by_cases hj : j < k
    · have e := List.getElem?_eq_getElem (show j < D.length by omega)
      obtain ⟨vr, ev⟩ : ∃ vr, V.2[j]? = some vr := ⟨_, List.getElem?_eq_getElem (by rw [hdV.1]; exact hj)⟩
      rw [linM_get _ _ _ j _ ev, e]
      congr 1
      refine bytes_ext (lin_length (hVs j _ ev) hfl) (hl j _ e) fun b hb9 => ?_
      rw [lin_get (hVs j _ ev) hfl b hb9, hcol b hb9]
      have hu := inv_undoes hd hV (col D b) (by rw [col_length, hD])
      have := congrArg (fun l => l.getD j 0) hu
      unfold applyL at this
      rw [show (List.map (fun r => dot r (List.map (fun r => dot r (col D b)) (pick (allM k) ((thereL S).take k)))) V.2).getD j 0 = dot vr (applyL (pick (allM k) ((thereL S).take k)) (col D b)) from map_getD _ ev] at this
      rw [this, col_get e]
    · rw [List.getElem?_eq_none (by rw [linM_length, hdV.1]; omega), List.getElem?_eq_none (by omega)]
  constructor
  · apply List.ext_getElem?
    intro j
    by_cases hj : j < k + 2
    · rw [reb_get hb hk1 hk2 hV hj, allD_get hD hl hj]
      congr 1
      by_cases h0 : (S.getD j []).length = 0
      · rw [if_pos h0, hlen, hdata]
      · rw [if_neg h0]
        rcases hs.2 j (by omega) with h | h
        · rw [h]; exact getD_of (allD_get hD hl hj)
        · rw [h] at h0; exact absurd rfl h0
    · rw [List.getElem?_eq_none (by unfold rebL; rw [if_pos hb, setK_length]; omega), List.getElem?_eq_none (by omega)]
  · unfold rebE
    rw [if_pos hf, if_pos hm]
/-! headers that are read -/
theorem rm_rows {w : World} {B b o : Nat} {M : Mtx} (h : RM w B (some ⟨b, o, none⟩) M) : ∃ rows : List Value, rows.length = M.length ∧ (∀ (i : Nat) (r : Value), rows[i]? = some r → w.cell? ⟨b, o + i, none⟩ = some r) ∧
    ∀ (i : Nat) (r : Value) (l : List UInt8), rows[i]? = some r → M[i]? = some l → ∃ A c, r = .slice A l.length c ∧ RB w B A l ∧ l.length ≤ c := by
  have hget : ∀ (i : Nat) (r : Value), ((List.range M.length).map fun i => (w.cell? ⟨b, o + i, none⟩).getD undef)[i]? = some r → i < M.length ∧ r = (w.cell? ⟨b, o + i, none⟩).getD undef := fun i r hr => by
    have hi := (List.getElem?_eq_some_iff.1 hr).1
    rw [List.length_map, List.length_range] at hi
    rw [List.getElem?_map, List.getElem?_range hi] at hr
    exact ⟨hi, (Option.some.inj hr).symm⟩
  refine ⟨(List.range M.length).map fun i => (w.cell? ⟨b, o + i, none⟩).getD undef, by simp, fun i r hr => ?_, fun i r l hr hl => ?_⟩
  · obtain ⟨hi, rfl⟩ := hget i r hr
    obtain ⟨A', c', hc, _⟩ := h.row (List.getElem?_eq_getElem hi)
    rw [hc]; rfl
  · obtain ⟨hi, rfl⟩ := hget i r hr
    obtain ⟨A', c', hc, hr2, hcap⟩ := h.row hl
    rw [hc]
    exact ⟨A', c', rfl, hr2, hcap⟩
theorem ListR.set {w wr : World} {g n c i : Nat} {rows : List Value} {M : Mtx} (h : ListR w (.slice (some ⟨g, 0, none⟩) n c) rows M wr) (hi : i < M.length) :
    (∃ u, wr.cell? ⟨g, i, none⟩ = some u) ∧ wr.frozen? ⟨g, i, none⟩ = false ∧ ListR w (.slice (some ⟨g, 0, none⟩) n c) (rows.set i (.slice none 0 0)) (M.set i []) (wr.setCell ⟨g, i, none⟩ (.slice none 0 0)) := by
  have hg := (h.head.ge g rfl).1
  have hil : i < rows.length := by rw [h.len]; exact hi
  rcases h.head.form with ⟨hv, _⟩ | ⟨g', cap, cur, hv, _, hc, hn, hm, hl, ht⟩
  · cases hv
  have e0 : g = g' := by
    have := (Value.slice.inj hv).1
    simpa using this
  subst e0
  have hcur : i < cur.length := by
    have := congrArg List.length ht
    rw [List.length_take] at this
    omega
  refine ⟨⟨_, hc.cell (List.getElem?_eq_getElem hcur)⟩, hc.frozen i, h.head.set i _, by rw [List.length_set, List.length_set]; exact h.len, fun t r l hr hl2 => ?_, h.bel.setCell (p := ⟨g, i, none⟩) hg _⟩
  by_cases e : t = i
  · subst e
    rw [List.getElem?_set_self hil] at hr
    rw [List.getElem?_set_self hi] at hl2
    cases hr
    cases hl2
    exact ⟨none, 0, rfl, RB.nil _ _ _, Nat.le_refl _⟩
  · rw [List.getElem?_set_ne (fun q => e q.symm)] at hr hl2
    obtain ⟨A, c', e1, h1, h2⟩ := h.rows t r l hr hl2
    exact ⟨A, c', e1, h1.move (fun p hp => World.cell?_of_block (Below.heap_setCell _ _ _ _ (by show p.block ≠ g; omega))) (Nat.le_refl _), h2⟩
end Go.Proofs.Ytonihcgjepfpkaa

/-
  The program's Check.
-/
namespace Go.Proofs.Ytonihcgjepfpkaa
open Go.RowKit

set_option maxRecDepth 20000
theorem equal_any (A A2 : Option Addr) (c c2 : Nat) (l m : List UInt8) (w : World) (B : Nat) (h : RB w B A l) (h2 : RB w B A2 m) :
    Calls Try.prog 41 #[.slice A l.length c, .slice A2 m.length c2] w fun e w' => e = .returned (.bool (decide (l = m))) ∧ w = w' := by
  have t1 := text_run w B A l c h
  have t2 := text_run w B A2 m c2 h2
  have He : Hid (((⟨l.toArray⟩ : ByteArray).toList == (⟨m.toArray⟩ : ByteArray).toList) = decide (l = m)) := by
    show _ = _
    rw [eq_text]
    by_cases e : l = m
    · rw [decide_eq_true (by rw [e]), decide_eq_true e]
    · rw [decide_eq_false (fun q => e (by
        have := congrArg (fun s : ByteArray => s.data.toList) q
        simpa using this)), decide_eq_false e]
  generalize (⟨l.toArray⟩ : ByteArray) = X at *
  generalize (⟨m.toArray⟩ : ByteArray) = Y at *
  generalize l.length = n1 at *
  generalize m.length = n2 at *
  clear h h2
  go_enter Try.func41, Try.ntmps41
  go_wp2_with fail
  go_ret
  exact ⟨by rw [← He.out]; rfl, rfl⟩
set_option maxHeartbeats 1600000 in
theorem eqf_any (A A2 : Option Addr) (c c2 : Nat) (M M2 : Mtx) (w : World) (B : Nat) (h : RM w B A M) (h2 : RM w B A2 M2) (hl : M.length ≤ 1048576) (hl2 : M2.length ≤ 1048576) :
    Calls Try.prog 40 #[.slice A M.length c, .slice A2 M2.length c2, .func (.func 41) #[] #[]] w fun e w' => e = .returned (.bool (decide (M = M2))) ∧ w = w' := by
  by_cases hne : M.length = M2.length
  case neg =>
    have hb : (((M.length : Nat) : Int) != ((M2.length : Nat) : Int)) = true := by simp; omega
    have Hr : Hid (decide (M = M2) = false) := decide_eq_false fun e => hne (by rw [e])
    generalize M.length = n1 at *
    generalize M2.length = n2 at *
    clear h h2 hl hne
    go_enter Try.func40, Try.ntmps40
    go_wp2_with fail
    go_ret
    exact ⟨by rw [Hr.out]; rfl, rfl⟩
  obtain ⟨N, hN⟩ : ∃ N, N = M.length := ⟨_, rfl⟩
  have HN : Hid (N = M.length ∧ N = M2.length) := ⟨hN, by rw [← hne]; exact hN⟩
  have Hh := Lib.hid h
  have Hh2 := Lib.hid h2
  rw [← hne, ← hN]
  have hNb : (N : Int) ≤ 1048576 := by omega
  clear h h2 hl hl2 hne hN
  have Hst : Hid (M.take 0 = M2.take 0) := rfl
  go_enter Try.func40, Try.ntmps40
  go_wp2_with fail
  go_loop [7, 8, 9, 17] (fun _ _ _ iv => ∃ k : Nat, iv = .int .i64 (k : Int) ∧ k ≤ N ∧ Hid (M.take k = M2.take k)) (fun _ _ _ iv => N - (intOf iv).toNat)
  case atStart => exact ⟨0, rfl, Nat.zero_le _, Hst.out⟩
  case round =>
    obtain ⟨k, rfl, hk, hpre⟩ := hrel
    by_cases hlt : k < N
    · obtain ⟨l, hx⟩ : ∃ l, M[k]? = some l := ⟨_, List.getElem?_eq_getElem (by rw [← HN.out.1]; exact hlt)⟩
      obtain ⟨l2, hx2⟩ : ∃ l2, M2[k]? = some l2 := ⟨_, List.getElem?_eq_getElem (by rw [← HN.out.2]; exact hlt)⟩
      obtain ⟨b, o, A', c', rfl, hb, hc, hr, _⟩ := Hh.out k l hx
      obtain ⟨b2, o2, A2', c2', rfl, hb2, hc2, hr2, _⟩ := Hh2.out k l2 hx2
      have HE := Lib.hid (equal_any A' A2' c' c2' l l2 w B hr hr2)
      have hk' : (k : Int) < (N : Int) := by omega
      by_cases heq : l = l2
      · subst heq
        rw [decide_eq_true rfl] at HE
        have Hn : Hid (M.take (k + 1) = M2.take (k + 1)) := by
          show _ = _
          rw [List.take_add_one, List.take_add_one, hx, hx2, hpre.out]
        generalize l.length = m at *
        clear hx hx2 hr hr2 hb hb2 hpre hlt
        go_wp2_with fail
        refine HE.out.mono ?_
        rintro e w1 ⟨rfl, rfl⟩
        go_wp2_with fail
        go_round
        case rel => exact ⟨k + 1, by go_num, by omega, Hn.out⟩
        case measure => simp [intOf]; omega
      · have Hr : Hid (decide (M = M2) = false) := decide_eq_false fun e => heq (by
          rw [e, hx2] at hx
          exact (Option.some.inj hx).symm)
        rw [decide_eq_false heq] at HE
        generalize l.length = m at *
        generalize l2.length = m2 at *
        clear hx hx2 hr hr2 hb hb2 hpre hlt heq
        go_wp2_with fail
        refine HE.out.mono ?_
        rintro e w1 ⟨rfl, rfl⟩
        go_wp2_with fail
        go_ret
        exact ⟨by rw [Hr.out]; rfl, rfl⟩
    · obtain rfl : k = N := by omega
      have Hr : Hid (decide (M = M2) = true) := decide_eq_true (by
        have := hpre.out
        rwa [List.take_of_length_le (by rw [← HN.out.1]; exact Nat.le_refl _), List.take_of_length_le (by rw [← HN.out.2]; exact Nat.le_refl _)] at this)
      clear hlt hpre
      go_wp2_with fail
      go_ret
      exact ⟨by rw [Hr.out]; rfl, rfl⟩
/-- what Check tells -/
def chkB (k : Nat) (S : Mtx) : Bool := fitB ((k : Int) + 2) S && decide ((missL S).length = 0)
def chkV (k : Nat) (S : Mtx) : Bool := decide (parL k (S.take k) = S.drop k)
def chkA (k : Nat) (S : Mtx) : Bool := chkB k S && chkV k S
def chkE (k : Nat) (S : Mtx) : Int := if chkB k S then 0 else 1
theorem chk_facts {k : Nat} {S : Mtx} (h : chkB k S = true) : S.length = k + 2 ∧ 1 ≤ (S.headD []).length ∧ ∀ (i : Nat) (l : List UInt8), S[i]? = some l → l.length = (S.headD []).length := by
  have h' : parB (k + 2) S = true := by
    unfold chkB at h
    unfold parB
    rw [show (((k + 2 : Nat)) : Int) = (k : Int) + 2 by omega]
    exact h
  exact par_facts h' (by omega)
theorem RM.take' {w : World} {B : Nat} {A : Option Addr} {M : Mtx} (h : RM w B A M) (k : Nat) : RM w B A (M.take k) := fun j l hl => by
  rw [List.getElem?_take] at hl
  split at hl
  · exact h j l hl
  · cases hl
theorem RM.drop' {w : World} {B b o : Nat} {M : Mtx} (h : RM w B (some ⟨b, o, none⟩) M) (k : Nat) : RM w B (some ⟨b, o + k, none⟩) (M.drop k) := fun j l hl => by
  rw [List.getElem?_drop] at hl
  obtain ⟨b', o', A', c, e, hb, hc, hr, hcap⟩ := h _ l hl
  cases e
  exact ⟨b, o + k, A', c, rfl, hb, by rw [Nat.add_assoc]; exact hc, hr, hcap⟩
theorem slice_low (W : World) (b o k n c : Nat) (h1 : k ≤ n) (h2 : k < c) : (Instr.sliceAt 22 (.slice (some ⟨b, o, none⟩) n c) (some (.int .i64 (k : Int))) none none).run Try.prog W = .ok (.slice (some ⟨b, o + k, none⟩) (n - k) (c - k)) W := by
  have h3 : (k : Int) ≤ (n : Int) := by omega
  have h4 : ¬ k = c := by omega
  simp [go_sem, h3, h4, sliced, Addr.add]
  rw [if_neg (by omega)]
  by_cases h5 : k = 0
  · subst h5; simp
  · simp [h5]
set_option maxHeartbeats 1600000 in
theorem check_body (c0 c1 bc k N c : Nat) (A : Option Addr) (S : Mtx) (w : World) (he : EnvAt c0 c1 bc k (.slice A N c) w) (h : RM w w.heap.size A S) (hN : N = S.length) (hNc : N ≤ c) (hN2 : N ≤ 255) (hk1 : 1 ≤ k) (hk2 : k ≤ 253) (hl : ∀ (k : Nat) (l : List UInt8), S[k]? = some l → l.length ≤ 1048576) :
    Calls Try.prog 38 #[.pointer (some ⟨c0, 0, none⟩), .pointer (some ⟨c1, 0, none⟩)] w (DoPost w (fun v _ => chkB k S = true ∧ v = .bool (chkV k S)) (fun x => chkB k S = false ∧ x = 1)) := by
  have Hb : Hid (N = S.length ∧ N ≤ 255 ∧ 1 ≤ k ∧ k ≤ 253 ∧ N ≤ c) := ⟨hN, hN2, hk1, hk2, hNc⟩
  have Hh := Lib.hid h
  have He := Lib.hid he
  have Hl := Lib.hid hl
  have HF := Lib.hid (mustFit_any ((k : Int) + 2) A c N S w.drew _ (h.drewN 1) hN (by omega) hl)
  have HT := Lib.hid (mustBeThere_any A c N S w.drew (h.drewN 1) hN (by omega))
  have hk2' : (k : Int) ≤ 253 := by omega
  have hN2' : (N : Int) ≤ 255 := by omega
  obtain ⟨q1, q2, q3⟩ := he
  clear h hN hNc hN2 hk1 hk2 hl
  go_enter Try.func38, Try.ntmps38
  go_wp2_with fail
  refine wp_region_still_tail 6 (by kernel_rfl) (by kernel_rfl) ?_
  simp only [List.take_succ_cons, List.take_zero, List.drop_succ_cons, List.drop_zero]
  repeat still_step
  try refine wpStill_nil ?_
  change wpList _ _ _ _ _ w.drew
  go_wp2_with fail
  rcases hf : fitB ((k : Int) + 2) S with _ | _
  · rw [hf] at HF
    refine HF.out.mono ?_
    rintro e w1 ⟨rfl, rfl⟩
    change bodyPost _ _ _ (Exit.panic _) _ _
    exact ⟨rfl, drewN_below (Below.refl _ _) 1, .inr ⟨1, ⟨by unfold chkB; rw [hf]; rfl, rfl⟩, rfl⟩⟩
  rw [hf] at HF
  have HF2 : Hid (Calls Try.prog 22 #[.int .i64 ((k : Int) + 2), .slice A N c] w.drew fun e w' => e = .returned (.tuple #[]) ∧ w.drew = w') := HF.out
  have Hf := Lib.hid hf
  clear hf HF
  refine HF2.out.mono ?_
  rintro e w1 ⟨rfl, rfl⟩
  go_wp2_with fail
  rcases hm : decide ((missL S).length = 0) with _ | _
  · rw [hm] at HT
    refine HT.out.mono ?_
    rintro e w1 ⟨rfl, hb⟩
    change bodyPost _ _ _ (Exit.panic _) _ _
    exact ⟨rfl, (drewN_below (Below.refl _ _) 1).trans hb, .inr ⟨1, ⟨by unfold chkB; rw [Hf.out, hm]; rfl, rfl⟩, rfl⟩⟩
  rw [hm] at HT
  have HT2 : Hid (Calls Try.prog 23 #[.slice A N c] w.drew fun e w' => e = .returned (.tuple #[]) ∧ Below w.drew.heap.size w.drew w') := HT.out
  have Hp : Hid (chkB k S = true) := by unfold Hid chkB; rw [Hf.out, hm]; rfl
  clear hm HT HF2 Hf
  refine HT2.out.mono ?_
  rintro e w2 ⟨rfl, hb2⟩
  have hb2 : Below w.heap.size w w2 := (drewN_below (Below.refl _ w) 1).trans hb2
  obtain ⟨p1, p2, p3⟩ := chk_facts Hp.out
  obtain ⟨b, o, rfl, hbl⟩ := Hh.out.at_ (by omega)
  obtain ⟨r1, r2, r3⟩ := He.out.below hb2
  have HS : Hid (∀ W, Below w.heap.size w W → W.cell? ⟨c0, 0, none⟩ = some (.pointer (some ⟨bc, 0, none⟩)) ∧ W.cell? ⟨bc, 0, none⟩ = some (.int .i64 (k : Int)) ∧ W.cell? ⟨c1, 0, none⟩ = some (.slice (some ⟨b, o, none⟩) N c)) := fun W hb => ⟨(He.out.below hb).code, (He.out.below hb).num, (He.out.below hb).shards⟩
  have Hb2 : Hid (Below w.heap.size w w2.drew) := drewN_below hb2 1
  have hpb : parB k (S.take k) = true := par_yes (by rw [List.length_take]; omega) p2 (fun i l hl => by
    rw [List.getElem?_take] at hl
    split at hl
    · exact p3 i l hl
    · cases hl)
  have HPar : Hid (Calls Try.prog 12 #[.pointer (some ⟨bc, 0, none⟩), .slice (some ⟨b, o, none⟩) k c] w2.drew fun e w' => ∃ A8 c8, e = .returned (.tuple #[.slice A8 2 c8, .int .i64 0]) ∧ RM w' w'.heap.size A8 (parL k (S.take k)) ∧ Below w2.drew.heap.size w2.drew w') := by
    have := parity_any bc k k c (some ⟨b, o, none⟩) (S.take k) w2.drew r2 (((Hh.out.take' k).below hb2).wide hb2.size |>.drewN 1) (by rw [List.length_take]; omega) (by have := Hb.out; omega) Hb.out.2.2.1 Hb.out.2.2.2.1 (fun i l hl => by
      rw [List.getElem?_take] at hl
      split at hl
      · exact Hl.out i l hl
      · cases hl)
    have e2 : parE k (S.take k) = 0 := by unfold parE; rw [if_pos hpb]
    rw [e2] at this
    refine this.mono fun e w' hx => ?_
    obtain ⟨A8, c8, g1, g2, _, g3⟩ := hx.rm
    rw [show (parL k (S.take k)).length = 2 by unfold parL; rw [if_pos hpb]; rfl] at g1
    exact ⟨A8, c8, g1, g2, g3⟩
  have Hpl : Hid ((parL k (S.take k)).length = 2 ∧ S.length = k + 2) := ⟨by unfold parL; rw [if_pos hpb]; rfl, p1⟩
  have hkc : (k : Int) ≤ (c : Int) := by have := Hb.out; omega
  have hkN : (k : Int) ≤ (N : Int) := by have := Hb.out; omega
  obtain rfl : N = k + 2 := by have := Hb.out; omega
  have hkc2 : (k : Int) < (c : Int) := by have := Hb.out; omega
  have hkc3 : k < c := by have := Hb.out; omega
  clear hb2 p1 p2 p3 hpb q1 q2 q3 HT2 hbl
  go_wp2_with fail
  go_region_held3 (fun W => W.cell? ⟨c0, 0, none⟩ = some (.pointer (some ⟨bc, 0, none⟩)) ∧ W.cell? ⟨bc, 0, none⟩ = some (.int .i64 (k : Int)) ∧ W.cell? ⟨c1, 0, none⟩ = some (.slice (some ⟨b, o, none⟩) (k + 2) c)) (first | exact ⟨r1, r2, r3⟩ | exact hS5)
    (first
      | (go_at_call 12; refine HPar.out.mono ?_; rintro e w5 ⟨A8, c8, rfl, r8, b8⟩; have Hb5 : Hid (Below w.heap.size w w5 ∧ RM w5 w5.heap.size A8 (parL k (S.take k))) := ⟨Hb2.out.trans (b8.mono Hb2.out.size), r8⟩; have hS5 := HS.out w5 Hb5.out.1; clear r8 b8)
      | (go_at_call 39; refine (mustL_ok _ _ _ _).mono ?_; rintro e w9 ⟨rfl, rfl⟩))
  obtain ⟨y1, y2, y3⟩ := hS5
  have hq1 : ¬ k = c := by omega
  go_wp2_with fail
  refine wp_region_still_tail 7 (by kernel_rfl) (by kernel_rfl) ?_
  simp only [List.take_succ_cons, List.take_zero, List.drop_succ_cons, List.drop_zero]
  have hsl := slice_low w5.drew b o k (k + 2) c (by omega) hkc3
  rw [show k + 2 - k = 2 by omega] at hsl
  repeat still_step
  refine wpStill_nil ?_
  clear hsl
  change wpList _ _ _ _ _ w5.drew
  have HE := Lib.hid (eqf_any A8 (some ⟨b, o + k, none⟩) c8 (c - k) (parL k (S.take k)) (S.drop k) w5.drew w5.heap.size (Hb5.out.2.drewN 1) (((Hh.out.below (drewN_below Hb5.out.1 1)).wide Hb5.out.1.size).drop' k) (by rw [Hpl.out.1]; omega) (by rw [List.length_drop, Hpl.out.2]; omega))
  rw [Hpl.out.1, List.length_drop, Hpl.out.2, show k + 2 - k = 2 by omega] at HE
  go_wp2_with fail
  refine HE.out.mono ?_
  rintro e w7 ⟨rfl, rfl⟩
  go_wp2_with fail
  go_ret
  exact ⟨drewN_below Hb5.out.1 1, .inl ⟨_, rfl, Hp.out, rfl⟩⟩
set_option maxHeartbeats 1600000 in
theorem check_any (bc k N c : Nat) (A : Option Addr) (S : Mtx) (w : World) (hc : w.cell? ⟨bc, 0, none⟩ = some (.int .i64 (k : Int))) (h : RM w w.heap.size A S) (hN : N = S.length) (hNc : N ≤ c) (hN2 : N ≤ 255) (hk1 : 1 ≤ k) (hk2 : k ≤ 253) (hl : ∀ (k : Nat) (l : List UInt8), S[k]? = some l → l.length ≤ 1048576) :
    Calls Try.prog 18 #[.pointer (some ⟨bc, 0, none⟩), .slice A N c] w fun e w' => e = .returned (.tuple #[.bool (chkA k S), .int .i64 (chkE k S)]) ∧ Below w.heap.size w w' := by
  have hmf : ∀ (fn : Fn) (first cap : Array Value) (w : World), (Instr.makeFunc fn first cap).run Try.prog w = .ok (.func fn first cap) w := fun _ _ _ _ => rfl
  have hbel : Below w.heap.size w (((w.alloc (.cells #[.pointer (some ⟨bc, 0, none⟩)] 25)).alloc (.cells #[.slice A N c] 22)).alloc (.cells #[.int .i64 0] 26)) := (((Below.refl _ _).alloc (Nat.le_refl _) _).alloc (by simp) _).alloc (by simp; omega) _
  have HC := Lib.hid (caughtCheck (.pointer (some ⟨w.heap.size, 0, none⟩), .pointer (some ⟨w.heap.size + 1, 0, none⟩)) _ _ _ (check_body w.heap.size (w.heap.size + 1) bc k N c A S _ (env_new w bc k (.slice A N c) 25 22 hc) ((h.below hbel).wide hbel.size) hN hNc hN2 hk1 hk2 hl))
  have Hb2 : Hid (Below w.heap.size w ((w.alloc (.cells #[.pointer (some ⟨bc, 0, none⟩)] 25)).alloc (.cells #[.slice A N c] 22))) := ((Below.refl _ _).alloc (Nat.le_refl _) _).alloc (by simp) _
  clear hc h hN hNc hN2 hk1 hk2 hl hbel
  go_enter Try.func18, Try.ntmps18
  go_wp2_with fail
  refine HC.out.mono ?_
  rintro e w' ⟨hb, ⟨v, rfl, hp, rfl⟩ | ⟨x, ⟨hp, hx⟩, rfl⟩⟩
  · have Hd : Hid (chkB k S = true ∧ Below w.heap.size w w') := ⟨hp, Hb2.out.trans (hb.mono Hb2.out.size)⟩
    clear hp hb HC
    go_wp2_with fail
    go_ret2
    have e1 : chkA k S = chkV k S := by unfold chkA; rw [Hd.out.1]; rfl
    have e2 : chkE k S = 0 := by unfold chkE; rw [Hd.out.1]; rfl
    exact ⟨by rw [e1, e2]; rfl, Hd.out.2⟩
  · have Hd : Hid (chkB k S = false ∧ Below w.heap.size w w' ∧ x = 1) := ⟨hp, Hb2.out.trans (hb.mono Hb2.out.size), hx⟩
    clear hp hb hx HC
    go_wp2_with fail
    go_ret2
    have e1 : chkA k S = false := by unfold chkA; rw [Hd.out.1]; rfl
    have e2 : chkE k S = 1 := by unfold chkE; rw [Hd.out.1]; rfl
    exact ⟨by rw [e1, e2, Hd.out.2.2]; rfl, Hd.out.2.1⟩
end Go.Proofs.Ytonihcgjepfpkaa

/-
  What Check finds; lists joined by append.
-/
namespace Go.Proofs.Ytonihcgjepfpkaa
open Go.RowKit

set_option maxRecDepth 20000
theorem parL_ok {k n : Nat} {S : Mtx} (hS : S.length = k) (hk : 1 ≤ k) (hn : 1 ≤ n) (h : ∀ (i : Nat) (l : List UInt8), S[i]? = some l → l.length = n) : parL k S = linM (pairsM k) S n ∧ parE k S = 0 := by
  have hp := par_yes hS hn h
  have h0 := h 0 _ (head_get (M := S) (by omega))
  unfold parL parE
  rw [if_pos hp, if_pos hp, h0]
  exact ⟨rfl, rfl⟩
theorem chk_yes {k n : Nat} {S : Mtx} (hS : S.length = k + 2) (hn : 1 ≤ n) (h : ∀ (i : Nat) (l : List UInt8), S[i]? = some l → l.length = n) : chkB k S = true := by
  have := par_yes hS hn h
  unfold parB at this
  unfold chkB
  rw [show (((k + 2 : Nat)) : Int) = (k : Int) + 2 by omega] at this
  exact this
theorem all_take {k n : Nat} {D : Mtx} (hD : D.length = k) : (allD k n D).take k = D := by
  unfold allD
  rw [← hD, List.take_left']
  rfl
theorem all_drop {k n : Nat} {D : Mtx} (hD : D.length = k) : (allD k n D).drop k = linM (pairsM k) D n := by
  unfold allD
  rw [List.drop_left' hD]
theorem chk_all {k n : Nat} {D : Mtx} (hk : 1 ≤ k) (hn : 1 ≤ n) (hD : D.length = k) (hl : ∀ (i : Nat) (l : List UInt8), D[i]? = some l → l.length = n) : chkA k (allD k n D) = true ∧ chkE k (allD k n D) = 0 := by
  have hb := chk_yes (allD_length (n := n) hD) hn (fun i l h => allD_row hD hl h)
  unfold chkA chkE
  rw [hb, if_pos rfl]
  refine ⟨?_, rfl⟩
  rw [Bool.true_and]
  unfold chkV
  rw [all_take hD, all_drop hD, (parL_ok hD hk hn hl).1, decide_eq_true rfl]
theorem bx_back (a b y : UInt8) (h : (a ^^^ b) ^^^ y = a) : y = b := by
  have h1 := congrArg (fun t => a ^^^ t) h
  simp only [UInt8.xor_self] at h1
  rw [UInt8.xor_assoc, ← UInt8.xor_assoc a a, UInt8.xor_self, UInt8.zero_xor] at h1
  have h2 := congrArg (fun t => b ^^^ t) h1
  simp only [UInt8.xor_zero] at h2
  rw [← UInt8.xor_assoc, UInt8.xor_self, UInt8.zero_xor] at h2
  exact h2
theorem bx_ne (a y : UInt8) (h : y ≠ 0) : a ^^^ y ≠ a := fun e => h (by
  have h1 := congrArg (fun t => a ^^^ t) e
  simp only [UInt8.xor_self] at h1
  rwa [← UInt8.xor_assoc, UInt8.xor_self, UInt8.zero_xor] at h1)
theorem xorK_set (i : Nat) (y : UInt8) (v : List UInt8) : ∀ k, k ≤ v.length → xorK (v.set i y) k = if i < k then (xorK v k ^^^ v.getD i 0) ^^^ y else xorK v k
  | 0, _ => by rw [if_neg (by omega)]; rfl
  | k + 1, h => by
    have ih := xorK_set i y v k (by omega)
    show xorK (v.set i y) k ^^^ (v.set i y).getD k 0 = if i < k + 1 then ((xorK v k ^^^ v.getD k 0) ^^^ v.getD i 0) ^^^ y else xorK v k ^^^ v.getD k 0
    rw [ih]
    by_cases e : i = k
    · subst e
      rw [if_neg (by omega), if_pos (by omega), List.getD_eq_getElem?_getD, List.getElem?_set_self (by omega)]
      show xorK v i ^^^ y = ((xorK v i ^^^ v.getD i 0) ^^^ v.getD i 0) ^^^ y
      rw [UInt8.xor_assoc (xorK v i), UInt8.xor_self, UInt8.xor_zero]
    · have e2 : (v.set i y).getD k 0 = v.getD k 0 := by rw [List.getD_eq_getElem?_getD, List.getElem?_set_ne e, ← List.getD_eq_getElem?_getD]
      rw [e2]
      by_cases h1 : i < k
      · rw [if_pos h1, if_pos (by omega), UInt8.xor_assoc, UInt8.xor_assoc, UInt8.xor_assoc, UInt8.xor_assoc, UInt8.xor_comm y, ← UInt8.xor_assoc (v.getD i 0), UInt8.xor_comm (v.getD i 0), UInt8.xor_assoc]
      · rw [if_neg h1, if_neg (by omega)]
theorem col_set {D : Mtx} {i j : Nat} {r : List UInt8} {y : UInt8} (hj : j < r.length) : col (D.set i (r.set j y)) j = (col D j).set i y := by
  unfold col
  rw [List.map_set, List.getD_eq_getElem?_getD, List.getElem?_set_self hj]
  rfl
theorem chk_no {k n i j : Nat} {D : Mtx} {r : List UInt8} {y : UInt8} (hk : 1 ≤ k) (hn : 1 ≤ n) (hD : D.length = k) (hl : ∀ (i : Nat) (l : List UInt8), D[i]? = some l → l.length = n) (hi : (allD k n D)[i]? = some r) (hj : j < n) (hy : y ≠ r.getD j 0) :
    chkA k ((allD k n D).set i (r.set j y)) = false ∧ chkE k ((allD k n D).set i (r.set j y)) = 0 := by
  have hX := allD_length (n := n) hD
  have hrl := allD_row hD hl hi
  have hii := (List.getElem?_eq_some_iff.1 hi).1
  have hb := chk_yes (S := (allD k n D).set i (r.set j y)) (by rw [List.length_set]; exact hX) hn (fun t l h => by
    by_cases e : i = t
    · subst e
      rw [List.getElem?_set_self hii] at h
      cases h
      rw [List.length_set]; exact hrl
    · rw [List.getElem?_set_ne e] at h
      exact allD_row hD hl h)
  unfold chkA chkE
  rw [hb, if_pos rfl]
  refine ⟨?_, rfl⟩
  rw [Bool.true_and]
  unfold chkV
  refine decide_eq_false fun e => hy ?_
  by_cases h : i < k
  · rw [List.take_set, all_take hD, List.drop_set_of_lt h, all_drop hD] at e
    have hDi : D[i]? = some r := by
      unfold allD at hi
      rwa [List.getElem?_append_left (by omega)] at hi
    rw [(parL_ok (S := D.set i (r.set j y)) (n := n) (by rw [List.length_set]; exact hD) hk hn (fun t l h => by
      by_cases e : i = t
      · subst e
        rw [List.getElem?_set_self (by omega)] at h
        cases h
        rw [List.length_set]; exact hrl
      · rw [List.getElem?_set_ne e] at h
        exact hl t l h)).1] at e
    have e1 : lin (List.replicate k 1) (D.set i (r.set j y)) n = lin (List.replicate k 1) D n := (List.cons.inj e).1
    have e2 : (lin (List.replicate k 1) (D.set i (r.set j y)) n).getD j 0 = (lin (List.replicate k 1) D n).getD j 0 := by rw [e1]
    have hl' : ∀ (t : Nat) (l : List UInt8), (D.set i (r.set j y))[t]? = some l → l.length = n := fun t l h => by
      by_cases e : i = t
      · subst e
        rw [List.getElem?_set_self (by omega)] at h
        cases h
        rw [List.length_set]; exact hrl
      · rw [List.getElem?_set_ne e] at h
        exact hl t l h
    rw [lin_get (by simp [hD]) hl' j hj, lin_get (by simp [hD]) hl j hj] at e2
    unfold dot at e2
    rw [List.length_replicate, dotK_ones k _ k (Nat.le_refl _), dotK_ones k _ k (Nat.le_refl _), col_set (by omega), xorK_set i y _ k (by rw [col_length, hD]; exact Nat.le_refl _), if_pos h, col_get hDi] at e2
    exact bx_back _ _ _ e2
  · rw [List.take_set_of_le (by omega), all_take hD, List.drop_set, if_neg h, all_drop hD, (parL_ok hD hk hn hl).1] at e
    have h1 : (linM (pairsM k) D n)[i - k]? = some r := by
      unfold allD at hi
      rw [List.getElem?_append_right (by omega), hD] at hi
      exact hi
    have h2 : (linM (pairsM k) D n)[i - k]? = ((linM (pairsM k) D n).set (i - k) (r.set j y))[i - k]? := by rw [← e]
    rw [h1, List.getElem?_set_self (List.getElem?_eq_some_iff.1 h1).1] at h2
    have h3 : r.getD j 0 = (r.set j y).getD j 0 := by rw [← Option.some.inj h2]
    rw [h3, List.getD_eq_getElem?_getD, List.getElem?_set_self (by omega)]
    rfl
/-- one behind the other -/
theorem mat_join {W : World} {lo hi lo2 hi2 gp np cp : Nat} {v : Value} {M P : Mtx} (h : MatO W lo hi v M) (hp : MatO W lo2 hi2 (.slice (some ⟨gp, 0, none⟩) np cp) P) (h1 : hi2 ≤ lo) (h2 : lo2 ≤ lo) :
    ∃ rows prow : List Value, OwnV W lo 41 v rows ∧ rows.length = M.length ∧ prow.length = P.length ∧ (∀ (j : Nat) (u : Value), prow[j]? = some u → W.cell? ⟨gp, j, none⟩ = some u) ∧ (∀ u ∈ prow, u.oneCell' = true) ∧
      ∀ v' w', OwnV w' lo 41 v' (rows ++ prow) → W.grownBy w' v.ownBlock → MatO w' lo2 w'.heap.size v' (M ++ P) := by
  obtain ⟨rows, a, b, c, d, e⟩ := h
  obtain ⟨prow, a2, b2, c2, d2, e2⟩ := hp
  have hget : ∀ (i : Nat) (r : Value), rows[i]? = some r → ∃ l, M[i]? = some l := fun i r hr => ⟨_, List.getElem?_eq_getElem (by rw [← c]; exact (List.getElem?_eq_some_iff.1 hr).1)⟩
  have hget2 : ∀ (i : Nat) (r : Value), prow[i]? = some r → ∃ l, P[i]? = some l := fun i r hr => ⟨_, List.getElem?_eq_getElem (by rw [← c2]; exact (List.getElem?_eq_some_iff.1 hr).1)⟩
  refine ⟨rows, prow, a, c, c2, fun j u hu => ?_, fun u hu => ?_, fun v' w' hown hg => ?_⟩
  · obtain ⟨A, c', e9, _, _, hrd⟩ := a2.rd
    obtain ⟨b9, e8, h8, h9⟩ := hrd j u hu
    have e1 := (Value.slice.inj e9).1
    rw [e8] at e1
    cases e1
    exact h9
  · obtain ⟨i, hi⟩ := List.getElem?_of_mem hu
    obtain ⟨l, hl⟩ := hget2 i u hi
    obtain ⟨d1, d3, _⟩ := d2 i u l hi hl
    obtain ⟨bb, cap, rfl, _⟩ := d3.form d1
    rfl
  have hty : ∀ (r : Value) (x : List UInt8), Own W lo r x → 0 < x.length → ∀ g, r.ownBlock = some g → v.ownBlock ≠ some g := by
    intro r x hx hx0 g hgr hgv
    rcases a.form with ⟨hv, _⟩ | ⟨g', cap', cur, hv, _, hc, _⟩
    · rw [hv] at hgv; cases hgv
    · rw [hv] at hgv
      cases hgv
      exact own_ne hx hc hgr
  have moved : ∀ (r : Value) (x : List UInt8), Own W lo r x → 0 < x.length → Own w' lo2 r x := fun r x hx hx0 => (hx.move fun g hgr => hg.block g (hx.lt g hgr).2 (fun e' => hty r x hx hx0 g hgr e'.symm)).wide h2
  have moved2 : ∀ (r : Value) (x : List UInt8), Own W lo2 r x → (∀ g, r.ownBlock = some g → g < hi2) → Own w' lo2 r x := fun r x hx hlt => hx.move fun g hgr => hg.block g (hx.lt g hgr).2 (fun e' => by
    have := (a.ge g e'.symm).1
    have := hlt g hgr
    omega)
  refine ⟨rows ++ prow, hown.wide h2, fun g hg' => (hown.ge g hg').2, by simp [c, c2], fun i r l hr hl => ?_, fun i j ri rj g hij hri hrj hgi hgj => ?_⟩
  · by_cases hi' : i < rows.length
    · rw [List.getElem?_append_left hi'] at hr
      rw [List.getElem?_append_left (by rw [← c]; exact hi')] at hl
      obtain ⟨d1, d3, _⟩ := d i r l hr hl
      have := moved r l d3 d1
      exact ⟨d1, this, fun g hgr => (this.lt g hgr).2⟩
    · rw [List.getElem?_append_right (by omega)] at hr
      rw [List.getElem?_append_right (by rw [← c]; omega), ← c] at hl
      obtain ⟨d1, d3, d4⟩ := d2 _ r l hr hl
      have := moved2 r l d3 d4
      exact ⟨d1, this, fun g hgr => (this.lt g hgr).2⟩
  · have hup : ∀ (t : Nat) (r : Value), rows[t]? = some r → r.ownBlock = some g → lo ≤ g := fun t r hr hgr => by
      obtain ⟨l, hl⟩ := hget t r hr
      exact ((d t r l hr hl).2.1.lt g hgr).1
    have hdn : ∀ (t : Nat) (r : Value), prow[t]? = some r → r.ownBlock = some g → g < hi2 := fun t r hr hgr => by
      obtain ⟨l, hl⟩ := hget2 t r hr
      exact (d2 t r l hr hl).2.2 g hgr
    by_cases hi' : i < rows.length
    · rw [List.getElem?_append_left hi'] at hri
      by_cases hj' : j < rows.length
      · rw [List.getElem?_append_left hj'] at hrj
        exact e i j ri rj g hij hri hrj hgi hgj
      · rw [List.getElem?_append_right (by omega)] at hrj
        have q1 := hup i ri hri hgi
        have q2 := hdn _ rj hrj hgj
        omega
    · rw [List.getElem?_append_right (by omega)] at hri
      by_cases hj' : j < rows.length
      · rw [List.getElem?_append_left hj'] at hrj
        have q1 := hup j rj hrj hgj
        have q2 := hdn _ ri hri hgi
        omega
      · rw [List.getElem?_append_right (by omega)] at hrj
        exact e2 _ _ ri rj g (by omega) hri hrj hgi hgj
end Go.Proofs.Ytonihcgjepfpkaa
