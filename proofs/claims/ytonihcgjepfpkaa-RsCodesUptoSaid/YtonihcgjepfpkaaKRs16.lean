/-
  Lists of lists that grow by append: their headers the call's own; the rows the call's own, or only read. Parity's sums.
-/
import Derived.Test.YtonihcgjepfpkaaKRs12
namespace Go.Proofs.Ytonihcgjepfpkaa
open Go.RowKit

set_option maxRecDepth 20000
/-- header and rows are the call's own -/
structure ListO (w : World) (v : Value) (rows : List Value) (M : Mtx) (wr : World) : Prop where
  head : OwnV wr w.heap.size 41 v rows
  len : rows.length = M.length
  rows : ∀ (t : Nat) (r : Value) (l : List UInt8), rows[t]? = some r → M[t]? = some l → Own wr w.heap.size r l
  bel : Below w.heap.size w wr
theorem ListO.nil (w wr : World) (h : Below w.heap.size w wr) : ListO w (.slice none 0 0) [] [] wr := ⟨OwnV.nil _ _ _, rfl, fun t r l hr => by simp at hr, h⟩
theorem ListO.below {w wr w1 : World} {v : Value} {rows : List Value} {M : Mtx} (h : ListO w v rows M wr) (hb : Below wr.heap.size wr w1) : ListO w v rows M w1 :=
  ⟨h.head.move fun g hg => hb.block g (h.head.ge g hg).2, h.len, fun t r l hr hl => (h.rows t r l hr hl).below hb, h.bel.trans (hb.mono h.bel.size)⟩
theorem ListO.alloc {w wr : World} {v : Value} {rows : List Value} {M : Mtx} (h : ListO w v rows M wr) (o : Obj) : ListO w v rows M (wr.alloc o) := h.below ((Below.refl _ _).alloc (Nat.le_refl _) _)
theorem ListO.drewN {w wr : World} {v : Value} {rows : List Value} {M : Mtx} (h : ListO w v rows M wr) (q : Nat) : ListO w v rows M (wr.drewN q) := ⟨h.head.drewN q, h.len, h.rows, drewN_below h.bel q⟩
theorem own_head_ne {w : World} {lo lo2 : Nat} {v r : Value} {rows : List Value} {l : List UInt8} (h : Own w lo r l) (hv : OwnV w lo2 41 v rows) : ∀ g, r.ownBlock = some g → v.ownBlock ≠ some g := fun g hg hv2 => by
  rcases hv.form with ⟨e, _⟩ | ⟨g', cap, cur, e, _, hc, _⟩
  · rw [e] at hv2; cases hv2
  · rw [e] at hv2
    cases hv2
    exact own_ne h hc hg
theorem ListO.push {w wr w' : World} {v v' x : Value} {rows : List Value} {M : Mtx} {l : List UInt8} (h : ListO w v rows M wr) (hx : Own wr w.heap.size x l) (ho : OwnV w' w.heap.size 41 v' (rows ++ [x])) (hg : wr.grownBy w' v.ownBlock) : ListO w v' (rows ++ [x]) (M ++ [l]) w' := by
  have keep : ∀ (r : Value) (y : List UInt8), Own wr w.heap.size r y → Own w' w.heap.size r y := fun r y hr => hr.move fun b hb => hg.block b (hr.lt b hb).2 fun e => own_head_ne hr h.head b hb e.symm
  refine ⟨ho, by rw [List.length_append, List.length_append, h.len]; rfl, fun t r y hr hy => ?_, h.bel.grown hg h.bel.size fun g hg2 => (h.head.ge g hg2).1⟩
  by_cases ht : t < rows.length
  · rw [List.getElem?_append_left ht] at hr
    rw [List.getElem?_append_left (by rw [← h.len]; exact ht)] at hy
    exact keep r y (h.rows t r y hr hy)
  · rw [List.getElem?_append_right (by omega)] at hr
    rw [List.getElem?_append_right (by rw [← h.len]; omega), ← h.len] at hy
    have h0 : t - rows.length = 0 := by
      have := (List.getElem?_eq_some_iff.1 hr).1
      simp at this
      omega
    rw [h0] at hr hy
    cases hr
    cases hy
    exact keep _ _ hx
theorem ListO.rm {w wr : World} {v : Value} {rows : List Value} {M : Mtx} (h : ListO w v rows M wr) : ∃ A c, v = .slice A M.length c ∧ M.length ≤ c ∧ RM wr wr.heap.size A M := by
  obtain ⟨A, c, rfl, hc, _, hrd⟩ := h.head.rd
  rw [h.len] at hc ⊢
  refine ⟨A, c, rfl, hc, fun i l hl => ?_⟩
  obtain ⟨r, hr⟩ : ∃ r, rows[i]? = some r := ⟨_, List.getElem?_eq_getElem (by rw [h.len]; exact (List.getElem?_eq_some_iff.1 hl).1)⟩
  obtain ⟨b, rfl, hb, hcell⟩ := hrd i r hr
  obtain ⟨A', c', rfl, h1, h2, _⟩ := (h.rows i r l hr hl).rb
  exact ⟨b, 0, A', c', rfl, hb, by rw [Nat.zero_add]; exact hcell, h2, h1⟩
/-- the header is the call's own, the rows lie lower -/
structure ListR (w : World) (v : Value) (rows : List Value) (M : Mtx) (wr : World) : Prop where
  head : OwnV wr w.heap.size 41 v rows
  len : rows.length = M.length
  rows : ∀ (t : Nat) (r : Value) (l : List UInt8), rows[t]? = some r → M[t]? = some l → ∃ A c, r = .slice A l.length c ∧ RB wr w.heap.size A l ∧ l.length ≤ c
  bel : Below w.heap.size w wr
theorem ListR.nil (w wr : World) (h : Below w.heap.size w wr) : ListR w (.slice none 0 0) [] [] wr := ⟨OwnV.nil _ _ _, rfl, fun t r l hr => by simp at hr, h⟩
theorem ListR.below {w wr w1 : World} {v : Value} {rows : List Value} {M : Mtx} (h : ListR w v rows M wr) (hb : Below wr.heap.size wr w1) : ListR w v rows M w1 :=
  ⟨h.head.move fun g hg => hb.block g (h.head.ge g hg).2, h.len, fun t r l hr hl => by
    obtain ⟨A, c, e, h1, h2⟩ := h.rows t r l hr hl
    exact ⟨A, c, e, h1.below (hb.mono h.bel.size), h2⟩, h.bel.trans (hb.mono h.bel.size)⟩
theorem ListR.alloc {w wr : World} {v : Value} {rows : List Value} {M : Mtx} (h : ListR w v rows M wr) (o : Obj) : ListR w v rows M (wr.alloc o) := h.below ((Below.refl _ _).alloc (Nat.le_refl _) _)
theorem ListR.drewN {w wr : World} {v : Value} {rows : List Value} {M : Mtx} (h : ListR w v rows M wr) (q : Nat) : ListR w v rows M (wr.drewN q) := ⟨h.head.drewN q, h.len, h.rows, drewN_below h.bel q⟩
theorem ListR.push {w wr w' : World} {v v' : Value} {rows : List Value} {M : Mtx} {A : Option Addr} {c : Nat} {l : List UInt8} (h : ListR w v rows M wr) (hx : RB wr w.heap.size A l) (hc : l.length ≤ c) (ho : OwnV w' w.heap.size 41 v' (rows ++ [.slice A l.length c])) (hg : wr.grownBy w' v.ownBlock) :
    ListR w v' (rows ++ [.slice A l.length c]) (M ++ [l]) w' := by
  have keep : ∀ (A : Option Addr) (y : List UInt8), RB wr w.heap.size A y → RB w' w.heap.size A y := fun A y hy => hy.grown hg h.bel.size fun g hg2 => (h.head.ge g hg2).1
  refine ⟨ho, by rw [List.length_append, List.length_append, h.len]; rfl, fun t r y hr hy => ?_, h.bel.grown hg h.bel.size fun g hg2 => (h.head.ge g hg2).1⟩
  by_cases ht : t < rows.length
  · rw [List.getElem?_append_left ht] at hr
    rw [List.getElem?_append_left (by rw [← h.len]; exact ht)] at hy
    obtain ⟨A1, c1, e, h1, h2⟩ := h.rows t r y hr hy
    exact ⟨A1, c1, e, keep A1 y h1, h2⟩
  · rw [List.getElem?_append_right (by omega)] at hr
    rw [List.getElem?_append_right (by rw [← h.len]; omega), ← h.len] at hy
    have h0 : t - rows.length = 0 := by
      have := (List.getElem?_eq_some_iff.1 hr).1
      simp at this
      omega
    rw [h0] at hr hy
    cases hr
    cases hy
    exact ⟨A, c, rfl, keep A l hx, hc⟩
theorem ListR.rm {w wr : World} {v : Value} {rows : List Value} {M : Mtx} (h : ListR w v rows M wr) : ∃ A c, v = .slice A M.length c ∧ M.length ≤ c ∧ RM wr wr.heap.size A M := by
  obtain ⟨A, c, rfl, hc, _, hrd⟩ := h.head.rd
  rw [h.len] at hc ⊢
  refine ⟨A, c, rfl, hc, fun i l hl => ?_⟩
  obtain ⟨r, hr⟩ : ∃ r, rows[i]? = some r := ⟨_, List.getElem?_eq_getElem (by rw [h.len]; exact (List.getElem?_eq_some_iff.1 hl).1)⟩
  obtain ⟨b, rfl, hb, hcell⟩ := hrd i r hr
  obtain ⟨A', c', rfl, h1, h2⟩ := h.rows i r l hr hl
  exact ⟨b, 0, A', c', rfl, hb, by rw [Nat.zero_add]; exact hcell, h1.wide h.bel.size, h2⟩
/-! sums -/
def xorL (a b : List UInt8) : List UInt8 := List.zipWith (fun x y => x ^^^ y) a b
def xorM (a b : Mtx) : Mtx := List.zipWith xorL a b
theorem xorL_length {a b : List UInt8} (h : a.length = b.length) : (xorL a b).length = a.length := by simp [xorL, h]
theorem xorL_get {a b : List UInt8} (h : a.length = b.length) (j : Nat) : (xorL a b).getD j 0 = a.getD j 0 ^^^ b.getD j 0 := by
  unfold xorL
  rw [List.getD_eq_getElem?_getD, List.getD_eq_getElem?_getD, List.getD_eq_getElem?_getD, List.getElem?_zipWith]
  by_cases hj : j < a.length
  · rw [List.getElem?_eq_getElem hj, List.getElem?_eq_getElem (by omega)]; rfl
  · rw [List.getElem?_eq_none (by omega), List.getElem?_eq_none (by omega)]; rfl
theorem xorM_length {a b : Mtx} (h : a.length = b.length) : (xorM a b).length = a.length := by simp [xorM, h]
theorem xorM_get {a b : Mtx} {i : Nat} {x y : List UInt8} (hx : a[i]? = some x) (hy : b[i]? = some y) : (xorM a b)[i]? = some (xorL x y) := by
  unfold xorM
  rw [List.getElem?_zipWith, hx, hy]
theorem dotK_xor (r u v : List UInt8) (h : u.length = v.length) : ∀ k, dotK r (xorL u v) k = dotK r u k ^^^ dotK r v k
  | 0 => by show (0 : UInt8) = 0 ^^^ 0; decide
  | k + 1 => by
    show dotK r (xorL u v) k ^^^ bm (r.getD k 0) ((xorL u v).getD k 0) = (dotK r u k ^^^ bm (r.getD k 0) (u.getD k 0)) ^^^ (dotK r v k ^^^ bm (r.getD k 0) (v.getD k 0))
    rw [dotK_xor r u v h k, xorL_get h, bm_comm, bm_add, bm_comm (u.getD k 0), bm_comm (v.getD k 0), bx_swap]
theorem col_xor {a b : Mtx} {n j : Nat} (h : a.length = b.length) (ha : ∀ (t : Nat) (l : List UInt8), a[t]? = some l → l.length = n) (hb : ∀ (t : Nat) (l : List UInt8), b[t]? = some l → l.length = n) : col (xorM a b) j = xorL (col a j) (col b j) := by
  apply List.ext_getElem?
  intro i
  by_cases hi : i < a.length
  · have e1 := List.getElem?_eq_getElem hi
    have e2 := List.getElem?_eq_getElem (show i < b.length by omega)
    unfold col xorL
    rw [List.getElem?_map, List.getElem?_zipWith, List.getElem?_map, List.getElem?_map, xorM_get e1 e2, e1, e2]
    show some ((xorL a[i] b[i]).getD j 0) = some (a[i].getD j 0 ^^^ b[i].getD j 0)
    rw [xorL_get (by rw [ha i _ e1, hb i _ e2])]
  · rw [List.getElem?_eq_none (by rw [col_length, xorM_length h]; omega), List.getElem?_eq_none (by rw [xorL_length (by rw [col_length, col_length, h]), col_length]; omega)]
/-- the first k, summed -/
def xorK (v : List UInt8) : Nat → UInt8
  | 0 => 0
  | k + 1 => xorK v k ^^^ v.getD k 0
theorem dotK_ones (n : Nat) (v : List UInt8) : ∀ k, k ≤ n → dotK (List.replicate n 1) v k = xorK v k
  | 0, _ => rfl
  | k + 1, h => by
    show dotK _ v k ^^^ bm ((List.replicate n (1 : UInt8)).getD k 0) (v.getD k 0) = xorK v k ^^^ v.getD k 0
    rw [dotK_ones n v k (by omega), ones_get n k (by omega), bm_one]
end Go.Proofs.Ytonihcgjepfpkaa

/-
  The second saying's New and parity.
-/
namespace Go.Proofs.Ytonihcgjepfpkaa
open Go.RowKit

set_option maxRecDepth 20000
theorem rnew6_any (n : Int) (w : World) : Calls Try.prog 11 #[.int .i64 n] w fun e w' => e = .returned (.int .i64 (if n < 1 ∨ 32 < n then 1 else 0)) ∧ w' = w := by
  by_cases h1 : n < 1
  · rw [if_pos (.inl h1)]
    go_enter Try.func11, Try.ntmps11
    go_wp2_with fail
    go_ret
    exact ⟨rfl, rfl⟩
  by_cases h2 : 32 < n
  · rw [if_pos (.inr h2)]
    go_enter Try.func11, Try.ntmps11
    go_wp2_with fail
    go_ret
    exact ⟨rfl, rfl⟩
  rw [if_neg (by omega)]
  have d1 : decide (n < 1) = false := by simp; omega
  have d2 : decide (32 < n) = false := by simp; omega
  have d3 : 1 ≤ n := by omega
  have d4 : n ≤ 32 := by omega
  go_enter Try.func11, Try.ntmps11
  go_wp2_with fail
  go_ret
  exact ⟨rfl, rfl⟩
theorem own_two (w : World) (base : Nat) (a b : Value) (h : base ≤ w.heap.size) : OwnV (w.alloc (.cells #[a, b] 41)) base 41 (.slice (some ⟨w.heap.size, 0, none⟩) 2 2) [a, b] :=
  ⟨by simp, .inr ⟨w.heap.size, 2, #[a, b], rfl, h, heap_alloc_new w _, Nat.le_refl _, by simp [maxLen], rfl, rfl⟩⟩
theorem mat_two {w : World} {lo bp bq n : Nat} {P Q : List UInt8} (hp : Blk w bp P) (hq : Blk w bq Q) (hne : bp ≠ bq) (h1 : lo ≤ bp) (h2 : lo ≤ bq) (hP : P.length = n) (hQ : Q.length = n) (hn : 1 ≤ n) (hn2 : n ≤ 1048576) :
    MatO (w.alloc (.cells #[.slice (some ⟨bp, 0, none⟩) n n, .slice (some ⟨bq, 0, none⟩) n n] 41)) lo (w.alloc (.cells #[.slice (some ⟨bp, 0, none⟩) n n, .slice (some ⟨bq, 0, none⟩) n n] 41)).heap.size (.slice (some ⟨w.heap.size, 0, none⟩) 2 2) [P, Q] := by
  have o1 := (hp.alloc (.cells #[.slice (some ⟨bp, 0, none⟩) n n, .slice (some ⟨bq, 0, none⟩) n n] 41)).own (base := lo) h1 (by omega)
  have o2 := (hq.alloc (.cells #[.slice (some ⟨bp, 0, none⟩) n n, .slice (some ⟨bq, 0, none⟩) n n] 41)).own (base := lo) h2 (by omega)
  rw [hP] at o1
  rw [hQ] at o2
  have hlp := hp.lt
  have hlq := hq.lt
  refine ⟨[.slice (some ⟨bp, 0, none⟩) n n, .slice (some ⟨bq, 0, none⟩) n n], own_two w lo _ _ (by omega), fun g hg => ?_, rfl, fun i r l hr hl => ?_, fun i j ri rj g hij hri hrj hgi hgj => ?_⟩
  · cases hg
    simp
  · match i with
    | 0 =>
      cases hr
      cases hl
      exact ⟨by omega, o1, fun g hg => by cases hg; simp; omega⟩
    | 1 =>
      cases hr
      cases hl
      exact ⟨by omega, o2, fun g hg => by cases hg; simp; omega⟩
    | i + 2 => simp at hr
  · match i, j with
    | 0, 0 => exact hij rfl
    | 0, 1 =>
      cases hri
      cases hrj
      cases hgi
      cases hgj
      exact hne rfl
    | 1, 0 =>
      cases hri
      cases hrj
      cases hgi
      cases hgj
      exact hne rfl
    | 1, 1 => exact hij rfl
    | i + 2, _ => simp at hri
    | _, j + 2 => simp at hrj
theorem set_same' {l : List UInt8} {i : Nat} {x : UInt8} (h : l[i]? = some x) : l.set i x = l := by
  apply List.ext_getElem?
  intro j
  by_cases e : i = j
  · subst e
    rw [List.getElem?_set_self (List.getElem?_eq_some_iff.1 h).1, h]
  · rw [List.getElem?_set_ne e]
theorem blk_at {w : World} {g i : Nat} {L : List UInt8} {a : UInt8} (h : Blk w g (L.set i a)) (hi : i < L.length) : w.cell? ⟨g, i, none⟩ = some (.int .u8 (a.toNat : Int)) ∧ w.frozen? ⟨g, i, none⟩ = false ∧ ∀ (q : Nat) (b : UInt8), Blk ((w.setCell ⟨g, i, none⟩ (.int .u8 (b.toNat : Int))).drewN q) g (L.set i b) := by
  have hl : i < (L.set i a).length := by rw [List.length_set]; exact hi
  refine ⟨?_, h.frozen i, fun q b => ?_⟩
  · rw [h.cell hl]
    simp
  · have := h.set i b
    rw [List.set_set] at this
    exact this
theorem pwr_next (k : Nat) (W : World) : Calls Try.prog 36 #[.int .u8 ((ex k : Nat) : Int), .int .u8 2] W fun e w' => e = .returned (.int .u8 ((ex (k + 1) : Nat) : Int)) ∧ W = w' := by
  have := rmul_any (ex k) 2 W (ex_lt k) (by omega)
  rw [show (2 : Nat) = ex 1 from rfl, ex_add] at this
  exact this
theorem pwr_mul (k : Nat) (x : UInt8) (W : World) : Calls Try.prog 36 #[.int .u8 ((ex k : Nat) : Int), .int .u8 (x.toNat : Int)] W fun e w' => e = .returned (.int .u8 ((bm (pwr k) x).toNat : Int)) ∧ w' = W := by
  have := rmul_any (ex k) x.toNat W (ex_lt k) (u8_lt x)
  rw [← pwr_nat, ← bm_nat] at this
  rw [← pwr_nat]
  exact this.mono fun _ _ ⟨a, b⟩ => ⟨a, b.symm⟩
end Go.Proofs.Ytonihcgjepfpkaa

/-
  RsSums, walked.
-/
namespace Go.Proofs.Ytonihcgjepfpkaa
open Go.RowKit

set_option maxRecDepth 20000
/-- the first j, then 0 -/
def partP (T : List UInt8) (j : Nat) : List UInt8 := T.take j ++ List.replicate (T.length - j) 0
theorem partP_zero (T : List UInt8) : partP T 0 = List.replicate T.length 0 := by simp [partP]
theorem partP_done (T : List UInt8) : partP T T.length = T := by simp [partP]
theorem partP_length (T : List UInt8) {j : Nat} (h : j ≤ T.length) : (partP T j).length = T.length := by simp [partP]; omega
theorem partP_step {T : List UInt8} {j : Nat} {x : UInt8} (hx : T[j]? = some x) : (partP T j).set j x = partP T (j + 1) := by
  have hj := (List.getElem?_eq_some_iff.1 hx).1
  have e := (List.getElem?_eq_some_iff.1 hx).2
  unfold partP
  obtain ⟨m, hm⟩ : ∃ m, T.length - j = m + 1 := ⟨T.length - j - 1, by omega⟩
  rw [List.set_append_right _ _ (by simp; omega), List.length_take, show j - min j T.length = 0 by omega, hm, show T.length - (j + 1) = m by omega, List.replicate_succ, List.set_cons_zero, List.take_succ_eq_append_getElem hj, e]
  simp
theorem partP_get {T : List UInt8} {j : Nat} (h : j < T.length) : (partP T j)[j]? = some 0 := by
  unfold partP
  rw [List.getElem?_append_right (by simp; omega), List.getElem?_replicate]
  rw [if_pos (by simp; omega)]
theorem blk_set {w wr : World} {B g j : Nat} {T : List UInt8} {x : UInt8} (hx : T[j]? = some x) (h : Blk wr g (partP T j)) (hb : Below B w wr) (hg : B ≤ g) :
    wr.cell? ⟨g, j, none⟩ = some (.int .u8 0) ∧ wr.frozen? ⟨g, j, none⟩ = false ∧ Blk (wr.setCell ⟨g, j, none⟩ (.int .u8 (x.toNat : Int))) g (partP T (j + 1)) ∧ Below B w (wr.setCell ⟨g, j, none⟩ (.int .u8 (x.toNat : Int))) := by
  have hj := (List.getElem?_eq_some_iff.1 hx).1
  have hl : j < (partP T j).length := by rw [partP_length T (by omega)]; exact hj
  refine ⟨?_, h.frozen j, ?_, hb.setCell (p := ⟨g, j, none⟩) hg _⟩
  · rw [h.cell hl]
    have := partP_get hj
    rw [List.getElem?_eq_getElem hl] at this
    rw [Option.some.inj this]; rfl
  · have := h.set j x
    rw [partP_step hx] at this
    exact this
/-- a told matrix' row, where it lies, in whatever world keeps it -/
theorem row_at {W : World} {A : Option Addr} {M : Mtx} {t n : Nat} {l : List UInt8} (h : RM W W.heap.size A M) (hl : M[t]? = some l) (hn : l.length = n) (hn1 : 1 ≤ n) :
    ∃ b o b' o' c', A = some ⟨b, o, none⟩ ∧ W.cell? ⟨b, o + t, none⟩ = some (.slice (some ⟨b', o', none⟩) n c') ∧ ∀ j, j < n → W.cell? ⟨b', o' + j, none⟩ = some (.int .u8 ((l.getD j 0).toNat : Int)) := by
  obtain ⟨b, o, A', c', e, _, hc, hr, _⟩ := h t l hl
  obtain ⟨b', o', rfl, _⟩ := hr.flat (by omega)
  refine ⟨b, o, b', o', c', e, by rw [hc, hn], fun j hj => ?_⟩
  have hx := List.getElem?_eq_getElem (show j < l.length by omega)
  obtain ⟨ad, e2, _, hc2⟩ := hr j _ hx
  cases e2
  rw [add_flat] at hc2
  rw [hc2, List.getD_eq_getElem?_getD, hx]; rfl
theorem parL_two {k n : Nat} {S : Mtx} (hS : S.length = k) (hk : 1 ≤ k) (hn : 1 ≤ n) (h : ∀ (i : Nat) (l : List UInt8), S[i]? = some l → l.length = n) : parL k S = [lin (List.replicate k 1) S n, lin ((List.range k).map pwr) S n] ∧ parE k S = 0 := by
  have hp := par_yes hS hn h
  have h0 := h 0 _ (head_get (M := S) (by omega))
  unfold parL parE
  rw [if_pos hp, if_pos hp, h0]
  exact ⟨rfl, rfl⟩
theorem ones_val {k n j : Nat} {S : Mtx} (hS : S.length = k) (h : ∀ (i : Nat) (l : List UInt8), S[i]? = some l → l.length = n) (hj : j < n) : (lin (List.replicate k 1) S n).getD j 0 = xorK (col S j) k := by
  rw [lin_get (by simp [hS]) h j hj]
  unfold dot
  rw [List.length_replicate, dotK_ones k _ k (Nat.le_refl _)]
theorem lin_xor {r : List UInt8} {k n j : Nat} {a b : Mtx} (hr : r.length = k) (ha : a.length = k) (hb : b.length = k) (hla : ∀ (i : Nat) (l : List UInt8), a[i]? = some l → l.length = n) (hlb : ∀ (i : Nat) (l : List UInt8), b[i]? = some l → l.length = n) (hls : ∀ (i : Nat) (l : List UInt8), (xorM a b)[i]? = some l → l.length = n) (hj : j < n) :
    (lin r a n).getD j 0 ^^^ (lin r b n).getD j 0 = (lin r (xorM a b) n).getD j 0 := by
  rw [lin_get (by omega) hla j hj, lin_get (by omega) hlb j hj, lin_get (by rw [xorM_length (by omega)]; omega) hls j hj, col_xor (by omega) hla hlb]
  unfold dot
  rw [dotK_xor _ _ _ (by rw [col_length, col_length, ha, hb])]
set_option maxHeartbeats 8000000 in
theorem rsSums_any (A B : Option Addr) (cA cB Na Nb : Nat) (a b : Mtx) (w : World) (ha : RM w w.heap.size A a) (hb : RM w w.heap.size B b) (hNa : Na = a.length) (hNb : Nb = b.length) (hla : a.length ≤ 1048576) (hlb : b.length ≤ 1048576)
    (hra : ∀ (k : Nat) (l : List UInt8), a[k]? = some l → l.length ≤ 1048576) (hrb : ∀ (k : Nat) (l : List UInt8), b[k]? = some l → l.length ≤ 1048576) :
    Calls Try.prog 6 #[.slice A Na cA, .slice B Nb cB] w fun e w' => e = .returned (.bool true) ∧ Below w.heap.size w w' := by
  have Hk := Lib.hid (known6_any w)
  have HFa : Hid (∀ W, Below w.heap.size w W → Calls Try.prog 9 #[.slice A Na cA] W fun e w' => e = .returned (.bool (fewS a)) ∧ W = w') := fun W hW => by rw [hNa]; exact few6_any A cA a W _ (ha.below hW) hla hra
  have HFb : Hid (∀ W, Below w.heap.size w W → Calls Try.prog 9 #[.slice B Nb cB] W fun e w' => e = .returned (.bool (fewS b)) ∧ W = w') := fun W hW => by rw [hNb]; exact few6_any B cB b W _ (hb.below hW) hlb hrb
  have Ha := Lib.hid ha
  have Hb := Lib.hid hb
  have HN : Hid (Na = a.length ∧ Nb = b.length) := ⟨hNa, hNb⟩
  have hNa' : (Na : Int) ≤ 1048576 := by omega
  have hNb' : (Nb : Int) ≤ 1048576 := by omega
  clear ha hb hNa hNb hla hlb hra hrb
  go_enter Try.func6, Try.ntmps6
  go_wp2_with fail
  refine Hk.out.mono ?_
  rintro e w1 ⟨rfl, hb1⟩
  have Hb1 := Lib.hid hb1
  have HFa1 := Lib.hid (HFa.out w1 hb1)
  have HFb1 := Lib.hid (HFb.out w1 hb1)
  clear hb1 Hk HFa HFb
  by_cases c1 : (Na : Int) < 1
  · go_wp2_with fail
    go_ret
    exact ⟨rfl, Hb1.out⟩
  by_cases c2 : (32 : Int) < (Na : Int)
  · go_wp2_with fail
    go_ret
    exact ⟨rfl, Hb1.out⟩
  by_cases c3 : (Nb : Int) = (Na : Int)
  case neg =>
    have c3' : ((Nb : Int) != (Na : Int)) = true := by simp; omega
    clear c3
    go_wp2_with fail
    go_ret
    exact ⟨rfl, Hb1.out⟩
  obtain rfl : Nb = Na := by omega
  rcases hfa : fewS a with _ | _
  · rw [hfa] at HFa1
    go_wp2_with fail
    refine HFa1.out.mono ?_
    rintro e w2 ⟨rfl, rfl⟩
    go_wp2_with fail
    go_ret
    exact ⟨rfl, Hb1.out⟩
  rw [hfa] at HFa1
  rcases hfb : fewS b with _ | _
  · rw [hfb] at HFb1
    go_wp2_with fail
    refine HFa1.out.mono ?_
    rintro e w2 ⟨rfl, rfl⟩
    go_wp2_with fail
    refine HFb1.out.mono ?_
    rintro e w2 ⟨rfl, rfl⟩
    go_wp2_with fail
    go_ret
    exact ⟨rfl, Hb1.out⟩
  rw [hfb] at HFb1
  obtain ⟨fa1, fa2⟩ := few_facts hfa
  obtain ⟨fb1, fb2⟩ := few_facts hfb
  obtain ⟨n, hn⟩ : ∃ n, n = (a.headD []).length := ⟨_, rfl⟩
  obtain ⟨ba, oa, rfl, hba⟩ := Ha.out.at_ (by have := HN.out; omega)
  obtain ⟨bb, ob, rfl, hbb⟩ := Hb.out.at_ (by have := HN.out; omega)
  have ha0 := head_get (M := a) (by have := HN.out; omega)
  obtain ⟨A0, c0, q0, _, _⟩ := Ha.out.row ha0
  rw [← hn, Nat.add_zero] at q0
  have hn4 : n ≤ 4000 := by rw [hn]; have := sumS_le ha0; omega
  have Hq0 : Hid (∀ W, Below w.heap.size w W → W.cell? ⟨ba, oa, none⟩ = some (.slice A0 n c0)) := fun W hW => (hW.cell (p := ⟨ba, oa, none⟩) hba).trans q0
  have q1 := Hq0.out w1 Hb1.out
  by_cases hn0 : n = 0
  · subst hn0
    clear q0 hn ha0
    go_wp2_with fail
    refine HFa1.out.mono ?_
    rintro e w2 ⟨rfl, rfl⟩
    go_wp2_with fail
    refine HFb1.out.mono ?_
    rintro e w2 ⟨rfl, rfl⟩
    go_wp2_with fail
    go_ret
    exact ⟨rfl, Hb1.out⟩
  have c6 : ((n : Int) == 0) = false := by simp; omega
  have Hn : Hid (n = (a.headD []).length ∧ 1 ≤ n ∧ n ≤ 4000 ∧ 1 ≤ Nb ∧ Nb ≤ 32 ∧ ba < w.heap.size ∧ bb < w.heap.size ∧ a[0]? = some (a.headD []) ∧ sumS a ≤ 4000 ∧ sumS b ≤ 4000) := ⟨hn, by omega, hn4, by omega, by omega, hba, hbb, ha0, fa2, fb2⟩
  have hn' : (n : Int) ≤ 4000 := by omega
  have hN32 : (Nb : Int) ≤ 32 := by omega
  clear q0 hn ha0 hfa hfb fa1 fa2 fb1 fb2 hn4 hn0 hba hbb c2 hNa' hNb'
  go_wp2_with fail
  refine HFa1.out.mono ?_
  rintro e w2 ⟨rfl, rfl⟩
  go_wp2_with fail
  refine HFb1.out.mono ?_
  rintro e w2 ⟨rfl, rfl⟩
  go_wp2_with fail
  have e1 : decide ((Nb : Int) < 1) = false := by simp; omega
  have e2 : decide ((32 : Int) < (Nb : Int)) = false := by simp; omega
  simp only [e1, e2, Bool.or_false]
  clear e1 e2
  obtain ⟨ds, Hds, hmd⟩ := make_run n (by have := Hn.out; omega)
  have Hst : Hid (ListO w (.slice none 0 0) [] ((xorM a b).take 0) w1) := by
    rw [List.take_zero]
    exact ListO.nil w w1 Hb1.out
  clear q1 HFa1 HFb1
  go_loopw [6, 7] (fun vv iv wr => ∃ (i : Nat) (v : Value) (rows : List Value), vv = v ∧ iv = .int .i64 (i : Int) ∧ i ≤ Nb ∧ Hid (ListO w v rows ((xorM a b).take i) wr ∧ ∀ (t : Nat) (x y : List UInt8), t < i → a[t]? = some x → b[t]? = some y → x.length = n ∧ y.length = n)) (fun _ iv _ => Nb - (intOf iv).toNat)
  case atStart => exact ⟨0, _, _, rfl, rfl, Nat.zero_le _, Hst.out, fun t x y ht => by omega⟩
  case round =>
    obtain ⟨i, v, rows, rfl, rfl, hi, hrel⟩ := hrel
    by_cases hlt : i < Nb
    · have hlt' : (i : Int) < (Nb : Int) := by omega
      obtain ⟨x, hx⟩ : ∃ x, a[i]? = some x := ⟨_, List.getElem?_eq_getElem (by have := HN.out; omega)⟩
      obtain ⟨y, hy⟩ : ∃ y, b[i]? = some y := ⟨_, List.getElem?_eq_getElem (by have := HN.out; omega)⟩
      obtain ⟨Ax, cx, hcx, hrx, _⟩ := Ha.out.row hx
      obtain ⟨Ay, cy, hcy, hry, _⟩ := Hb.out.row hy
      have k0 := Hq0.out wr hrel.out.1.bel
      have k1 : wr.cell? ⟨ba, oa + i, none⟩ = some (.slice Ax x.length cx) := (hrel.out.1.bel.cell (p := ⟨ba, oa + i, none⟩) Hn.out.2.2.2.2.2.1).trans hcx
      have k2 : wr.cell? ⟨bb, ob + i, none⟩ = some (.slice Ay y.length cy) := (hrel.out.1.bel.cell (p := ⟨bb, ob + i, none⟩) Hn.out.2.2.2.2.2.2.1).trans hcy
      have Hbe : Hid (Below w.heap.size w wr) := hrel.out.1.bel
      by_cases hxn : x.length = n
      case neg =>
        have d1 : ((x.length : Int) != (n : Int)) = true := by simp; omega
        generalize x.length = xl at *
        generalize y.length = yl at *
        clear hx hy hcx hrx hcy hry hrel hlt hxn
        go_wp2_with fail
        go_quiet (fail)
        go_wp2_with fail
        go_ret
        exact ⟨rfl, drewN_below Hbe.out _⟩
      have d1 : ((x.length : Int) != (n : Int)) = false := by simp; omega
      by_cases hyn : y.length = n
      case neg =>
        have d2 : ((y.length : Int) != (n : Int)) = true := by simp; omega
        generalize x.length = xl at *
        generalize y.length = yl at *
        clear hx hy hcx hrx hcy hry hrel hlt hxn hyn
        go_wp2_with fail
        go_quiet (fail)
        go_wp2_with fail
        go_ret
        exact ⟨rfl, drewN_below Hbe.out _⟩
      have Hxy : Hid (x.length = n ∧ y.length = n ∧ a[i]? = some x ∧ b[i]? = some y ∧ RB w w.heap.size Ax x ∧ RB w w.heap.size Ay y) := ⟨hxn, hyn, hx, hy, hrx, hry⟩
      have Hrel := Lib.hid hrel.out
      rw [hxn] at k1 d1
      rw [hyn] at k2
      clear hx hy hcx hrx hcy hry hrel hlt hxn hyn
      have d2 : ((n : Int) != (n : Int)) = false := by simp
      go_wp2_with fail
      go_quiet (fail)
      go_wp2_with fail
      obtain ⟨bx, hbx⟩ : ∃ bx, bx = wr.heap.size := ⟨_, rfl⟩
      obtain ⟨wq, hwq⟩ : ∃ wq, wq = wr.drewN nq := ⟨_, rfl⟩
      have HT : Hid ((xorL x y).length = n ∧ bx = wq.heap.size) := ⟨by rw [xorL_length (by rw [Hxy.out.1, Hxy.out.2.1]), Hxy.out.1], by rw [hbx, hwq]; rfl⟩
      have Hrq : Hid (ListO w u6 rows ((xorM a b).take i) wq) := by rw [hwq]; exact Hrel.out.1.drewN nq
      rw [← hwq, ← hbx]
      have Hs0 : Hid (Blk (wq.alloc (.cells ds 5)) bx (partP (xorL x y) 0) ∧ Below bx wq (wq.alloc (.cells ds 5))) := by
        refine ⟨?_, (Below.refl _ _).alloc (by rw [HT.out.2]; exact Nat.le_refl _) _⟩
        rw [partP_zero, HT.out.1, HT.out.2]
        unfold Blk
        rw [heap_alloc_new, Hds.out]
      have Hge : Hid (w.heap.size ≤ bx) := by rw [hbx]; exact Hbe.out.size
      clear hbx hwq k0 k1 k2 d1 d2 hmd
      go_loopw [9] (fun jv wz => ∃ j : Nat, jv = .int .i64 (j : Int) ∧ j ≤ n ∧ Hid (Blk wz bx (partP (xorL x y) j) ∧ Below bx wq wz)) (fun jv _ => n - (intOf jv).toNat)
      case atStart => exact ⟨0, rfl, Nat.zero_le _, Hs0.out⟩
      case round =>
        obtain ⟨j, rfl, hj, hrel⟩ := hrel
        by_cases hjl : j < n
        · have hjl' : (j : Int) < (n : Int) := by omega
          have hbw : Below w.heap.size w wr := Hrq.out.bel.trans (hrel.out.2.mono Hge.out)
          obtain ⟨xj, hxj⟩ : ∃ xj, x[j]? = some xj := ⟨_, List.getElem?_eq_getElem (by have := Hxy.out.1; omega)⟩
          obtain ⟨yj, hyj⟩ : ∃ yj, y[j]? = some yj := ⟨_, List.getElem?_eq_getElem (by have := Hxy.out.2.1; omega)⟩
          have hz : (xorL x y)[j]? = some (xj ^^^ yj) := by
            unfold xorL
            rw [List.getElem?_zipWith, hxj, hyj]
          obtain ⟨Ax', cx', hcx, hrx, _⟩ := Ha.out.row Hxy.out.2.2.1
          obtain ⟨Ay', cy', hcy, hry, _⟩ := Hb.out.row Hxy.out.2.2.2.1
          obtain ⟨b1, o1, rfl, hb1⟩ := hrx.flat (by have := Hxy.out.1; omega)
          obtain ⟨b2, o2, rfl, hb2⟩ := hry.flat (by have := Hxy.out.2.1; omega)
          rw [Hxy.out.1] at hcx
          rw [Hxy.out.2.1] at hcy
          have k1 : wr.cell? ⟨ba, oa + i, none⟩ = some (.slice (some ⟨b1, o1, none⟩) n cx') := (hbw.cell (p := ⟨ba, oa + i, none⟩) Hn.out.2.2.2.2.2.1).trans hcx
          have k2 : wr.cell? ⟨bb, ob + i, none⟩ = some (.slice (some ⟨b2, o2, none⟩) n cy') := (hbw.cell (p := ⟨bb, ob + i, none⟩) Hn.out.2.2.2.2.2.2.1).trans hcy
          have k3 : wr.cell? ⟨b1, o1 + j, none⟩ = some (.int .u8 (xj.toNat : Int)) := by
            obtain ⟨ad, e, _, hc⟩ := hrx j xj hxj
            cases e
            rw [add_flat] at hc
            exact (hbw.cell (p := ⟨b1, o1 + j, none⟩) hb1).trans hc
          have k4 : wr.cell? ⟨b2, o2 + j, none⟩ = some (.int .u8 (yj.toNat : Int)) := by
            obtain ⟨ad, e, _, hc⟩ := hry j yj hyj
            cases e
            rw [add_flat] at hc
            exact (hbw.cell (p := ⟨b2, o2 + j, none⟩) hb2).trans hc
          obtain ⟨k5, k6, k7, k8⟩ := blk_set hz hrel.out.1 hrel.out.2 (Nat.le_refl _)
          have e1 : bits .xor .u8 (xj.toNat : Int) (yj.toNat : Int) = ((xj ^^^ yj).toNat : Int) := by
            rw [u8_xor_nat _ _ (u8_lt xj) (u8_lt yj), bx_nat]
          have Hnx : Hid (∀ q, Blk ((wr.setCell ⟨bx, j, none⟩ (.int .u8 ((xj ^^^ yj).toNat : Int))).drewN q) bx (partP (xorL x y) (j + 1)) ∧ Below bx wq ((wr.setCell ⟨bx, j, none⟩ (.int .u8 ((xj ^^^ yj).toNat : Int))).drewN q)) := fun q => ⟨k7, drewN_below k8 q⟩
          generalize (xj ^^^ yj).toNat = zn at *
          generalize xj.toNat = xn at *
          generalize yj.toNat = yn at *
          clear hxj hyj hz hcx hrx hcy hry hb1 hb2 k7 k8 hbw hrel hjl
          go_wp2_with fail
          refine wp_region_still_tail 18 (by kernel_rfl) (by kernel_rfl) ?_
          simp only [List.take_succ_cons, List.take_zero, List.drop_succ_cons, List.drop_zero]
          repeat still_step
          try refine wpStill_nil ?_
          change wpList _ _ _ _ _ wr.drew
          go_wp2_with fail
          go_roundw
          case rel => exact ⟨j + 1, by go_num, by omega, Hnx.out 1⟩
          case measure => simp [intOf]; omega
        · obtain rfl : j = n := by omega
          have hblk : Blk wr bx (xorL x y) := by
            have := hrel.out.1
            rw [← HT.out.1, partP_done] at this
            exact this
          have Hl : Hid (ListO w u6 rows ((xorM a b).take i) wr ∧ Own wr w.heap.size (.slice (some ⟨bx, 0, none⟩) j j) (xorL x y) ∧ (xorM a b).take (i + 1) = (xorM a b).take i ++ [xorL x y] ∧ rows.length ≤ 32) := by
            have h1 := Hrq.out.below (w1 := wr) (by rw [← HT.out.2]; exact hrel.out.2)
            have h2 := hblk.own (base := w.heap.size) Hge.out (by rw [HT.out.1]; omega)
            rw [HT.out.1] at h2
            refine ⟨h1, h2, ?_, ?_⟩
            · have e := xorM_get Hxy.out.2.2.1 Hxy.out.2.2.2.1
              rw [List.take_succ_eq_append_getElem (List.getElem?_eq_some_iff.1 e).1, (List.getElem?_eq_some_iff.1 e).2]
            · rw [h1.len, List.length_take]; omega
          have Hxn : Hid (∀ (t : Nat) (x y : List UInt8), t < i + 1 → a[t]? = some x → b[t]? = some y → x.length = j ∧ y.length = j) := fun t x' y' ht hx' hy' => by
            by_cases e : t < i
            · exact Hrel.out.2 t x' y' e hx' hy'
            · obtain rfl : t = i := by omega
              rw [Hxy.out.2.2.1] at hx'
              rw [Hxy.out.2.2.2.1] at hy'
              cases hx'
              cases hy'
              exact ⟨Hxy.out.1, Hxy.out.2.1⟩
          clear hblk hrel hjl
          go_wp2_with (at_builtin; go_must (refine app_one rfl (.tmp 110) (.tmp 112) 22 41 rfl Try.underlying22 (.slice none 0 0) 24 info_row rfl w.heap.size _ _ rfl (OwnV.alloc Hl.out.1.head _) ⟨wr.heap.size, 0, none⟩ 1 (.slice (some ⟨bx, 0, none⟩) j j) rfl (cell_new _ _ _) rfl (by have := Hl.out.2.2.2; omega) (by have := Hl.out.2.2.2; omega) (by have := Hl.out.1.bel.size; simp; omega) ?_); intro v9 W9 hown9 hg9 _; have Hn9 : Hid (ListO w v9 (rows ++ [.slice (some ⟨bx, 0, none⟩) j j]) ((xorM a b).take (i + 1)) W9) := by {rw [Hl.out.2.2.1]; exact (Hl.out.1.alloc _).push (Hl.out.2.1.alloc _) hown9 hg9}; clear hown9 hg9)
          go_roundw
          case rel => exact ⟨i + 1, _, _, rfl, by go_num, by omega, Hn9.out, Hxn.out⟩
          case measure => simp [intOf]; omega
    · obtain rfl : i = Nb := by omega
      have hla : ∀ (t : Nat) (l : List UInt8), a[t]? = some l → l.length = n := fun t l hl => by
        have ht := (List.getElem?_eq_some_iff.1 hl).1
        exact (hrel.out.2 t l _ (by have := HN.out; omega) hl (List.getElem?_eq_getElem (show t < b.length by have := HN.out; omega))).1
      have hlb : ∀ (t : Nat) (l : List UInt8), b[t]? = some l → l.length = n := fun t l hl => by
        have ht := (List.getElem?_eq_some_iff.1 hl).1
        exact (hrel.out.2 t _ l (by have := HN.out; omega) (List.getElem?_eq_getElem (show t < a.length by have := HN.out; omega)) hl).2
      have hls : ∀ (t : Nat) (l : List UInt8), (xorM a b)[t]? = some l → l.length = n := fun t l hl => by
        have ht := (List.getElem?_eq_some_iff.1 hl).1
        rw [xorM_length (by have := HN.out; omega)] at ht
        have e1 := List.getElem?_eq_getElem ht
        have e2 := List.getElem?_eq_getElem (show t < b.length by have := HN.out; omega)
        rw [xorM_get e1 e2] at hl
        cases hl
        rw [xorL_length (by rw [hla t _ e1, hlb t _ e2]), hla t _ e1]
      have hsl : (xorM a b).length = i := by rw [xorM_length (by have := HN.out; omega)]; exact HN.out.1.symm
      obtain ⟨As, cs, rfl, _, hrs⟩ := hrel.out.1.rm
      rw [List.take_of_length_le (by omega)] at hrs ⊢
      rw [hsl]
      have hbe := hrel.out.1.bel
      obtain ⟨w3, hw3⟩ : ∃ w3, w3 = wr.alloc (.cells #[.int .i64 (i : Int)] 47) := ⟨_, rfl⟩
      have HNw : Hid (Calls Try.prog 10 #[.int .i64 (i : Int)] wr fun e w' => e = .returned (.tuple #[.pointer (some ⟨wr.heap.size, 0, none⟩), .int .i64 0]) ∧ w' = w3) := by rw [hw3]; exact new_yes i wr (by omega) (by omega)
      have hb3 : Below wr.heap.size wr w3 := by rw [hw3]; exact (Below.refl _ _).alloc (Nat.le_refl _) _
      have hc3 : w3.cell? ⟨wr.heap.size, 0, none⟩ = some (.int .i64 (i : Int)) := by rw [hw3]; exact cell_new _ _ _
      have hs3 : wr.heap.size < w3.heap.size := World.block_lt_of_cell? _ _ hc3
      have Hdim : Hid ((∀ (t : Nat) (l : List UInt8), a[t]? = some l → l.length = n) ∧ (∀ (t : Nat) (l : List UInt8), b[t]? = some l → l.length = n) ∧ ∀ (t : Nat) (l : List UInt8), (xorM a b)[t]? = some l → l.length = n) := ⟨hla, hlb, hls⟩
      have hk1 : 1 ≤ i := by omega
      have hn1 := Hn.out.2.1
      have hn4 := Hn.out.2.2.1
      have HPar : Hid (∀ (A9 : Option Addr) (c9 : Nat) (S : Mtx) (W : World), RM W W.heap.size A9 S → S.length = i → (∀ (t : Nat) (l : List UInt8), S[t]? = some l → l.length = n) → Below w3.heap.size w3 W → Calls Try.prog 12 #[.pointer (some ⟨wr.heap.size, 0, none⟩), .slice A9 i c9] W fun e w' => ∃ A8 c8, e = .returned (.tuple #[.slice A8 2 c8, .int .i64 0]) ∧ RM w' w'.heap.size A8 [lin (List.replicate i 1) S n, lin ((List.range i).map pwr) S n] ∧ Below W.heap.size W w') := fun A9 c9 S W h1 h2 h3 h4 => by
        have := parity_any wr.heap.size i i c9 A9 S W ((h4.cell (p := ⟨wr.heap.size, 0, none⟩) hs3).trans hc3) h1 h2.symm (by omega) hk1 (by omega) (fun t l hl => by rw [h3 t l hl]; omega)
        obtain ⟨e1, e2⟩ := parL_two h2 hk1 hn1 h3
        rw [e1, e2] at this
        refine this.mono fun e w' hx => ?_
        obtain ⟨A8, c8, g1, g2, _, g3⟩ := hx.rm
        exact ⟨A8, c8, g1, g2, g3⟩
      have H3 : Hid (Below w.heap.size w w3 ∧ RM w3 w3.heap.size As (xorM a b) ∧ a.length = i ∧ b.length = i ∧ (xorM a b).length = i) := ⟨hbe.trans (hb3.mono hbe.size), (hrs.below hb3).wide hb3.size, HN.out.1.symm, HN.out.2.symm, hsl⟩
      clear hla hlb hls hsl hrs hbe hw3 hb3 hc3 hs3 hk1 hn1 hn4 hlt hrel hmd Hds Hst
      go_wp2_with fail
      refine HNw.out.mono ?_
      rintro e w' ⟨rfl, rfl⟩
      go_wp2_with fail
      refine (HPar.out _ cA a w' ((Ha.out.below H3.out.1).wide H3.out.1.size) H3.out.2.2.1 Hdim.out.1 (Below.refl _ _)).mono ?_
      rintro e w4 ⟨A4, c4, rfl, r4, b4⟩
      have H4 : Hid (RM w4 w4.heap.size A4 [lin (List.replicate i 1) a n, lin ((List.range i).map pwr) a n] ∧ Below w'.heap.size w' w4) := ⟨r4, b4⟩
      clear r4 b4
      go_wp2_with fail
      refine (HPar.out _ cB b w4 ((Hb.out.below (H3.out.1.trans (H4.out.2.mono H3.out.1.size))).wide (Nat.le_trans H3.out.1.size H4.out.2.size)) H3.out.2.2.2.1 Hdim.out.2.1 H4.out.2).mono ?_
      rintro e w5 ⟨A5, c5, rfl, r5, b5⟩
      have H5 : Hid (RM w5 w5.heap.size A4 [lin (List.replicate i 1) a n, lin ((List.range i).map pwr) a n] ∧ RM w5 w5.heap.size A5 [lin (List.replicate i 1) b n, lin ((List.range i).map pwr) b n] ∧ Below w'.heap.size w' w5) := ⟨(H4.out.1.below b5).wide b5.size, r5, H4.out.2.trans (b5.mono H4.out.2.size)⟩
      clear r5 b5 H4
      go_wp2_with fail
      refine (HPar.out As cs (xorM a b) w5 ((H3.out.2.1.below H5.out.2.2).wide H5.out.2.2.size) H3.out.2.2.2.2 Hdim.out.2.2 H5.out.2.2).mono ?_
      rintro e w6 ⟨A6, c6', rfl, r6, b6⟩
      have H6 : Hid (RM w6 w6.heap.size A4 [lin (List.replicate i 1) a n, lin ((List.range i).map pwr) a n] ∧ RM w6 w6.heap.size A5 [lin (List.replicate i 1) b n, lin ((List.range i).map pwr) b n] ∧ RM w6 w6.heap.size A6 [lin (List.replicate i 1) (xorM a b) n, lin ((List.range i).map pwr) (xorM a b) n] ∧ Below w.heap.size w w6) := ⟨(H5.out.1.below b6).wide b6.size, (H5.out.2.1.below b6).wide b6.size, r6, H3.out.1.trans ((H5.out.2.2.trans (b6.mono H5.out.2.2.size)).mono H3.out.1.size)⟩
      clear r6 b6 H5 HPar HNw
      have hla := Hdim.out.1
      have hlb := Hdim.out.2.1
      have hls := Hdim.out.2.2
      have hn1 := Hn.out.2.1
      have e1 : (List.replicate i (1 : UInt8)).length = i := by simp
      have e2 : ((List.range i).map pwr).length = i := by simp
      obtain ⟨b4, o4, x4, y4, z4, rfl, p1, p2⟩ := row_at (t := 0) H6.out.1 rfl (lin_length (by rw [e1, H3.out.2.2.1]; exact Nat.le_refl _) hla) hn1
      obtain ⟨_, _, x5, y5, z5, e5, p3, p4⟩ := row_at (t := 1) H6.out.1 rfl (lin_length (by rw [e2, H3.out.2.2.1]; exact Nat.le_refl _) hla) hn1
      cases e5
      obtain ⟨b6, o6, x6, y6, z6, rfl, p5, p6⟩ := row_at (t := 0) H6.out.2.1 rfl (lin_length (by rw [e1, H3.out.2.2.2.1]; exact Nat.le_refl _) hlb) hn1
      obtain ⟨_, _, x7, y7, z7, e7, p7, p8⟩ := row_at (t := 1) H6.out.2.1 rfl (lin_length (by rw [e2, H3.out.2.2.2.1]; exact Nat.le_refl _) hlb) hn1
      cases e7
      obtain ⟨b8, o8, x8, y8, z8, rfl, p9, p10⟩ := row_at (t := 0) H6.out.2.2.1 rfl (lin_length (by rw [e1, H3.out.2.2.2.2]; exact Nat.le_refl _) hls) hn1
      obtain ⟨_, _, x9, y9, z9, e9, p11, p12⟩ := row_at (t := 1) H6.out.2.2.1 rfl (lin_length (by rw [e2, H3.out.2.2.2.2]; exact Nat.le_refl _) hls) hn1
      cases e9
      have HP : Hid ((∀ j, j < n → w6.cell? ⟨x4, y4 + j, none⟩ = some (.int .u8 (((lin (List.replicate i 1) a n).getD j 0).toNat : Int))) ∧ (∀ j, j < n → w6.cell? ⟨x5, y5 + j, none⟩ = some (.int .u8 (((lin ((List.range i).map pwr) a n).getD j 0).toNat : Int))) ∧ (∀ j, j < n → w6.cell? ⟨x6, y6 + j, none⟩ = some (.int .u8 (((lin (List.replicate i 1) b n).getD j 0).toNat : Int))) ∧
        (∀ j, j < n → w6.cell? ⟨x7, y7 + j, none⟩ = some (.int .u8 (((lin ((List.range i).map pwr) b n).getD j 0).toNat : Int))) ∧ (∀ j, j < n → w6.cell? ⟨x8, y8 + j, none⟩ = some (.int .u8 (((lin (List.replicate i 1) (xorM a b) n).getD j 0).toNat : Int))) ∧ ∀ j, j < n → w6.cell? ⟨x9, y9 + j, none⟩ = some (.int .u8 (((lin ((List.range i).map pwr) (xorM a b) n).getD j 0).toNat : Int))) := ⟨p2, p4, p6, p8, p10, p12⟩
      have HC : Hid (w6.cell? ⟨b4, o4, none⟩ = some (.slice (some ⟨x4, y4, none⟩) n z4) ∧ w6.cell? ⟨b4, o4 + 1, none⟩ = some (.slice (some ⟨x5, y5, none⟩) n z5) ∧ w6.cell? ⟨b6, o6, none⟩ = some (.slice (some ⟨x6, y6, none⟩) n z6) ∧ w6.cell? ⟨b6, o6 + 1, none⟩ = some (.slice (some ⟨x7, y7, none⟩) n z7) ∧ w6.cell? ⟨b8, o8, none⟩ = some (.slice (some ⟨x8, y8, none⟩) n z8) ∧ w6.cell? ⟨b8, o8 + 1, none⟩ = some (.slice (some ⟨x9, y9, none⟩) n z9)) := ⟨p1, p3, p5, p7, p9, p11⟩
      have HV : Hid (∀ j, j < n → (lin (List.replicate i 1) a n).getD j 0 = xorK (col a j) i ∧ (lin (List.replicate i 1) a n).getD j 0 ^^^ (lin (List.replicate i 1) b n).getD j 0 = (lin (List.replicate i 1) (xorM a b) n).getD j 0 ∧ (lin ((List.range i).map pwr) a n).getD j 0 ^^^ (lin ((List.range i).map pwr) b n).getD j 0 = (lin ((List.range i).map pwr) (xorM a b) n).getD j 0) := fun j hj =>
        ⟨ones_val H3.out.2.2.1 hla hj, lin_xor e1 H3.out.2.2.1 H3.out.2.2.2.1 hla hlb hls hj, lin_xor e2 H3.out.2.2.1 H3.out.2.2.2.1 hla hlb hls hj⟩
      generalize lin (List.replicate i 1) a n = P0 at *
      generalize lin ((List.range i).map pwr) a n = P1 at *
      generalize lin (List.replicate i 1) b n = Q0 at *
      generalize lin ((List.range i).map pwr) b n = Q1 at *
      generalize lin (List.replicate i 1) (xorM a b) n = R0 at *
      generalize lin ((List.range i).map pwr) (xorM a b) n = R1 at *
      clear hla hlb hls hn1 e1 e2 p1 p2 p3 p4 p5 p6 p7 p8 p9 p10 p11 p12
      have q6 := Hq0.out w6 H6.out.2.2.2
      go_wp2_with fail
      have hi32 : (i : Int) ≤ 32 := by have := Hn.out; omega
      have Hst6 : Hid (w6 = w6.drewN 0) := by simp [World.drewN, Hid]
      clear q6
      go_loopw [18] (fun jv wz => ∃ j q : Nat, jv = .int .i64 (j : Int) ∧ j ≤ n ∧ Hid (wz = w6.drewN q)) (fun jv _ => n - (intOf jv).toNat)
      case atStart => exact ⟨0, 0, rfl, Nat.zero_le _, Hst6.out⟩
      case round =>
        obtain ⟨j, q, rfl, hj, hw⟩ := hrel
        have k0 : wr.cell? ⟨ba, oa, none⟩ = some (.slice A0 n c0) := by rw [hw.out]; exact Hq0.out w6 H6.out.2.2.2
        by_cases hjl : j < n
        · have hjl' : (j : Int) < (n : Int) := by omega
          obtain ⟨g1, g2, g3, g4, g5, g6⟩ := HP.out
          obtain ⟨v1, v2, v3⟩ := HV.out j hjl
          have h1 : wr.cell? ⟨x4, y4 + j, none⟩ = some (.int .u8 ((P0.getD j 0).toNat : Int)) := by rw [hw.out]; exact g1 j hjl
          have h2 : wr.cell? ⟨x5, y5 + j, none⟩ = some (.int .u8 ((P1.getD j 0).toNat : Int)) := by rw [hw.out]; exact g2 j hjl
          have h3 : wr.cell? ⟨x6, y6 + j, none⟩ = some (.int .u8 ((Q0.getD j 0).toNat : Int)) := by rw [hw.out]; exact g3 j hjl
          have h4 : wr.cell? ⟨x7, y7 + j, none⟩ = some (.int .u8 ((Q1.getD j 0).toNat : Int)) := by rw [hw.out]; exact g4 j hjl
          have h5 : wr.cell? ⟨x8, y8 + j, none⟩ = some (.int .u8 ((R0.getD j 0).toNat : Int)) := by rw [hw.out]; exact g5 j hjl
          have h6 : wr.cell? ⟨x9, y9 + j, none⟩ = some (.int .u8 ((R1.getD j 0).toNat : Int)) := by rw [hw.out]; exact g6 j hjl
          have f1 : wr.cell? ⟨b4, o4, none⟩ = some (.slice (some ⟨x4, y4, none⟩) n z4) := by rw [hw.out]; exact HC.out.1
          have f2 : wr.cell? ⟨b4, o4 + 1, none⟩ = some (.slice (some ⟨x5, y5, none⟩) n z5) := by rw [hw.out]; exact HC.out.2.1
          have f3 : wr.cell? ⟨b6, o6, none⟩ = some (.slice (some ⟨x6, y6, none⟩) n z6) := by rw [hw.out]; exact HC.out.2.2.1
          have f4 : wr.cell? ⟨b6, o6 + 1, none⟩ = some (.slice (some ⟨x7, y7, none⟩) n z7) := by rw [hw.out]; exact HC.out.2.2.2.1
          have f5 : wr.cell? ⟨b8, o8, none⟩ = some (.slice (some ⟨x8, y8, none⟩) n z8) := by rw [hw.out]; exact HC.out.2.2.2.2.1
          have f6 : wr.cell? ⟨b8, o8 + 1, none⟩ = some (.slice (some ⟨x9, y9, none⟩) n z9) := by rw [hw.out]; exact HC.out.2.2.2.2.2
          have t1 : bits .xor .u8 ((P0.getD j 0).toNat : Int) ((Q0.getD j 0).toNat : Int) = ((R0.getD j 0).toNat : Int) := by rw [u8_xor_nat _ _ (u8_lt _) (u8_lt _), ← bx_nat, v2]
          have t2 : bits .xor .u8 ((P1.getD j 0).toNat : Int) ((Q1.getD j 0).toNat : Int) = ((R1.getD j 0).toNat : Int) := by rw [u8_xor_nat _ _ (u8_lt _) (u8_lt _), ← bx_nat, v3]
          have HS0 : Hid (((0 : Nat) : Int) = ((xorK (col a j) 0).toNat : Int)) := rfl
          have HX : Hid (P0.getD j 0 = xorK (col a j) i) := v1
          have HB : Hid (Below w.heap.size w wr) := by rw [hw.out]; exact drewN_below H6.out.2.2.2 q
          have d0 : (((R0.getD j 0).toNat : Int) != ((R0.getD j 0).toNat : Int)) = false := by simp
          have d1 : (((R1.getD j 0).toNat : Int) != ((R1.getD j 0).toNat : Int)) = false := by simp
          generalize (Q0.getD j 0).toNat = nq0 at *
          generalize (Q1.getD j 0).toNat = nq1 at *
          generalize (R0.getD j 0).toNat = nr0 at *
          generalize (R1.getD j 0).toNat = nr1 at *
          generalize (P1.getD j 0).toNat = np1 at *
          obtain ⟨np0, hp0⟩ : ∃ np0, np0 = (P0.getD j 0).toNat := ⟨_, rfl⟩
          have HP0 := Lib.hid hp0
          rw [← hp0] at h1 t1
          clear v1 v2 v3 g1 g2 g3 g4 g5 g6 hp0 hjl
          go_wp2_with fail
          go_loop [19, 20] (fun xv tv => ∃ (t : Nat) (x : UInt8), xv = .int .u8 (x.toNat : Int) ∧ tv = .int .i64 (t : Int) ∧ t ≤ i ∧ Hid (x = xorK (col a j) t)) (fun _ tv => i - (intOf tv).toNat)
          case atStart => exact ⟨0, 0, rfl, rfl, Nat.zero_le _, rfl⟩
          case round =>
            obtain ⟨t, x, rfl, rfl, ht, hrel⟩ := hrel
            by_cases htl : t < i
            · have htl' : (t : Int) < (i : Int) := by omega
              obtain ⟨y, hy⟩ : ∃ y, a[t]? = some y := ⟨_, List.getElem?_eq_getElem (by have := H3.out.2.2.1; omega)⟩
              have hyl := Hdim.out.1 t y hy
              obtain ⟨Ay, cy, hcy, hry, _⟩ := Ha.out.row hy
              obtain ⟨b1, o1, rfl, hb1⟩ := hry.flat (by omega)
              rw [hyl] at hcy
              have k1 : wr.cell? ⟨ba, oa + t, none⟩ = some (.slice (some ⟨b1, o1, none⟩) n cy) := (HB.out.cell (p := ⟨ba, oa + t, none⟩) Hn.out.2.2.2.2.2.1).trans hcy
              obtain ⟨yj, hyj⟩ : ∃ yj, y[j]? = some yj := ⟨_, List.getElem?_eq_getElem (by omega)⟩
              have k2 : wr.cell? ⟨b1, o1 + j, none⟩ = some (.int .u8 (yj.toNat : Int)) := by
                obtain ⟨ad, e, _, hc⟩ := hry j yj hyj
                cases e
                rw [add_flat] at hc
                exact (HB.out.cell (p := ⟨b1, o1 + j, none⟩) hb1).trans hc
              have e1 : bits .xor .u8 (x.toNat : Int) (yj.toNat : Int) = ((x ^^^ yj).toNat : Int) := by
                rw [u8_xor_nat _ _ (u8_lt x) (u8_lt yj), bx_nat]
              have Hnx : Hid (x ^^^ yj = xorK (col a j) (t + 1)) := by
                show _ = xorK (col a j) t ^^^ (col a j).getD t 0
                rw [← hrel.out, col_get hy, List.getD_eq_getElem?_getD, hyj]; rfl
              generalize hz : x ^^^ yj = z at *
              generalize yj.toNat = yn at *
              generalize x.toNat = xn at *
              clear hy hyl hcy hry hb1 hyj hrel htl hz
              go_wp2_with fail
              go_round
              case rel => exact ⟨t + 1, z, rfl, by go_num, by omega, Hnx.out⟩
              case measure => simp [intOf]; omega
            · obtain rfl : t = i := by omega
              have hxx : x.toNat = np0 := by rw [HP0.out, HX.out, hrel.out]
              have d2 : ((np0 : Int) != (np0 : Int)) = false := by simp
              rw [hxx]
              clear hrel htl hxx
              go_wp2_with fail
              go_quiet (fail)
              go_wp2_with fail
              go_roundw
              case rel => exact ⟨j + 1, q + nq, by go_num, by omega, show wr.drewN nq = w6.drewN (q + nq) by rw [hw.out]; simp [World.drewN, Nat.add_assoc]⟩
              case measure => simp [intOf]; omega
        · obtain rfl : j = n := by omega
          have HB : Hid (Below w.heap.size w wr) := by rw [hw.out]; exact drewN_below H6.out.2.2.2 q
          clear hjl
          go_wp2_with fail
          go_ret
          exact ⟨rfl, HB.out⟩
end Go.Proofs.Ytonihcgjepfpkaa
