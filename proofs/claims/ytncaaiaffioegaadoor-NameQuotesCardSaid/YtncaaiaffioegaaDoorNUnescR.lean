/-
  Quoted texts read strictly, as the second saying reads them; and that its answer is unquoteL's.
-/
import Derived.Test.YtncaaiaffioegaaDoorNText
import Derived.Test.YtncaaiaffioegaaDoorNDigit
namespace Go.Proofs.YtncaaiaffioegaaDoor

def unescR (l : List UInt8) : Option (List UInt8) :=
  match l with
  | [] => some []
  | x :: r =>
    if x.toNat ≠ 92 then (unescR r).map (x :: ·) else
    match r with
    | [] => none
    | y :: r2 =>
      if y.toNat = 34 ∨ y.toNat = 92 then (unescR r2).map (y :: ·) else
      match r2 with
      | a :: b :: r3 => if y.toNat = 120 ∧ 0 ≤ lval a.toNat ∧ 0 ≤ lval b.toNat then (unescR r3).map (UInt8.ofNat (16 * (lval a.toNat).toNat + (lval b.toNat).toNat) :: ·) else none
      | _ => none
  termination_by l.length
  decreasing_by all_goals (simp; try omega)

theorem unescR_plain (x : UInt8) (r : List UInt8) (h : x.toNat ≠ 92) : unescR (x :: r) = (unescR r).map (x :: ·) := by
  rw [unescR.eq_def]
  dsimp only
  rw [if_pos h]
theorem unescR_esc (y : UInt8) (r : List UInt8) (h : y.toNat = 34 ∨ y.toNat = 92) : unescR (92 :: y :: r) = (unescR r).map (y :: ·) := by
  rw [unescR.eq_def]
  dsimp only
  rw [if_neg (by decide), if_pos h]
theorem unescR_plains (b : List UInt8) (r : List UInt8) (h : ∀ x ∈ b, x.toNat ≠ 92) : unescR (b ++ r) = (unescR r).map (b ++ ·) := by
  induction b with
  | nil => simp
  | cons x b ih =>
    rw [List.cons_append, unescR_plain x _ (h x (by simp)), ih (fun y hy => h y (by simp [hy]))]
    cases unescR r <;> simp
theorem lval_hexd (n : Nat) (h : n < 16) : lval (hexd n).toNat = (n : Int) := by
  unfold hexd
  split
  · have e : (UInt8.ofNat (48 + n)).toNat = 48 + n := by rw [UInt8.toNat_ofNat']; omega
    unfold lval
    rw [e, if_pos (by omega)]
    omega
  · have e : (UInt8.ofNat (87 + n)).toNat = 87 + n := by rw [UInt8.toNat_ofNat']; omega
    unfold lval
    rw [e, if_neg (by omega), if_pos (by omega)]
    omega
theorem unescR_hex (x : UInt8) (r : List UInt8) : unescR (qhex x ++ r) = (unescR r).map (x :: ·) := by
  have hx := x.toNat_lt
  show unescR (92 :: 120 :: hexd (x.toNat / 16) :: hexd (x.toNat % 16) :: r) = _
  rw [unescR.eq_def]
  dsimp only
  have h := hexd_num x
  have h1 := lval_hexd (x.toNat / 16) (by omega)
  have h2 := lval_hexd (x.toNat % 16) (by omega)
  simp only [h1, h2]
  rw [if_neg (by decide), if_neg (by decide), if_pos ⟨by decide, by omega, by omega⟩]
  simp only [Int.toNat_natCast, h]
theorem unescR_qp (s : Seg) (h : s.Good) (r : List UInt8) : unescR (qp s ++ r) = (unescR r).map (s.bs ++ ·) := by
  unfold qp
  cases h with
  | low x hx =>
    dsimp only
    split
    · rename_i h1
      have e : UInt8.ofNat x.toNat = x := UInt8.ofNat_toNat
      rw [e]
      exact unescR_esc x r h1
    · split
      · exact unescR_hex x r
      · exact unescR_plain x r (by omega)
  | high bs v h2 h4 hv hm hs hb he =>
    dsimp only
    rw [if_neg (by omega), if_neg (by simp; omega)]
    exact unescR_plains bs r (fun x hx => by have := hb x hx; omega)
  | torn x hx =>
    dsimp only
    rw [if_neg (by omega), if_pos (by simp)]
    exact unescR_hex x r
theorem unescR_qps (l : List UInt8) : unescR ((segsOf l).flatMap qp) = some l := by
  refine seg_ind (P := fun l => unescR ((segsOf l).flatMap qp) = some l) (by rw [segsOf_nil, List.flatMap_nil, unescR.eq_def]) ?_ l
  intro l h ih
  rw [segsOf_cons l h, List.flatMap_cons, unescR_qp _ (seg_good l h), ih]
  exact congrArg some (List.take_append_drop _ _)
/-- the second saying's answer -/
def refUnqL (l : List UInt8) : List UInt8 × Nat :=
  if l.length < 2 ∨ l.getD 0 0 ≠ 34 ∨ l.getD (l.length - 1) 0 ≠ 34 then ([], 24) else
  match unescR (inner l) with
  | none => ([], 24)
  | some b => if quoteL b = l then (b, 0) else ([], 24)
theorem refUnqL_eq (l : List UInt8) : refUnqL l = unquoteL l := by
  unfold refUnqL unquoteL
  by_cases h : quoteL (unesc (inner l)) = l
  · rw [if_pos h]
    generalize unesc (inner l) = t at h
    subst h
    have h2 := quote_two t
    have hz : (quoteL t).getD ((quoteL t).length - 1) 0 = 34 := by
      unfold quoteL
      simp [List.getD]
    have h0 : (quoteL t).getD 0 0 = 34 := rfl
    rw [if_neg (by rw [hz, h0]; simp; omega), inner_quote, unescR_qps]
    simp
  · rw [if_neg h]
    split
    · rfl
    · split
      · rfl
      · rename_i b _
        split
        · rename_i hb
          exfalso
          apply h
          rw [← hb, unesc_quote]
        · rfl
end Go.Proofs.YtncaaiaffioegaaDoor
