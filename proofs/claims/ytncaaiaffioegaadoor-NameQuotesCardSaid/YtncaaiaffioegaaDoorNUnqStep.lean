/-
  The strict reading, step by step, at a place of the text.
-/
import Derived.Test.YtncaaiaffioegaaDoorNUnescR
namespace Go.Proofs.YtncaaiaffioegaaDoor

theorem unq_end (l : List UInt8) (k : Nat) (h : l.length ≤ k) : unescR (l.drop k) = some [] := by
  rw [List.drop_eq_nil_of_le h, unescR.eq_def]
theorem unq_plain (l : List UInt8) (k : Nat) (h : k < l.length) (hx : (l.getD k 0).toNat ≠ 92) :
    unescR (l.drop k) = (unescR (l.drop (k + 1))).map (l.getD k 0 :: ·) := by
  have e : l.getD k 0 = l[k] := by simp [List.getD, h]
  rw [e] at hx ⊢
  rw [List.drop_eq_getElem_cons h, unescR_plain _ _ hx]
theorem unq_esc (l : List UInt8) (k : Nat) (h : k + 1 < l.length) (hx : (l.getD k 0).toNat = 92) (hy : (l.getD (k + 1) 0).toNat = 34 ∨ (l.getD (k + 1) 0).toNat = 92) :
    unescR (l.drop k) = (unescR (l.drop (k + 1 + 1))).map (l.getD (k + 1) 0 :: ·) := by
  have e : l.getD k 0 = l[k] := by simp [List.getD, show k < l.length by omega]
  have e1 : l.getD (k + 1) 0 = l[k + 1] := by simp [List.getD, h]
  rw [e] at hx
  rw [e1] at hy ⊢
  rw [List.drop_eq_getElem_cons (show k < l.length by omega), List.drop_eq_getElem_cons h]
  have h92 : l[k] = 92 := UInt8.toNat_inj.1 hx
  rw [h92, unescR_esc _ _ hy]
theorem unq_hex (l : List UInt8) (k : Nat) (h : k + 3 < l.length) (hx : (l.getD k 0).toNat = 92) (hy : (l.getD (k + 1) 0).toNat = 120)
    (ha : 0 ≤ lval (l.getD (k + 2) 0).toNat) (hb : 0 ≤ lval (l.getD (k + 3) 0).toNat) :
    unescR (l.drop k) = (unescR (l.drop (k + 3 + 1))).map (UInt8.ofNat (16 * (lval (l.getD (k + 2) 0).toNat).toNat + (lval (l.getD (k + 3) 0).toNat).toNat) :: ·) := by
  have e : l.getD k 0 = l[k] := by simp [List.getD, show k < l.length by omega]
  have e1 : l.getD (k + 1) 0 = l[k + 1] := by simp [List.getD, show k + 1 < l.length by omega]
  have e2 : l.getD (k + 2) 0 = l[k + 2] := by simp [List.getD, show k + 2 < l.length by omega]
  have e3 : l.getD (k + 3) 0 = l[k + 3] := by simp [List.getD, h]
  rw [e] at hx
  rw [e1] at hy
  rw [e2] at ha ⊢
  rw [e3] at hb ⊢
  rw [List.drop_eq_getElem_cons (show k < l.length by omega), List.drop_eq_getElem_cons (show k + 1 < l.length by omega), List.drop_eq_getElem_cons (show k + 1 + 1 < l.length by omega), List.drop_eq_getElem_cons (show k + 1 + 1 + 1 < l.length by omega)]
  rw [unescR.eq_def]
  dsimp only
  rw [if_neg (by omega), if_neg (by omega), if_pos ⟨hy, ha, hb⟩]
theorem unq_none (l : List UInt8) (k : Nat) (h : k < l.length) (hx : (l.getD k 0).toNat = 92)
    (hn : l.length ≤ k + 1 ∨ (k + 1 < l.length ∧ ¬ ((l.getD (k + 1) 0).toNat = 34 ∨ (l.getD (k + 1) 0).toNat = 92) ∧
      (l.length ≤ k + 3 ∨ ¬ ((l.getD (k + 1) 0).toNat = 120 ∧ 0 ≤ lval (l.getD (k + 2) 0).toNat ∧ 0 ≤ lval (l.getD (k + 3) 0).toNat)))) :
    unescR (l.drop k) = none := by
  have e : l.getD k 0 = l[k] := by simp [List.getD, h]
  rw [e] at hx
  rw [List.drop_eq_getElem_cons h, unescR.eq_def]
  dsimp only
  rw [if_neg (by omega)]
  rcases hn with hn | ⟨h1, h2, h3⟩
  · rw [List.drop_eq_nil_of_le hn]
  · have e1 : l.getD (k + 1) 0 = l[k + 1] := by simp [List.getD, h1]
    rw [e1] at h2 h3
    rw [List.drop_eq_getElem_cons h1]
    dsimp only
    rw [if_neg h2]
    by_cases h4 : l.length ≤ k + 3
    · split
      · rename_i a b r heq
        have := congrArg List.length heq
        simp at this
        omega
      · rfl
    · have e2 : l.getD (k + 2) 0 = l[k + 2] := by simp [List.getD, show k + 2 < l.length by omega]
      have e3 : l.getD (k + 3) 0 = l[k + 3] := by simp [List.getD, show k + 3 < l.length by omega]
      rw [e2, e3] at h3
      rw [List.drop_eq_getElem_cons (show k + 1 + 1 < l.length by omega), List.drop_eq_getElem_cons (show k + 1 + 1 + 1 < l.length by omega)]
      dsimp only
      rw [if_neg (by
        rcases h3 with h3 | h3
        · omega
        · exact h3)]
/-- what is answered where the strict reading of the inner bytes tells so -/
def unqOut (l : List UInt8) : Option (List UInt8) → List UInt8 × Nat
  | none => ([], 24)
  | some b => if quoteL b = l then (b, 0) else ([], 24)
theorem refUnqL_main (l : List UInt8) (h : ¬ (l.length < 2 ∨ l.getD 0 0 ≠ 34 ∨ l.getD (l.length - 1) 0 ≠ 34)) : refUnqL l = unqOut l (unescR (inner l)) := by
  unfold refUnqL
  rw [if_neg h]
  cases unescR (inner l) <;> rfl
theorem lval_le (c : Nat) : lval c ≤ 15 ∧ -1 ≤ lval c := by
  unfold lval
  split
  · omega
  · split <;> omega
theorem map_none_add (acc : List UInt8) (x : UInt8) (o o' : Option (List UInt8)) (h : o = o'.map (x :: ·)) : o.map (acc ++ ·) = o'.map ((acc ++ [x]) ++ ·) := by
  subst h
  cases o' <;> simp
theorem int_ne (n m : Nat) (h : n ≠ m) : ((n : Int) != (m : Int)) = true := by simp; omega
theorem int_neq (n m : Nat) (h : n ≠ m) : ((n : Int) == (m : Int)) = false := by simp; omega
end Go.Proofs.YtncaaiaffioegaaDoor
