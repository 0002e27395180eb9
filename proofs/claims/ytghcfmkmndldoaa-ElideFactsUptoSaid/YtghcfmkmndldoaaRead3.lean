/-
  What a reader of numbers tells, more of it; a record read, as plain lists.
-/
import Derived.Test.YtghcfmkmndldoaaRead1
import Derived.Test.YtghcfmkmndldoaaRecSpec
namespace Go.Proofs.Ytghcfmkmndldoaa

theorem rnGo_facts (f : Nat) : ∀ (i n : Nat) (l : List UInt8), n < 128 ^ i → i + f ≤ 10 →
    ((rnGo f i n l).2.2 = 0 → i < (rnGo f i n l).2.1 ∧ (rnGo f i n l).2.1 ≤ i + f ∧ (rnGo f i n l).2.1 ≤ i + l.length ∧ (rnGo f i n l).1 < 18446744073709551616) ∧
    ((rnGo f i n l).2.2 ≠ 0 → (rnGo f i n l).1 = 0 ∧ (rnGo f i n l).2.1 = 0) := by
  induction f with
  | zero => intro i n l _ _; simp [rnGo]
  | succ f ih =>
    intro i n l hn hi
    cases l with
    | nil => simp [rnGo]
    | cons x l =>
      have hx := x.toNat_lt
      by_cases h9 : i = 9 ∧ 1 < x.toNat
      · simp [rnGo, h9]
      · have hr := rn_room n x.toNat i hn (by omega) (by omega) h9
        have e64 : (2 : Nat) ^ 64 = 18446744073709551616 := by decide
        by_cases hx1 : x.toNat < 128
        · by_cases h0 : x.toNat = 0 ∧ 0 < i
          · rw [rnGo_zero f i n x l h0.1 h0.2]
            simp
          · rw [rnGo_end f i n x l h9 hx1 h0]
            refine ⟨fun _ => ⟨by simp, by simp <;> omega, by simp <;> omega, by simp only; omega⟩, fun h => absurd rfl h⟩
        · rw [rnGo_more f i n x l h9 hx1]
          have := ih (i + 1) (n + x.toNat % 128 * 128 ^ i) l hr.1 (by omega)
          refine ⟨fun h => ?_, this.2⟩
          have h2 := this.1 h
          rw [List.length_cons]
          omega
theorem readNum_ok {l : List UInt8} (h : (readNum l).2.2 = 0) : 0 < (readNum l).2.1 ∧ (readNum l).2.1 ≤ 10 ∧ (readNum l).2.1 ≤ l.length ∧ (readNum l).1 < two64 := by
  have := (rnGo_facts 10 0 0 l (by decide) (by omega)).1 h
  rw [two64_eq]
  show 0 < (rnGo 10 0 0 l).2.1 ∧ (rnGo 10 0 0 l).2.1 ≤ 10 ∧ (rnGo 10 0 0 l).2.1 ≤ l.length ∧ (rnGo 10 0 0 l).1 < 18446744073709551616
  omega
theorem readNum_err {l : List UInt8} (h : (readNum l).2.2 ≠ 0) : (readNum l).1 = 0 ∧ (readNum l).2.1 = 0 := (rnGo_facts 10 0 0 l (by decide) (by omega)).2 h

/-- whatever is read is written just so -/
theorem rnGo_back (f : Nat) : ∀ (i n : Nat) (l : List UInt8), n < 128 ^ i → i + f ≤ 10 → (rnGo f i n l).2.2 = 0 →
    ∃ q, (rnGo f i n l).1 = n + q * 128 ^ i ∧ l.take ((rnGo f i n l).2.1 - i) = numBytes q ∧ (0 < i → 0 < q) := by
  induction f with
  | zero => intro i n l _ _ h; simp [rnGo] at h
  | succ f ih =>
    intro i n l hn hi h
    cases l with
    | nil => simp [rnGo] at h
    | cons x l =>
      have hx := x.toNat_lt
      by_cases h9 : i = 9 ∧ 1 < x.toNat
      · simp [rnGo, h9] at h
      · have hr := rn_room n x.toNat i hn (by omega) (by omega) h9
        by_cases hx1 : x.toNat < 128
        · by_cases h0 : x.toNat = 0 ∧ 0 < i
          · rw [rnGo_zero f i n x l h0.1 h0.2] at h
            simp at h
          · rw [rnGo_end f i n x l h9 hx1 h0]
            refine ⟨x.toNat, by simp only [Nat.mod_eq_of_lt hx1], ?_, fun hi => by omega⟩
            rw [numBytes_lt hx1, show i + 1 - i = 1 from by omega]
            simp
        · rw [rnGo_more f i n x l h9 hx1] at h ⊢
          obtain ⟨q, h1, h2, h3⟩ := ih (i + 1) (n + x.toNat % 128 * 128 ^ i) l hr.1 (by omega) h
          have hf := (rnGo_facts f (i + 1) (n + x.toNat % 128 * 128 ^ i) l hr.1 (by omega)).1 h
          have hq := h3 (by omega)
          refine ⟨x.toNat % 128 + 128 * q, ?_, ?_, fun _ => by omega⟩
          · rw [h1, Nat.pow_succ, Nat.add_mul, Nat.mul_assoc 128 q, Nat.mul_comm 128 (q * 128 ^ i), ← Nat.mul_assoc q]
            omega
          · have e : (rnGo f (i + 1) (n + x.toNat % 128 * 128 ^ i) l).2.1 - i = ((rnGo f (i + 1) (n + x.toNat % 128 * 128 ^ i) l).2.1 - (i + 1)) + 1 := by omega
            rw [e, List.take_succ_cons, h2, numBytes_ge (show ¬ x.toNat % 128 + 128 * q < 128 by omega)]
            have e2 : (x.toNat % 128 + 128 * q) / 128 = q := by omega
            have e3 : (x.toNat % 128 + 128 * q) % 128 + 128 = x.toNat := by omega
            rw [e2, e3, UInt8.ofNat_toNat]
theorem readNum_back {l : List UInt8} (h : (readNum l).2.2 = 0) : l.take (readNum l).2.1 = numBytes (readNum l).1 := by
  obtain ⟨q, h1, h2, _⟩ := rnGo_back 10 0 0 l (by decide) (by omega) h
  have e : (readNum l).1 = q := by show (rnGo 10 0 0 l).1 = q; rw [h1]; simp
  rw [e, ← h2]
  rfl
/-- what is written is read -/
theorem rnGo_forth (f : Nat) : ∀ (i n q : Nat) (r : List UInt8), n < 128 ^ i → i + f = 10 → n + q * 128 ^ i < 18446744073709551616 → (0 < i → 0 < q) → (numBytes q).length ≤ f →
    rnGo f i n (numBytes q ++ r) = (n + q * 128 ^ i, i + (numBytes q).length, 0) := by
  induction f with
  | zero => intro i n q r _ _ _ _ h; have := numBytes_pos q; omega
  | succ f ih =>
    intro i n q r hn hi hlt hq hl
    have top : ¬ (i = 9 ∧ 1 < q) := fun ⟨h1, h2⟩ => by
      subst h1
      have h3 : (128 : Nat) ^ 9 = 9223372036854775808 := by decide
      have : 2 * 128 ^ 9 ≤ q * 128 ^ 9 := Nat.mul_le_mul_right _ h2
      omega
    by_cases h : q < 128
    · rw [numBytes_lt h]
      have hb : (UInt8.ofNat q).toNat = q := by rw [UInt8.toNat_ofNat']; omega
      show rnGo (f + 1) i n (UInt8.ofNat q :: r) = _
      rw [rnGo_end f i n _ r (by rw [hb]; exact top) (by rw [hb]; exact h) (by rw [hb]; omega), hb, Nat.mod_eq_of_lt h]
      rfl
    · rw [numBytes_ge h] at hl ⊢
      have hb : (UInt8.ofNat (q % 128 + 128)).toNat = q % 128 + 128 := by rw [UInt8.toNat_ofNat']; omega
      show rnGo (f + 1) i n (UInt8.ofNat (q % 128 + 128) :: (numBytes (q / 128) ++ r)) = _
      rw [List.length_cons] at hl
      have hp := numBytes_pos (q / 128)
      have hi9 : i < 9 := by omega
      rw [rnGo_more f i n _ _ (by omega) (by rw [hb]; omega), hb, show (q % 128 + 128) % 128 = q % 128 from by omega]
      have hr := rn_room n (q % 128) i hn (by omega) (by omega) (by omega)
      rw [show q % 128 % 128 = q % 128 from by omega] at hr
      have e : n + q % 128 * 128 ^ i + q / 128 * 128 ^ (i + 1) = n + q * 128 ^ i := by
        have : q = q % 128 + 128 * (q / 128) := by omega
        conv => rhs; rw [this, Nat.add_mul, Nat.mul_assoc, Nat.mul_comm 128 (q / 128 * 128 ^ i), Nat.mul_assoc, ← Nat.pow_succ, Nat.succ_eq_add_one]
        omega
      rw [ih (i + 1) _ (q / 128) r hr.1 (by omega) (by rw [e]; exact hlt) (fun _ => by omega) (by omega), e, List.length_cons]
      congr 2
      omega
theorem readNum_forth (v : Nat) (r : List UInt8) (h : v < two64) : readNum (numBytes v ++ r) = (v, (numBytes v).length, 0) := by
  have := rnGo_forth 10 0 0 v r (by decide) rfl (by rw [two64_eq] at h; omega) (by omega) (numBytes_ten h)
  unfold readNum
  rw [this]
  simp

/-- A RECORD READ -/
def readRec (l : List UInt8) : Nat × List UInt8 × Nat × Nat :=
  if (readNum l).2.2 ≠ 0 then (0, [], 0, (readNum l).2.2)
  else if 16777216 < (readNum l).1 then (0, [], 0, 3)
  else if l.length < (readNum l).2.1 + 12 + (readNum l).1 then (0, [], 0, 21)
  else if leNat (((l.drop (readNum l).2.1).take (12 + (readNum l).1)).take 4) ≠ sumOf (((l.drop (readNum l).2.1).take (12 + (readNum l).1)).drop 4) then (0, [], 0, 23)
  else (leNat ((((l.drop (readNum l).2.1).take (12 + (readNum l).1)).drop 4).take 8), ((l.drop (readNum l).2.1).take (12 + (readNum l).1)).drop 12, (readNum l).2.1 + 12 + (readNum l).1, 0)
end Go.Proofs.Ytghcfmkmndldoaa
