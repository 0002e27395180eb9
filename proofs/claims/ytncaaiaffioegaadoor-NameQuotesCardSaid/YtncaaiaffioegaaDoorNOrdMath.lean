/-
  Keys of one text are ordered as their numbers are.
-/
import Derived.Test.YtncaaiaffioegaaDoorNKeyMath
import Derived.Laws.Strings
namespace Go.Proofs.YtncaaiaffioegaaDoor

theorem less_same (p x y : List UInt8) : Op.bytesLess (p ++ x) (p ++ y) = Op.bytesLess x y := by
  induction p with
  | nil => rfl
  | cons a p ih =>
    rw [List.cons_append, List.cons_append, Op.bytesLess, ih]
    simp
theorem beFold (l : List UInt8) : ∀ c : Nat, l.foldl (fun a x => a * 256 + x.toNat) c = c * 256 ^ l.length + beNat l := by
  induction l with
  | nil => intro c; simp [beNat]
  | cons x l ih =>
    intro c
    have h : beNat (x :: l) = x.toNat * 256 ^ l.length + beNat l := by
      show l.foldl _ (0 * 256 + x.toNat) = _
      rw [ih]; simp
    rw [List.foldl_cons, ih, h, List.length_cons, Nat.pow_succ, Nat.add_mul, Nat.mul_assoc, Nat.mul_comm 256 (256 ^ l.length), Nat.add_assoc]
theorem beNat_cons (x : UInt8) (l : List UInt8) : beNat (x :: l) = x.toNat * 256 ^ l.length + beNat l := by
  show l.foldl _ (0 * 256 + x.toNat) = _
  rw [beFold]; simp
theorem less_num : ∀ x y : List UInt8, x.length = y.length → Op.bytesLess x y = decide (beNat x < beNat y)
  | [], [], _ => by simp [Op.bytesLess, beNat]
  | a :: x, b :: y, h => by
    have hl : x.length = y.length := by simpa using h
    have ih := less_num x y hl
    have h1 := beNat_lt x
    have h2 := beNat_lt y
    rw [Op.bytesLess, ih, beNat_cons, beNat_cons, hl]
    rw [hl] at h1
    generalize beNat x = m at *
    generalize beNat y = n at *
    generalize 256 ^ y.length = k at *
    rw [Bool.eq_iff_iff]
    simp only [Bool.or_eq_true, decide_eq_true_eq, Bool.and_eq_true, beq_iff_eq, UInt8.lt_iff_toNat_lt]
    rw [← UInt8.toNat_inj]
    generalize a.toNat = p
    generalize b.toNat = q
    constructor
    · rintro (h | ⟨rfl, h⟩)
      · have : (p + 1) * k ≤ q * k := Nat.mul_le_mul_right k h
        rw [Nat.add_mul] at this
        omega
      · omega
    · intro h
      rcases Nat.lt_trichotomy p q with hpq | rfl | hpq
      · exact .inl hpq
      · exact .inr ⟨rfl, by omega⟩
      · exfalso
        have : (q + 1) * k ≤ p * k := Nat.mul_le_mul_right k hpq
        rw [Nat.add_mul] at this
        omega
  | [], b :: y, h => by simp at h
  | a :: x, [], h => by simp at h
theorem key_less (s : List UInt8) (a b : Nat) (ha : a < 18446744073709551616) (hb : b < 18446744073709551616) : Op.bytesLess (keyL s a) (keyL s b) = decide (a < b) := by
  unfold keyL
  rw [less_same, less_num _ _ (by rw [beK_length, beK_length]), beNat_beK a ha 8 (by omega), beNat_beK b hb 8 (by omega)]
  simp
end Go.Proofs.YtncaaiaffioegaaDoor
