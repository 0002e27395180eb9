/-
  Keys, as plain lists.
-/
import Derived.Laws.BitsAllLaws
namespace Go.Proofs.YtncaaiaffioegaaDoor

/-- bytes as a number, the highest first -/
def beNat (l : List UInt8) : Nat := l.foldl (fun a x => a * 256 + x.toNat) 0
/-- the first k of a number's eight bytes, the highest first -/
def beK (n k : Nat) : List UInt8 := (List.range k).map fun i => UInt8.ofNat (n / 256 ^ (7 - i))
def keyL (s : List UInt8) (n : Nat) : List UInt8 := s ++ [0] ++ beK n 8
def rdKey (l : List UInt8) : List UInt8 × Nat × Nat :=
  if l.length < 9 then ([], 0, 24) else if (l.getD (l.length - 9) 0).toNat ≠ 0 then ([], 0, 24) else (l.take (l.length - 9), beNat (l.drop (l.length - 9 + 1)), 0)

theorem beK_length (n k : Nat) : (beK n k).length = k := by simp [beK]
theorem beK_succ (n k : Nat) : beK n (k + 1) = beK n k ++ [UInt8.ofNat (n / 256 ^ (7 - k))] := by simp [beK, List.range_succ]
theorem beNat_snoc (l : List UInt8) (x : UInt8) : beNat (l ++ [x]) = beNat l * 256 + x.toNat := by simp [beNat]
theorem beNat_lt (l : List UInt8) : beNat l < 256 ^ l.length := by
  have H : ∀ m : Nat, ∀ l : List UInt8, l.length = m → beNat l < 256 ^ m := by
    intro m
    induction m with
    | zero => intro l h; rw [List.eq_nil_of_length_eq_zero h]; simp [beNat]
    | succ m ih =>
      intro l h
      have hne : l ≠ [] := by intro e; rw [e] at h; cases h
      have e := List.dropLast_concat_getLast hne
      rw [← e, beNat_snoc, Nat.pow_succ]
      have h1 := ih l.dropLast (by rw [List.length_dropLast]; omega)
      have h2 := (l.getLast hne).toNat_lt
      omega
  exact H _ l rfl
theorem beNat_beK (n : Nat) (h : n < 18446744073709551616) : ∀ k, k ≤ 8 → beNat (beK n k) = n / 256 ^ (8 - k) := by
  intro k
  induction k with
  | zero => intro _; rw [show beK n 0 = [] from rfl]; show 0 = _; rw [Nat.div_eq_of_lt (by show n < 256 ^ 8; omega)]
  | succ k ih =>
    intro hk
    rw [beK_succ, beNat_snoc, ih (by omega), UInt8.toNat_ofNat', show 8 - (k + 1) = 7 - k by omega, show 8 - k = (7 - k) + 1 by omega, Nat.pow_succ, ← Nat.div_div_eq_div_mul]
    omega
theorem keyL_length (s : List UInt8) (n : Nat) : (keyL s n).length = s.length + 9 := by simp [keyL, beK_length]
theorem rdKey_keyL (s : List UInt8) (n : Nat) (h : n < 18446744073709551616) : rdKey (keyL s n) = (s, n, 0) := by
  have hl := keyL_length s n
  have e : (keyL s n).length - 9 = s.length := by omega
  have e2 : keyL s n = s ++ (0 :: beK n 8) := by simp [keyL]
  unfold rdKey
  rw [if_neg (by omega), e, e2]
  have h0 : (s ++ (0 :: beK n 8)).getD s.length 0 = 0 := by simp [List.getD]
  rw [h0, if_neg (by simp), List.take_left' rfl]
  have : (s ++ 0 :: beK n 8).drop (s.length + 1) = beK n 8 := by
    rw [← List.drop_drop, List.drop_left' rfl]
    rfl
  rw [this, beNat_beK n h 8 (by omega)]
  simp
theorem keyL_inj {s t : List UInt8} {m n : Nat} (hm : m < 18446744073709551616) (hn : n < 18446744073709551616) (h : keyL s m = keyL t n) : s = t ∧ m = n := by
  have h1 := rdKey_keyL s m hm
  rw [h, rdKey_keyL t n hn] at h1
  simp only [Prod.mk.injEq] at h1
  exact ⟨h1.1.symm, h1.2.1.symm⟩

/-- what a byte's turn tells the walk -/
theorem be_facts (l : List UInt8) (k : Nat) (h : k < l.length) (hk : k < 8) :
    ∃ m : Nat, m = beNat (l.take (k + 1)) ∧ bits .or .u64 (IntKind.u64.wrap ((beNat (l.take k) : Int) * 256)) (l[k].toNat : Int) = (m : Int) := by
  have hn := beNat_lt (l.take k)
  rw [List.length_take, Nat.min_eq_left (by omega)] at hn
  have hx := l[k].toNat_lt
  have h2 : (256 : Nat) ^ k ≤ 256 ^ 7 := Nat.pow_le_pow_right (by omega) (by omega)
  have h3 : (256 : Nat) ^ 7 = 72057594037927936 := by decide
  refine ⟨_, rfl, ?_⟩
  have e : l.take (k + 1) = l.take k ++ [l[k]] := List.take_succ_eq_append_getElem h
  have hw : IntKind.u64.wrap ((beNat (l.take k) : Int) * 256) = ((beNat (l.take k) * 256 : Nat) : Int) := by
    rw [IntKind.wrap_u64]
    omega
  have hj : beNat (l.take k) * 256 ||| l[k].toNat = beNat (l.take k) * 256 + l[k].toNat := by
    have := Nat.shiftLeft_add_eq_or_of_lt (show l[k].toNat < 2 ^ 8 by omega) (beNat (l.take k))
    rw [Nat.shiftLeft_eq] at this
    exact this.symm
  rw [hw, u64_or_nat _ _ (by omega) (by omega), hj, e, beNat_snoc]
end Go.Proofs.YtncaaiaffioegaaDoor
