/-
  Numbers of so many bytes, the lowest first: written and read, by both programs; bytes that are all noughts; a copy.
-/
import Derived.Test.YtghcfmkmndldoaaNum
import Derived.BigQuiet
import Derived.Deep.QuietTactic
namespace Go.Proofs.Ytghcfmkmndldoaa
open Go.RowKit

/-- so many bytes of a number, the lowest first -/
def leBytes : Nat → Nat → List UInt8
  | 0, _ => []
  | n + 1, v => UInt8.ofNat v :: leBytes n (v / 256)
/-- bytes as a number, the lowest first -/
def leNat : List UInt8 → Nat
  | [] => 0
  | x :: l => x.toNat + 256 * leNat l
theorem leBytes_length (n : Nat) : ∀ v, (leBytes n v).length = n := by
  induction n with
  | zero => intro v; rfl
  | succ n ih => intro v; simp [leBytes, ih]
theorem leNat_lt (l : List UInt8) : leNat l < 256 ^ l.length := by
  induction l with
  | nil => simp [leNat]
  | cons x l ih =>
    have := x.toNat_lt
    simp only [leNat, List.length_cons, Nat.pow_succ]
    omega
theorem leNat_append (l r : List UInt8) : leNat (l ++ r) = leNat l + 256 ^ l.length * leNat r := by
  induction l with
  | nil => simp [leNat]
  | cons x l ih => simp only [List.cons_append, leNat, ih, List.length_cons, Nat.pow_succ, Nat.mul_add, Nat.add_assoc, ← Nat.mul_assoc]; rw [Nat.mul_comm 256 (256 ^ l.length)]
theorem leNat_leBytes (n : Nat) : ∀ v, leNat (leBytes n v) = v % 256 ^ n := by
  induction n with
  | zero => intro v; simp [leBytes, leNat]; omega
  | succ n ih =>
    intro v
    show (UInt8.ofNat v).toNat + 256 * leNat (leBytes n (v / 256)) = _
    rw [ih, UInt8.toNat_ofNat']
    show _ = v % (256 ^ n * 256)
    rw [Nat.mul_comm (256 ^ n) 256, Nat.mod_mul]
theorem leBytes_leNat (l : List UInt8) : leBytes l.length (leNat l) = l := by
  induction l with
  | nil => rfl
  | cons x l ih =>
    have := x.toNat_lt
    simp only [List.length_cons, leBytes, leNat]
    rw [show (x.toNat + 256 * leNat l) / 256 = leNat l from by omega, ih]
    congr 1
    apply UInt8.toNat_inj.1
    rw [UInt8.toNat_ofNat']
    omega
theorem leBytes_snoc (n : Nat) : ∀ v, leBytes (n + 1) v = leBytes n v ++ [UInt8.ofNat (v / 256 ^ n)] := by
  induction n with
  | zero => intro v; simp [leBytes]
  | succ n ih =>
    intro v
    rw [leBytes, ih, leBytes, Nat.div_div_eq_div_mul, Nat.pow_succ, Nat.mul_comm 256]
    rfl

theorem leNat_take (l : List UInt8) (k : Nat) (h : k < l.length) : leNat (l.take (k + 1)) = leNat (l.take k) + l[k].toNat * 256 ^ k := by
  rw [List.take_succ_eq_append_getElem h, leNat_append, List.length_take, Nat.min_eq_left (by omega)]
  simp only [leNat]
  rw [Nat.mul_comm]
  simp
theorem join_bits (n x k : Nat) (h : n < 256 ^ k) : n ||| x * 256 ^ k = n + x * 256 ^ k := by
  have e : (256 : Nat) ^ k = 2 ^ (8 * k) := by rw [Nat.pow_mul]
  rw [e] at h ⊢
  have := Nat.shiftLeft_add_eq_or_of_lt h x
  rw [Nat.shiftLeft_eq] at this
  rw [Nat.or_comm, ← this]
  omega
theorem pow_room (k : Nat) (h : k < 8) (n x : Nat) (hn : n < 256 ^ k) (hx : x < 256) : n + x * 256 ^ k < 18446744073709551616 := by
  have h1 : x * 256 ^ k ≤ 255 * 256 ^ k := Nat.mul_le_mul_right _ (by omega)
  have h2 : (256 : Nat) ^ k ≤ 256 ^ 7 := Nat.pow_le_pow_right (by omega) (by omega)
  have h3 : (256 : Nat) ^ 7 = 72057594037927936 := by decide
  omega
/-- what a byte's turn tells the walk -/
theorem get_facts (l : List UInt8) (k : Nat) (h : k < l.length) (hl : l.length ≤ 8) : ∃ m : Nat, Hid (m = leNat (l.take (k + 1))) ∧
    bits .or .u64 (leNat (l.take k) : Int) (IntKind.u64.wrap ((l[k].toNat : Int) * 2 ^ (8 * k))) = (m : Int) := by
  have hn := leNat_lt (l.take k)
  rw [List.length_take, Nat.min_eq_left (by omega)] at hn
  have hx := l[k].toNat_lt
  have hr := pow_room k (by omega) _ _ hn (by omega : l[k].toNat < 256)
  refine ⟨_, rfl, ?_⟩
  have e : (2 : Int) ^ (8 * k) = ((256 ^ k : Nat) : Int) := by
    have : (256 : Nat) ^ k = 2 ^ (8 * k) := by rw [Nat.pow_mul]
    rw [this]
    simp
  have hw : IntKind.u64.wrap ((l[k].toNat : Int) * ((256 ^ k : Nat) : Int)) = ((l[k].toNat * 256 ^ k : Nat) : Int) := by
    rw [IntKind.wrap_u64, ← Int.natCast_mul]
    omega
  rw [e, hw, u64_or_nat _ _ (by omega) (by omega), join_bits _ _ _ hn, leNat_take l k h]

end Go.Proofs.Ytghcfmkmndldoaa
