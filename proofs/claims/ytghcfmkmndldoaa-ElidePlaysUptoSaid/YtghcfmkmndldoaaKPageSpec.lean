/-
  A page's bytes, as plain lists.
-/
import Derived.Test.YtghcfmkmndldoaaKGet
import Derived.Test.YtghcfmkmndldoaaKRead1
import Derived.Test.YtghcfmkmndldoaaKRefRn
namespace Go.Proofs.Ytghcfmkmndldoaa
open Go.RowKit

/-- what follows a page's sum -/
def pageBody (n seg row shard : Nat) (x : List UInt8) : List UInt8 :=
  leBytes 8 seg ++ (leBytes 4 row ++ (leBytes 1 shard ++ (leBytes 2 x.length ++ (x ++ List.replicate (n - 19 - x.length) 0))))
def pageBytes (n seg row shard : Nat) (x : List UInt8) : List UInt8 := leBytes 4 (sumOf (pageBody n seg row shard x)) ++ pageBody n seg row shard x
theorem pageBody_length (n seg row shard : Nat) (x : List UInt8) (h : x.length + 19 ≤ n) : (pageBody n seg row shard x).length = n - 4 := by
  simp [pageBody, leBytes_length]; omega
theorem pageBytes_length (n seg row shard : Nat) (x : List UInt8) (h : x.length + 19 ≤ n) : (pageBytes n seg row shard x).length = n := by
  simp only [pageBytes, List.length_append, leBytes_length, pageBody_length n seg row shard x h]; omega
/-- which error a page of such numbers is answered by; 0 for none -/
def pageErr (s row shard : Int) (len : Nat) : Nat :=
  if roomOf s = 0 ∨ row < 0 ∨ 1073741824 < row ∨ shard < 0 ∨ 255 < shard then 1 else if roomOf s < len then 3 else 0

/-- one stretch laid behind another -/
theorem splat_at (p r l : List UInt8) (off : Nat) (h : p.length = off) (_hl : r.length ≤ l.length) : splat (p ++ l) off r = p ++ (r ++ l.drop r.length) := by
  subst h
  simp [splat, List.drop_append]
theorem drop_noughts (k m : Nat) : (List.replicate m (0 : UInt8)).drop k = List.replicate (m - k) 0 := List.drop_replicate
/-- all that is laid into a page ahead of its sum -/
theorem page_list (n seg row shard : Nat) (x : List UInt8) (h : x.length + 19 ≤ n) :
    splat (splat (splat (splat (splat (List.replicate n 0) 4 (leBytes 8 seg)) 12 (leBytes 4 row)) 16 (leBytes 1 shard)) 17 (leBytes 2 x.length)) 19 x = List.replicate 4 0 ++ pageBody n seg row shard x := by
  have h0 : List.replicate n (0 : UInt8) = List.replicate 4 0 ++ List.replicate (n - 4) 0 := by
    rw [List.replicate_append_replicate]; congr 1; omega
  rw [h0, splat_at _ _ _ 4 (by simp) (by simp [leBytes_length]; omega), drop_noughts, leBytes_length, ← List.append_assoc,
    splat_at _ _ _ 12 (by simp [leBytes_length]) (by simp [leBytes_length]; omega), drop_noughts, leBytes_length, ← List.append_assoc,
    splat_at _ _ _ 16 (by simp [leBytes_length]) (by simp [leBytes_length]; omega), drop_noughts, leBytes_length, ← List.append_assoc,
    splat_at _ _ _ 17 (by simp [leBytes_length]) (by simp [leBytes_length]; omega), drop_noughts, leBytes_length, ← List.append_assoc,
    splat_at _ _ _ 19 (by simp [leBytes_length]) (by simp; omega), drop_noughts]
  have e : n - 4 - 8 - 4 - 1 - 2 - x.length = n - 19 - x.length := by omega
  rw [e]
  simp only [pageBody, List.append_assoc]
theorem page_list2 (n seg row shard : Nat) (x : List UInt8) : splat (List.replicate 4 0 ++ pageBody n seg row shard x) 0 (leBytes 4 (sumOf (pageBody n seg row shard x))) = pageBytes n seg row shard x := by
  simp [splat, leBytes_length, pageBytes]
end Go.Proofs.Ytghcfmkmndldoaa

/-
  A record's bytes, as plain lists.
-/
namespace Go.Proofs.Ytghcfmkmndldoaa
open Go.RowKit

def recBody (seq : Nat) (x : List UInt8) : List UInt8 := leBytes 8 seq ++ x
def recBytes (seq : Nat) (x : List UInt8) : List UInt8 := numBytes x.length ++ (leBytes 4 (sumOf (recBody seq x)) ++ recBody seq x)
theorem recBody_length (seq : Nat) (x : List UInt8) : (recBody seq x).length = 8 + x.length := by simp [recBody, leBytes_length]
theorem recBytes_length (seq : Nat) (x : List UInt8) : (recBytes seq x).length = (numBytes x.length).length + 12 + x.length := by
  simp only [recBytes, List.length_append, recBody_length, leBytes_length]; omega
theorem rec_list (n k seq : Nat) (x nb : List UInt8) (hk : nb.length = k) (hn : n = k + 12 + x.length) :
    splat (splat (splat (List.replicate n 0) 0 nb) (k + 4) (leBytes 8 seq)) (k + 12) x = nb ++ (List.replicate 4 0 ++ recBody seq x) := by
  subst hk hn
  have h0 : splat (List.replicate (nb.length + 12 + x.length) (0 : UInt8)) 0 nb = (nb ++ List.replicate 4 0) ++ List.replicate (8 + x.length) 0 := by
    simp only [splat, List.take_zero, List.nil_append, Nat.zero_add, drop_noughts, List.append_assoc, List.replicate_append_replicate]
    congr 2
    omega
  rw [h0, splat_at _ _ _ (nb.length + 4) (by simp) (by simp [leBytes_length]), drop_noughts, leBytes_length, ← List.append_assoc,
    splat_at _ _ _ (nb.length + 12) (by simp [leBytes_length]) (by simp), drop_noughts]
  simp [recBody]
theorem rec_list2 (k seq : Nat) (x nb : List UInt8) (hk : nb.length = k) : splat (nb ++ (List.replicate 4 0 ++ recBody seq x)) k (leBytes 4 (sumOf (recBody seq x))) = nb ++ (leBytes 4 (sumOf (recBody seq x)) ++ recBody seq x) := by
  rw [splat_at _ _ _ k hk (by simp [leBytes_length])]
  simp [leBytes_length]
end Go.Proofs.Ytghcfmkmndldoaa

/-
  What a reader of numbers tells, more of it; a record read, as plain lists.
-/
namespace Go.Proofs.Ytghcfmkmndldoaa

theorem rnGo_facts (f : Nat) : ∀ (i n : Nat) (l : List UInt8), n < 128 ^ i → i + f ≤ 10 →
    ((rnGo f i n l).2.2 = 0 → i < (rnGo f i n l).2.1 ∧ (rnGo f i n l).2.1 ≤ i + f ∧ (rnGo f i n l).2.1 ≤ i + l.length ∧ (rnGo f i n l).1 < 18446744073709551616) ∧
    ((rnGo f i n l).2.2 ≠ 0 → (rnGo f i n l).1 = 0 ∧ (rnGo f i n l).2.1 = 0) := by
  induction f with
  | zero => intro i n l _ _; simp [rnGo]
  | succ f ih =>
    intro i n l hn hi
    cases l with
    | nil => simp [rnGo]
    | cons x l =>
      have hx := x.toNat_lt
      by_cases h9 : i = 9 ∧ 1 < x.toNat
      · simp [rnGo, h9]
      · have hr := rn_room n x.toNat i hn (by omega) (by omega) h9
        have e64 : (2 : Nat) ^ 64 = 18446744073709551616 := by decide
        by_cases hx1 : x.toNat < 128
        · by_cases h0 : x.toNat = 0 ∧ 0 < i
          · rw [rnGo_zero f i n x l h0.1 h0.2]
            simp
          · rw [rnGo_end f i n x l h9 hx1 h0]
            refine ⟨fun _ => ⟨by simp, by simp <;> omega, by simp <;> omega, by simp only; omega⟩, fun h => absurd rfl h⟩
        · rw [rnGo_more f i n x l h9 hx1]
          have := ih (i + 1) (n + x.toNat % 128 * 128 ^ i) l hr.1 (by omega)
          refine ⟨fun h => ?_, this.2⟩
          have h2 := this.1 h
          rw [List.length_cons]
          omega
theorem readNum_ok {l : List UInt8} (h : (readNum l).2.2 = 0) : 0 < (readNum l).2.1 ∧ (readNum l).2.1 ≤ 10 ∧ (readNum l).2.1 ≤ l.length ∧ (readNum l).1 < two64 := by
  have := (rnGo_facts 10 0 0 l (by decide) (by omega)).1 h
  rw [two64_eq]
  show 0 < (rnGo 10 0 0 l).2.1 ∧ (rnGo 10 0 0 l).2.1 ≤ 10 ∧ (rnGo 10 0 0 l).2.1 ≤ l.length ∧ (rnGo 10 0 0 l).1 < 18446744073709551616
  omega
theorem readNum_err {l : List UInt8} (h : (readNum l).2.2 ≠ 0) : (readNum l).1 = 0 ∧ (readNum l).2.1 = 0 := (rnGo_facts 10 0 0 l (by decide) (by omega)).2 h

/-- whatever is read is written just so -/
theorem rnGo_back (f : Nat) : ∀ (i n : Nat) (l : List UInt8), n < 128 ^ i → i + f ≤ 10 → (rnGo f i n l).2.2 = 0 →
    ∃ q, (rnGo f i n l).1 = n + q * 128 ^ i ∧ l.take ((rnGo f i n l).2.1 - i) = numBytes q ∧ (0 < i → 0 < q) := by
  induction f with
  | zero => intro i n l _ _ h; simp [rnGo] at h
  | succ f ih =>
    intro i n l hn hi h
    cases l with
    | nil => simp [rnGo] at h
    | cons x l =>
      have hx := x.toNat_lt
      by_cases h9 : i = 9 ∧ 1 < x.toNat
      · simp [rnGo, h9] at h
      · have hr := rn_room n x.toNat i hn (by omega) (by omega) h9
        by_cases hx1 : x.toNat < 128
        · by_cases h0 : x.toNat = 0 ∧ 0 < i
          · rw [rnGo_zero f i n x l h0.1 h0.2] at h
            simp at h
          · rw [rnGo_end f i n x l h9 hx1 h0]
            refine ⟨x.toNat, by simp only [Nat.mod_eq_of_lt hx1], ?_, fun hi => by omega⟩
            rw [numBytes_lt hx1, show i + 1 - i = 1 from by omega]
            simp
        · rw [rnGo_more f i n x l h9 hx1] at h ⊢
          obtain ⟨q, h1, h2, h3⟩ := ih (i + 1) (n + x.toNat % 128 * 128 ^ i) l hr.1 (by omega) h
          have hf := (rnGo_facts f (i + 1) (n + x.toNat % 128 * 128 ^ i) l hr.1 (by omega)).1 h
          have hq := h3 (by omega)
          refine ⟨x.toNat % 128 + 128 * q, ?_, ?_, fun _ => by omega⟩
          · rw [h1, Nat.pow_succ, Nat.add_mul, Nat.mul_assoc 128 q, Nat.mul_comm 128 (q * 128 ^ i), ← Nat.mul_assoc q]
            omega
          · have e : (rnGo f (i + 1) (n + x.toNat % 128 * 128 ^ i) l).2.1 - i = ((rnGo f (i + 1) (n + x.toNat % 128 * 128 ^ i) l).2.1 - (i + 1)) + 1 := by omega
            rw [e, List.take_succ_cons, h2, numBytes_ge (show ¬ x.toNat % 128 + 128 * q < 128 by omega)]
            have e2 : (x.toNat % 128 + 128 * q) / 128 = q := by omega
            have e3 : (x.toNat % 128 + 128 * q) % 128 + 128 = x.toNat := by omega
            rw [e2, e3, UInt8.ofNat_toNat]
theorem readNum_back {l : List UInt8} (h : (readNum l).2.2 = 0) : l.take (readNum l).2.1 = numBytes (readNum l).1 := by
  obtain ⟨q, h1, h2, _⟩ := rnGo_back 10 0 0 l (by decide) (by omega) h
  have e : (readNum l).1 = q := by show (rnGo 10 0 0 l).1 = q; rw [h1]; simp
  rw [e, ← h2]
  rfl
/-- what is written is read -/
theorem rnGo_forth (f : Nat) : ∀ (i n q : Nat) (r : List UInt8), n < 128 ^ i → i + f = 10 → n + q * 128 ^ i < 18446744073709551616 → (0 < i → 0 < q) → (numBytes q).length ≤ f →
    rnGo f i n (numBytes q ++ r) = (n + q * 128 ^ i, i + (numBytes q).length, 0) := by
  induction f with
  | zero => intro i n q r _ _ _ _ h; have := numBytes_pos q; omega
  | succ f ih =>
    intro i n q r hn hi hlt hq hl
    have top : ¬ (i = 9 ∧ 1 < q) := fun ⟨h1, h2⟩ => by
      subst h1
      have h3 : (128 : Nat) ^ 9 = 9223372036854775808 := by decide
      have : 2 * 128 ^ 9 ≤ q * 128 ^ 9 := Nat.mul_le_mul_right _ h2
      omega
    by_cases h : q < 128
    · rw [numBytes_lt h]
      have hb : (UInt8.ofNat q).toNat = q := by rw [UInt8.toNat_ofNat']; omega
      show rnGo (f + 1) i n (UInt8.ofNat q :: r) = _
      rw [rnGo_end f i n _ r (by rw [hb]; exact top) (by rw [hb]; exact h) (by rw [hb]; omega), hb, Nat.mod_eq_of_lt h]
      rfl
    · rw [numBytes_ge h] at hl ⊢
      have hb : (UInt8.ofNat (q % 128 + 128)).toNat = q % 128 + 128 := by rw [UInt8.toNat_ofNat']; omega
      show rnGo (f + 1) i n (UInt8.ofNat (q % 128 + 128) :: (numBytes (q / 128) ++ r)) = _
      rw [List.length_cons] at hl
      have hp := numBytes_pos (q / 128)
      have hi9 : i < 9 := by omega
      rw [rnGo_more f i n _ _ (by omega) (by rw [hb]; omega), hb, show (q % 128 + 128) % 128 = q % 128 from by omega]
      have hr := rn_room n (q % 128) i hn (by omega) (by omega) (by omega)
      rw [show q % 128 % 128 = q % 128 from by omega] at hr
      have e : n + q % 128 * 128 ^ i + q / 128 * 128 ^ (i + 1) = n + q * 128 ^ i := by
        have : q = q % 128 + 128 * (q / 128) := by omega
        conv => rhs; rw [this, Nat.add_mul, Nat.mul_assoc, Nat.mul_comm 128 (q / 128 * 128 ^ i), Nat.mul_assoc, ← Nat.pow_succ, Nat.succ_eq_add_one]
        omega
      rw [ih (i + 1) _ (q / 128) r hr.1 (by omega) (by rw [e]; exact hlt) (fun _ => by omega) (by omega), e, List.length_cons]
      congr 2
      omega
theorem readNum_forth (v : Nat) (r : List UInt8) (h : v < two64) : readNum (numBytes v ++ r) = (v, (numBytes v).length, 0) := by
  have := rnGo_forth 10 0 0 v r (by decide) rfl (by rw [two64_eq] at h; omega) (by omega) (numBytes_ten h)
  unfold readNum
  rw [this]
  simp

/-- A RECORD READ -/
def readRec (l : List UInt8) : Nat × List UInt8 × Nat × Nat :=
  if (readNum l).2.2 ≠ 0 then (0, [], 0, (readNum l).2.2)
  else if 16777216 < (readNum l).1 then (0, [], 0, 3)
  else if l.length < (readNum l).2.1 + 12 + (readNum l).1 then (0, [], 0, 21)
  else if leNat (((l.drop (readNum l).2.1).take (12 + (readNum l).1)).take 4) ≠ sumOf (((l.drop (readNum l).2.1).take (12 + (readNum l).1)).drop 4) then (0, [], 0, 23)
  else (leNat ((((l.drop (readNum l).2.1).take (12 + (readNum l).1)).drop 4).take 8), ((l.drop (readNum l).2.1).take (12 + (readNum l).1)).drop 12, (readNum l).2.1 + 12 + (readNum l).1, 0)
end Go.Proofs.Ytghcfmkmndldoaa

/-
  A byte string read: the program's reader and the second saying's.
-/
namespace Go.Proofs.Ytghcfmkmndldoaa
open Go.RowKit

/-- bytes read: what stands there, how much was taken, error -/
def readBy (l : List UInt8) (most : Int) : List UInt8 × Nat × Nat :=
  if (readNum l).2.2 ≠ 0 then ([], 0, (readNum l).2.2)
  else if max most 0 < ((readNum l).1 : Int) then ([], 0, 3)
  else if l.length < (readNum l).2.1 + (readNum l).1 then ([], 0, 21)
  else ((l.drop (readNum l).2.1).take (readNum l).1, (readNum l).2.1 + (readNum l).1, 0)

/-- v is a slice that reads as l -/
def SB (w : World) (v : Value) (l : List UInt8) : Prop := ∃ A c, v = .slice A l.length c ∧ RB w w.heap.size A l

end Go.Proofs.Ytghcfmkmndldoaa
