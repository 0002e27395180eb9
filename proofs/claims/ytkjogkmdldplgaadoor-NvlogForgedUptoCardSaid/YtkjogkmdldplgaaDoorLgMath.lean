/-
  The log as plain data: bounds, the ring, records.
-/
import Derived.Test.YtkjogkmdldplgaaDoorLgNum
import Derived.Test.YtkjogkmdldplgaaDoorKNv9
namespace Go.Proofs.YtkjogkmdldplgaaDoor
open Go.RowKit

structure Bd where
  first : Nat
  next : Nat
  at_ : Nat
  used : Nat
def bdV (b : Bd) : Value := .agg #[.int .u64 (b.first : Int), .int .u64 (b.next : Int), .int .i64 (b.at_ : Int), .int .i64 (b.used : Int)]
def bdL (b : Bd) : List Value := [.int .u64 (b.first : Int), .int .u64 (b.next : Int), .int .i64 (b.at_ : Int), .int .i64 (b.used : Int)]
def vals (b : Bd) : List Nat := [b.first, b.next, b.at_, b.used]
def slotL (b : Bd) : List UInt8 := (vals b).flatMap numBytes

/-- byte p of a device -/
def byteAt (m : List UInt8) (p : Nat) : UInt8 := m.getD p 0
/-- n bytes of the ring of R bytes from a on, round its end -/
def cyc (m : List UInt8) (R a n : Nat) : List UInt8 := (List.range n).map fun i => byteAt m (57 + (a + i) % R)
theorem cyc_length (m : List UInt8) (R a n : Nat) : (cyc m R a n).length = n := by simp [cyc]
theorem cyc_get (m : List UInt8) (R a n i : Nat) (h : i < n) : (cyc m R a n)[i]? = some (byteAt m (57 + (a + i) % R)) := by simp [cyc, h]
theorem cyc_zero (m : List UInt8) (R a : Nat) : cyc m R a 0 = [] := rfl
theorem cyc_add (m : List UInt8) (R a k q : Nat) : cyc m R a (k + q) = cyc m R a k ++ cyc m R (a + k) q := by
  unfold cyc
  rw [List.range_add, List.map_append, List.map_map]
  congr 1
  apply List.map_congr_left
  intro i _
  show byteAt m _ = byteAt m _
  rw [Nat.add_assoc]
theorem cyc_mod (m : List UInt8) (R a n : Nat) : cyc m R (a % R) n = cyc m R a n := by
  unfold cyc
  apply List.map_congr_left
  intro i _
  rw [Nat.mod_add_mod]
theorem cyc_flat (m : List UInt8) (R a q : Nat) (h : a + q ≤ R) (hm : 57 + R ≤ m.length) : cyc m R a q = (m.drop (57 + a)).take q := by
  apply List.ext_getElem?
  intro i
  by_cases hi : i < q
  · rw [cyc_get _ _ _ _ _ hi, List.getElem?_take, if_pos hi, List.getElem?_drop, Nat.mod_eq_of_lt (by omega)]
    unfold byteAt
    rw [show 57 + (a + i) = 57 + a + i by omega, List.getD_eq_getElem?_getD, List.getElem?_eq_getElem (by omega)]
    rfl
  · rw [List.getElem?_eq_none (by rw [cyc_length]; omega), List.getElem?_eq_none (by simp; omega)]
theorem cyc_congr {m m' : List UInt8} {R a n : Nat} (h : ∀ i, i < n → byteAt m' (57 + (a + i) % R) = byteAt m (57 + (a + i) % R)) : cyc m' R a n = cyc m R a n := by
  unfold cyc
  apply List.map_congr_left
  intro i hi
  exact h i (List.mem_range.1 hi)
theorem cyc_take (m : List UInt8) (R a k n : Nat) (h : k ≤ n) : (cyc m R a n).take k = cyc m R a k := by
  obtain ⟨q, rfl⟩ : ∃ q, n = k + q := ⟨n - k, by omega⟩
  rw [cyc_add, List.take_left' (cyc_length _ _ _ _)]
theorem cyc_drop (m : List UInt8) (R a k q : Nat) : (cyc m R a (k + q)).drop k = cyc m R (a + k) q := by
  rw [cyc_add, List.drop_left' (cyc_length _ _ _ _)]

/-- a record's bytes in the ring -/
def encR (r : List UInt8) : List UInt8 := numBytes r.length ++ r
def enc (rs : List (List UInt8)) : List UInt8 := rs.flatMap encR
theorem enc_cons (r : List UInt8) (rs : List (List UInt8)) : enc (r :: rs) = encR r ++ enc rs := by simp [enc]
theorem enc_snoc (r : List UInt8) (rs : List (List UInt8)) : enc (rs ++ [r]) = enc rs ++ encR r := by simp [enc]
theorem encR_length (r : List UInt8) : (encR r).length = (numBytes r.length).length + r.length := by simp [encR]
theorem encR_pos (r : List UInt8) : 1 ≤ (encR r).length := by rw [encR_length]; have := numBytes_pos r.length; omega

/-- WHAT A DEVICE's BYTES SAY: the bounds b, the records rs -/
structure Holds (m : List UInt8) (b : Bd) (rs : List (List UInt8)) : Prop where
  low : 256 ≤ m.length
  high : m.length ≤ 67108864
  cnt : b.next = b.first + rs.length
  nx : b.next ≤ 1099511627776
  at_ : b.at_ < m.length - 57
  used : b.used ≤ m.length - 57
  ring : cyc m (m.length - 57) b.at_ b.used = enc rs
  turn : ∃ t : Nat, (t = 1 ∨ t = 2) ∧ byteAt m 0 = UInt8.ofNat t ∧ ∃ rest, (m.drop (1 + 28 * (t - 1))).take 28 = slotL b ++ rest

theorem Holds.used_eq {m : List UInt8} {b : Bd} {rs : List (List UInt8)} (h : Holds m b rs) : b.used = (enc rs).length := by rw [← h.ring, cyc_length]
theorem slotL_eq (b : Bd) : slotL b = numBytes b.first ++ (numBytes b.next ++ (numBytes b.at_ ++ numBytes b.used)) := by simp [slotL, vals]
theorem slotL_length (b : Bd) (h1 : b.first ≤ 1099511627776) (h2 : b.next ≤ 1099511627776) (h3 : b.at_ ≤ 67108864) (h4 : b.used ≤ 67108864) : (slotL b).length ≤ 28 := by
  rw [slotL_eq]
  have a1 := numBytes_len 5 b.first (by have : 128 ^ 6 = 4398046511104 := by decide
                                        omega)
  have a2 := numBytes_len 5 b.next (by have : 128 ^ 6 = 4398046511104 := by decide
                                       omega)
  have a3 := numBytes_len 3 b.at_ (by have : 128 ^ 4 = 268435456 := by decide
                                      omega)
  have a4 := numBytes_len 3 b.used (by have : 128 ^ 4 = 268435456 := by decide
                                       omega)
  simp only [List.length_append]
  omega
theorem slotL_pos (b : Bd) : 1 ≤ (slotL b).length := by
  rw [slotL_eq, List.length_append]
  have := numBytes_pos b.first
  omega

theorem byteAt_splat (m : List UInt8) (off : Nat) (r : List UInt8) (p : Nat) (h : off + r.length ≤ m.length) : byteAt (splat m off r) p = if off ≤ p ∧ p < off + r.length then r.getD (p - off) 0 else byteAt m p := by
  unfold byteAt splat
  simp only [List.getD_eq_getElem?_getD]
  have ht : (m.take off).length = off := by simp; omega
  by_cases h1 : off ≤ p
  · rw [List.getElem?_append_right (by omega), ht]
    by_cases h2 : p < off + r.length
    · rw [if_pos ⟨h1, h2⟩, List.getElem?_append_left (by omega)]
    · rw [if_neg (fun q => h2 q.2), List.getElem?_append_right (by omega), List.getElem?_drop]
      congr 2
      omega
  · rw [if_neg (fun q => h1 q.1), List.getElem?_append_left (by omega), List.getElem?_take, if_pos (by omega)]
theorem splat_here (m : List UInt8) (off : Nat) (r : List UInt8) (n : Nat) (h : off + r.length ≤ m.length) (hn : r.length ≤ n) : ((splat m off r).drop off).take n = r ++ ((m.drop (off + r.length)).take (n - r.length)) := by
  have ht : (m.take off).length = off := by simp; omega
  unfold splat
  rw [List.drop_left' ht, List.take_append, List.take_of_length_le hn]

/-- b is written into the ring from a on -/
def Wrote (m m' : List UInt8) (R a : Nat) (b : List UInt8) : Prop :=
  m'.length = m.length ∧ (∀ i x, b[i]? = some x → byteAt m' (57 + (a + i) % R) = x) ∧ ∀ p, (∀ i, i < b.length → p ≠ 57 + (a + i) % R) → byteAt m' p = byteAt m p
theorem mod_inj {R a i j : Nat} (hi : i < R) (hj : j < R) (h : (a + i) % R = (a + j) % R) : i = j := by
  have hR : 0 < R := by omega
  have h1 : (a % R + i) % R = (a % R + j) % R := by rw [Nat.mod_add_mod, Nat.mod_add_mod]; exact h
  have h2 := Nat.mod_lt a hR
  generalize a % R = c at h1 h2
  by_cases q1 : c + i < R
  · rw [Nat.mod_eq_of_lt q1] at h1
    by_cases q2 : c + j < R
    · rw [Nat.mod_eq_of_lt q2] at h1; omega
    · rw [Nat.mod_eq_sub_mod (by omega), Nat.mod_eq_of_lt (by omega)] at h1; omega
  · rw [Nat.mod_eq_sub_mod (show c + i ≥ R by omega), Nat.mod_eq_of_lt (show c + i - R < R by omega)] at h1
    by_cases q2 : c + j < R
    · rw [Nat.mod_eq_of_lt q2] at h1; omega
    · rw [Nat.mod_eq_sub_mod (show c + j ≥ R by omega), Nat.mod_eq_of_lt (show c + j - R < R by omega)] at h1; omega
theorem Wrote.refl (m : List UInt8) (R a : Nat) : Wrote m m R a [] := ⟨rfl, fun i x h => by simp at h, fun _ _ => rfl⟩
/-- one part more -/
theorem Wrote.more {m m' : List UInt8} {R a : Nat} {b c : List UInt8} (h : Wrote m m' R a b) (hR : 0 < R) (hm : 57 + R ≤ m.length) (hb : b.length + c.length ≤ R) (hf : (a + b.length) % R + c.length ≤ R) :
    Wrote m (splat m' (57 + (a + b.length) % R) c) R a (b ++ c) := by
  have hlen : 57 + (a + b.length) % R + c.length ≤ m'.length := by rw [h.1]; omega
  refine ⟨(splat_length _ _ _ hlen).trans h.1, fun i x hx => ?_, fun p hp => ?_⟩
  · rw [byteAt_splat _ _ _ _ hlen]
    have hil : i < b.length + c.length := by
      have := (List.getElem?_eq_some_iff.1 hx).1
      simpa using this
    by_cases hi : i < b.length
    · rw [List.getElem?_append_left hi] at hx
      have hne : ¬ (57 + (a + b.length) % R ≤ 57 + (a + i) % R ∧ 57 + (a + i) % R < 57 + (a + b.length) % R + c.length) := by
        rintro ⟨q1, q2⟩
        obtain ⟨j, hj⟩ : ∃ j, (a + i) % R = (a + b.length) % R + j := ⟨(a + i) % R - (a + b.length) % R, by omega⟩
        have hjc : j < c.length := by omega
        have e : (a + (b.length + j)) % R = (a + i) % R := by
          rw [← Nat.add_assoc, ← Nat.mod_add_mod, hj, Nat.mod_eq_of_lt (by omega)]
        have := mod_inj (by omega) (by omega) e
        omega
      rw [if_neg hne]
      exact h.2.1 i x hx
    · obtain ⟨j, rfl⟩ : ∃ j, i = b.length + j := ⟨i - b.length, by omega⟩
      rw [List.getElem?_append_right (by omega), Nat.add_sub_cancel_left] at hx
      have hjc : j < c.length := by omega
      have e : (a + (b.length + j)) % R = (a + b.length) % R + j := by
        rw [← Nat.add_assoc, ← Nat.mod_add_mod, Nat.mod_eq_of_lt (by omega)]
      rw [e, if_pos ⟨by omega, by omega⟩, show 57 + ((a + b.length) % R + j) - (57 + (a + b.length) % R) = j by omega, List.getD_eq_getElem?_getD, hx]
      rfl
  · rw [byteAt_splat _ _ _ _ hlen, if_neg, h.2.2 p fun i hi => hp i (by simp; omega)]
    rintro ⟨q1, q2⟩
    obtain ⟨j, hj⟩ : ∃ j, p = 57 + (a + b.length) % R + j := ⟨p - (57 + (a + b.length) % R), by omega⟩
    have hjc : j < c.length := by omega
    refine hp (b.length + j) (by simp; omega) ?_
    rw [hj, ← Nat.add_assoc a, ← Nat.mod_add_mod (a + b.length), Nat.mod_eq_of_lt (show (a + b.length) % R + j < R by omega)]
    omega
theorem Wrote.at_mod {m m' : List UInt8} {R a : Nat} {b : List UInt8} (h : Wrote m m' R (a % R) b) : Wrote m m' R a b := by
  refine ⟨h.1, fun i x hx => ?_, fun p hp => h.2.2 p fun i hi => ?_⟩
  · have := h.2.1 i x hx
    rw [Nat.mod_add_mod] at this
    exact this
  · rw [Nat.mod_add_mod]; exact hp i hi
/-- what is read where it was written, and elsewhere -/
theorem Wrote.read {m m' : List UInt8} {R a : Nat} {b : List UInt8} (h : Wrote m m' R a b) : cyc m' R a b.length = b := by
  apply List.ext_getElem?
  intro i
  by_cases hi : i < b.length
  · rw [cyc_get _ _ _ _ _ hi, List.getElem?_eq_getElem hi, h.2.1 i _ (List.getElem?_eq_getElem hi)]
  · rw [List.getElem?_eq_none (by rw [cyc_length]; omega), List.getElem?_eq_none (by omega)]
theorem Wrote.behind {m m' : List UInt8} {R a u : Nat} {b : List UInt8} (h : Wrote m m' R (a + u) b) (hb : u + b.length ≤ R) : cyc m' R a u = cyc m R a u := by
  apply cyc_congr
  intro i hi
  refine h.2.2 _ fun j hj e => ?_
  have : (a + i) % R = (a + (u + j)) % R := by rw [← Nat.add_assoc]; omega
  have := mod_inj (by omega) (by omega) this
  omega
theorem Wrote.front {m m' : List UInt8} {R a : Nat} {b : List UInt8} (h : Wrote m m' R a b) (p : Nat) (hp : p < 57) : byteAt m' p = byteAt m p :=
  h.2.2 p fun i _ => by omega

theorem front_eq {m m' : List UInt8} (hl : m'.length = m.length) (h : ∀ p, p < 57 → byteAt m' p = byteAt m p) (off n : Nat) (hf : off + n ≤ 57) (hm : 57 ≤ m.length) : (m'.drop off).take n = (m.drop off).take n := by
  apply List.ext_getElem?
  intro i
  by_cases hi : i < n
  · rw [List.getElem?_take, if_pos hi, List.getElem?_take, if_pos hi, List.getElem?_drop, List.getElem?_drop]
    have := h (off + i) (by omega)
    unfold byteAt at this
    rw [List.getD_eq_getElem?_getD, List.getD_eq_getElem?_getD, List.getElem?_eq_getElem (by omega), List.getElem?_eq_getElem (by omega)] at this
    rw [List.getElem?_eq_getElem (by omega), List.getElem?_eq_getElem (by omega)]
    exact congrArg some this
  · rw [List.getElem?_eq_none (by simp; omega), List.getElem?_eq_none (by simp; omega)]

theorem drop_splat0 (l : List UInt8) (x : UInt8) (k : Nat) : (splat l 0 [x]).drop (k + 1) = l.drop (k + 1) := by
  show List.drop (k + 1) (x :: l.drop (0 + [x].length)) = _
  rw [List.drop_succ_cons, List.drop_drop]
  congr 1
  simp
  omega

/-- THE TWO WRITES THAT SETTLE BOUNDS -/
def settled (m : List UInt8) (t : Nat) (b : Bd) : List UInt8 := splat (splat m (1 + 28 * (t % 2)) (slotL b)) 0 [UInt8.ofNat (t % 2 + 1)]
theorem settled_length (m : List UInt8) (t : Nat) (b : Bd) (hm : 256 ≤ m.length) (hs : (slotL b).length ≤ 28) : (settled m t b).length = m.length := by
  have h2 := Nat.mod_lt t (show 0 < 2 by omega)
  unfold settled
  have h1 : (splat m (1 + 28 * (t % 2)) (slotL b)).length = m.length := splat_length _ _ _ (by omega)
  rw [splat_length _ _ _ (by rw [h1]; simp; omega), h1]
theorem settled_holds {m : List UInt8} {t : Nat} {b : Bd} {rs : List (List UInt8)} (hm : 256 ≤ m.length) (hm2 : m.length ≤ 67108864) (hs : (slotL b).length ≤ 28) (hc : b.next = b.first + rs.length) (hn : b.next ≤ 1099511627776) (ha : b.at_ < m.length - 57)
    (hu : b.used ≤ m.length - 57) (hr : cyc m (m.length - 57) b.at_ b.used = enc rs) : Holds (settled m t b) b rs := by
  have hl := settled_length m t b hm hs
  have h2 := Nat.mod_lt t (show 0 < 2 by omega)
  have h1 : (splat m (1 + 28 * (t % 2)) (slotL b)).length = m.length := splat_length _ _ _ (by omega)
  have h0 : 0 + [UInt8.ofNat (t % 2 + 1)].length ≤ (splat m (1 + 28 * (t % 2)) (slotL b)).length := by rw [h1]; simp; omega
  have hby : ∀ p, 57 ≤ p → byteAt (settled m t b) p = byteAt m p := fun p hp => by
    unfold settled
    rw [byteAt_splat _ _ _ _ h0, if_neg (by simp; omega), byteAt_splat _ _ _ _ (by omega), if_neg (by omega)]
  refine ⟨by omega, by omega, hc, hn, by omega, by omega, ?_, t % 2 + 1, by omega, ?_, ?_⟩
  · rw [hl, ← hr]
    exact cyc_congr fun i _ => hby _ (by omega)
  · unfold settled
    rw [byteAt_splat _ _ _ _ h0, if_pos (by simp)]
    rfl
  · refine ⟨(m.drop (1 + 28 * (t % 2) + (slotL b).length)).take (28 - (slotL b).length), ?_⟩
    rw [Nat.add_sub_cancel]
    unfold settled
    rw [show 1 + 28 * (t % 2) = 28 * (t % 2) + 1 by omega, drop_splat0]
    rw [show 28 * (t % 2) + 1 = 1 + 28 * (t % 2) by omega]
    exact splat_here _ _ _ _ (by omega) hs
end Go.Proofs.YtkjogkmdldplgaaDoor
