/-
  Runes of a text, as plain lists: the rune at the front of some bytes, held against the model's own decoder.
-/
import Derived.Lib.RuneCount
import Derived.Lib.RuneBytes
set_option linter.unusedSimpArgs false
namespace Go.Proofs.YtncaaiaffioegaaDoor

/-- a byte of a text, as a number -/
def at0 (l : List UInt8) (k : Nat) : Nat := (l.getD k 0).toNat
/-- does a byte of the second kind stand there? -/
def cont (l : List UInt8) (k : Nat) : Bool := decide (k < l.length) && at0 l k / 64 == 2
def v2 (l : List UInt8) : Nat := at0 l 0 % 32 * 64 + at0 l 1 % 64
def v3 (l : List UInt8) : Nat := at0 l 0 % 16 * 4096 + at0 l 1 % 64 * 64 + at0 l 2 % 64
def v4 (l : List UInt8) : Nat := at0 l 0 % 8 * 262144 + at0 l 1 % 64 * 4096 + at0 l 2 % 64 * 64 + at0 l 3 % 64

/-- THE RUNE AT THE FRONT, and how many bytes it has; 0: there is none. -/
def one (l : List UInt8) : Nat × Nat :=
  if l.length = 0 then (0, 0)
  else if at0 l 0 < 128 then (at0 l 0, 1)
  else if at0 l 0 / 32 = 6 ∧ cont l 1 = true then (if 128 ≤ v2 l then (v2 l, 2) else (0, 0))
  else if at0 l 0 / 16 = 14 ∧ cont l 1 = true ∧ cont l 2 = true then (if 2048 ≤ v3 l ∧ (v3 l < 55296 ∨ 57344 ≤ v3 l) then (v3 l, 3) else (0, 0))
  else if at0 l 0 / 8 = 30 ∧ cont l 1 = true ∧ cont l 2 = true ∧ cont l 3 = true then (if 65536 ≤ v4 l ∧ v4 l ≤ 1114111 then (v4 l, 4) else (0, 0))
  else (0, 0)

/-- the same, a byte of no rune as FFFD -/
def dec (l : List UInt8) : Nat × Nat := if (one l).2 = 0 then (65533, 1) else one l

theorem at0_lt (l : List UInt8) (k : Nat) : at0 l k < 256 := (l.getD k 0).toNat_lt

theorem get_at0 (s : ByteArray) (i k : Nat) (h : i + k < s.size) : (s.get! (i + k)).toNat = at0 (s.data.toList.drop i) k := by
  have hs : i + k < s.data.toList.length := by simpa using h
  have e : s.get! (i + k) = s[i + k]'h := by
    show s.get! (i + k) = _
    simp [ByteArray.get!, getElem!_pos, h]
    rfl
  rw [e]
  unfold at0
  rw [List.getD_eq_getElem?_getD, List.getElem?_drop, List.getElem?_eq_getElem hs]
  rfl
theorem cont_eq (s : ByteArray) (i k : Nat) : (decide (i + k < s.size) && (s.get! (i + k)).toNat / 64 == 2) = cont (s.data.toList.drop i) k := by
  unfold cont
  by_cases h : i + k < s.size
  · rw [get_at0 s i k h]
    have : k < (s.data.toList.drop i).length := by simp; omega
    simp [h]
    intros
    omega
  · have : ¬ k < (s.data.toList.drop i).length := by simp; omega
    simp [h]
    intros
    omega
theorem cont_lt {l : List UInt8} {k : Nat} (h : cont l k = true) : k < l.length ∧ at0 l k / 64 = 2 := by
  unfold cont at h
  simpa using h

theorem valid_nat (n : Nat) : Utf8.valid (n : Int) = decide (n < 55296 ∨ (57344 ≤ n ∧ n ≤ 1114111)) := by
  unfold Utf8.valid
  rw [Bool.eq_iff_iff]
  simp
  omega

theorem decode_dec (s : ByteArray) (i : Nat) (h : i < s.size) : Utf8.decode s i = dec (s.data.toList.drop i) := by
  have h0 := get_at0 s i 0 (by omega)
  have hl : (s.data.toList.drop i).length ≠ 0 := by simp; omega
  have hb := at0_lt (s.data.toList.drop i) 0
  unfold Utf8.decode
  simp only [cont_eq, h0]
  unfold dec one
  rw [if_neg hl]
  by_cases a1 : at0 (s.data.toList.drop i) 0 < 128
  · rw [if_pos a1]
    simp [a1]
  · rw [if_neg a1]
    by_cases a2 : at0 (s.data.toList.drop i) 0 / 32 = 6 ∧ cont (s.data.toList.drop i) 1 = true
    · obtain ⟨x, y⟩ := a2
      have z := get_at0 s i 1 (by have := (cont_lt y).1; simp at this; omega)
      simp only [a1, x, y, z, if_false, if_true, and_self, beq_self_eq_true, Bool.and_self]
      unfold v2
      by_cases q : 128 ≤ at0 (s.data.toList.drop i) 0 % 32 * 64 + at0 (s.data.toList.drop i) 1 % 64
      · simp [q]
      · simp [q, Utf8.runeError]
    · by_cases a3 : at0 (s.data.toList.drop i) 0 / 16 = 14 ∧ cont (s.data.toList.drop i) 1 = true ∧ cont (s.data.toList.drop i) 2 = true
      · obtain ⟨x, y, y2⟩ := a3
        have z := get_at0 s i 1 (by have := (cont_lt y).1; simp at this; omega)
        have z2 := get_at0 s i 2 (by have := (cont_lt y2).1; simp at this; omega)
        have n6 : ¬ at0 (s.data.toList.drop i) 0 / 32 = 6 := by omega
        simp only [a1, n6, x, y, y2, z, z2, if_false, if_true, and_self, false_and, beq_self_eq_true, Bool.and_self, Bool.true_and, Bool.and_true, valid_nat, beq_iff_eq, Bool.and_eq_true, decide_eq_true_eq]
        have hv : at0 (s.data.toList.drop i) 0 % 16 * 4096 + at0 (s.data.toList.drop i) 1 % 64 * 64 + at0 (s.data.toList.drop i) 2 % 64 = v3 (s.data.toList.drop i) := rfl
        rw [hv]
        have hlt : v3 (s.data.toList.drop i) < 65536 := by unfold v3; omega
        by_cases q : 2048 ≤ v3 (s.data.toList.drop i) ∧ (v3 (s.data.toList.drop i) < 55296 ∨ 57344 ≤ v3 (s.data.toList.drop i))
        · rw [if_pos (by omega), if_pos q]
          simp
        · rw [if_neg (by omega), if_neg q]
          rfl
      · by_cases a4 : at0 (s.data.toList.drop i) 0 / 8 = 30 ∧ cont (s.data.toList.drop i) 1 = true ∧ cont (s.data.toList.drop i) 2 = true ∧ cont (s.data.toList.drop i) 3 = true
        · obtain ⟨x, y, y2, y3⟩ := a4
          have z := get_at0 s i 1 (by have := (cont_lt y).1; simp at this; omega)
          have z2 := get_at0 s i 2 (by have := (cont_lt y2).1; simp at this; omega)
          have z3 := get_at0 s i 3 (by have := (cont_lt y3).1; simp at this; omega)
          have n6 : ¬ at0 (s.data.toList.drop i) 0 / 32 = 6 := by omega
          have n14 : ¬ at0 (s.data.toList.drop i) 0 / 16 = 14 := by omega
          simp only [a1, n6, n14, x, y, y2, y3, z, z2, z3, if_false, if_true, and_self, false_and, beq_self_eq_true, Bool.and_self, Bool.true_and, Bool.and_true, valid_nat, beq_iff_eq, Bool.and_eq_true, decide_eq_true_eq]
          have hv : at0 (s.data.toList.drop i) 0 % 8 * 262144 + at0 (s.data.toList.drop i) 1 % 64 * 4096 + at0 (s.data.toList.drop i) 2 % 64 * 64 + at0 (s.data.toList.drop i) 3 % 64 = v4 (s.data.toList.drop i) := rfl
          rw [hv]
          by_cases q : 65536 ≤ v4 (s.data.toList.drop i) ∧ v4 (s.data.toList.drop i) ≤ 1114111
          · rw [if_pos (by omega), if_pos q]
            simp
          · rw [if_neg (by omega), if_neg q]
            rfl
        · simp only [if_neg a1, if_neg a2, if_neg a3, if_neg a4]
          simp only [beq_iff_eq, Bool.and_eq_true, and_assoc]
          rw [if_neg a2, if_neg a3, if_neg a4]
          rfl

/-- what a rune at the front tells -/
theorem one_facts (l : List UInt8) : (one l).2 ≤ l.length ∧ (one l).2 ≤ 4 ∧ (one l).1 ≤ 1114111 ∧
    ((one l).2 ≠ 0 → (one l).1 < 55296 ∨ 57344 ≤ (one l).1) ∧ ((one l).2 = 0 → (one l).1 = 0) ∧ ((one l).2 = 1 ↔ l ≠ [] ∧ at0 l 0 < 128) ∧ ((one l).2 = 1 → (one l).1 = at0 l 0) ∧ (2 ≤ (one l).2 → 128 ≤ (one l).1 ∧ ∀ k, k < (one l).2 → 128 ≤ at0 l k) := by
  unfold one
  have hb := at0_lt l 0
  have hb1 := at0_lt l 1
  have hb2 := at0_lt l 2
  have hb3 := at0_lt l 3
  by_cases a0 : l.length = 0
  · have : l = [] := List.eq_nil_of_length_eq_zero a0
    simp [this]
  · have hne : l ≠ [] := fun e => a0 (by rw [e]; rfl)
    rw [if_neg a0]
    by_cases a1 : at0 l 0 < 128
    · rw [if_pos a1]
      refine ⟨by show 1 ≤ _; omega, by simp, by show at0 l 0 ≤ _; omega, (fun _ => by show at0 l 0 < _ ∨ _; omega), (fun h => by cases h), ⟨fun _ => ⟨hne, a1⟩, fun _ => rfl⟩, fun _ => rfl, fun h => absurd h (by simp)⟩
    · rw [if_neg a1]
      by_cases a2 : at0 l 0 / 32 = 6 ∧ cont l 1 = true
      · rw [if_pos a2]
        obtain ⟨x, y⟩ := a2
        obtain ⟨y1, y2⟩ := cont_lt y
        split
        · rename_i q
          have hv : v2 l < 2048 := by unfold v2; omega
          refine ⟨by show 2 ≤ _; omega, by simp, by show v2 l ≤ _; omega, (fun _ => by show v2 l < _ ∨ _; omega), (fun h => by cases h), ⟨(fun h => by cases h), fun h => absurd h.2 a1⟩, (fun h => by cases h), fun _ => ⟨q, fun k hk => ?_⟩⟩
          have : k = 0 ∨ k = 1 := by have : k < 2 := hk; omega
          rcases this with rfl | rfl <;> omega
        · refine ⟨by simp, by simp, by simp, fun h => absurd rfl h, fun _ => rfl, ⟨(fun h => by cases h), fun h => absurd h.2 a1⟩, (fun h => by cases h), fun h => absurd h (by simp)⟩
      · rw [if_neg a2]
        by_cases a3 : at0 l 0 / 16 = 14 ∧ cont l 1 = true ∧ cont l 2 = true
        · rw [if_pos a3]
          obtain ⟨x, y, z⟩ := a3
          obtain ⟨y1, y2⟩ := cont_lt y
          obtain ⟨z1, z2⟩ := cont_lt z
          split
          · rename_i q
            have hv : v3 l < 65536 := by unfold v3; omega
            refine ⟨by show 3 ≤ _; omega, by simp, by show v3 l ≤ _; omega, (fun _ => by show v3 l < _ ∨ _; omega), (fun h => by cases h), ⟨(fun h => by cases h), fun h => absurd h.2 a1⟩, (fun h => by cases h), fun _ => ⟨by show 128 ≤ v3 l; omega, fun k hk => ?_⟩⟩
            have : k = 0 ∨ k = 1 ∨ k = 2 := by have : k < 3 := hk; omega
            rcases this with rfl | rfl | rfl <;> omega
          · refine ⟨by simp, by simp, by simp, fun h => absurd rfl h, fun _ => rfl, ⟨(fun h => by cases h), fun h => absurd h.2 a1⟩, (fun h => by cases h), fun h => absurd h (by simp)⟩
        · rw [if_neg a3]
          by_cases a4 : at0 l 0 / 8 = 30 ∧ cont l 1 = true ∧ cont l 2 = true ∧ cont l 3 = true
          · rw [if_pos a4]
            obtain ⟨x, y, z, u⟩ := a4
            obtain ⟨y1, y2⟩ := cont_lt y
            obtain ⟨z1, z2⟩ := cont_lt z
            obtain ⟨u1, u2⟩ := cont_lt u
            split
            · rename_i q
              refine ⟨by show 4 ≤ _; omega, by simp, by show v4 l ≤ _; omega, (fun _ => by show v4 l < _ ∨ _; omega), (fun h => by cases h), ⟨(fun h => by cases h), fun h => absurd h.2 a1⟩, (fun h => by cases h), fun _ => ⟨by show 128 ≤ v4 l; omega, fun k hk => ?_⟩⟩
              have : k = 0 ∨ k = 1 ∨ k = 2 ∨ k = 3 := by have : k < 4 := hk; omega
              rcases this with rfl | rfl | rfl | rfl <;> omega
            · refine ⟨by simp, by simp, by simp, fun h => absurd rfl h, fun _ => rfl, ⟨(fun h => by cases h), fun h => absurd h.2 a1⟩, (fun h => by cases h), fun h => absurd h (by simp)⟩
          · rw [if_neg a4]
            refine ⟨by simp, by simp, by simp, fun h => absurd rfl h, fun _ => rfl, ⟨(fun h => by cases h), fun h => absurd h.2 a1⟩, (fun h => by cases h), fun h => absurd h (by simp)⟩

theorem dec_pos (l : List UInt8) : 1 ≤ (dec l).2 := by
  unfold dec
  split
  · exact Nat.le_refl _
  · omega
theorem dec_le (l : List UInt8) (h : l ≠ []) : (dec l).2 ≤ l.length := by
  unfold dec
  have := (one_facts l).1
  have hl : 0 < l.length := List.length_pos_iff.2 h
  split
  · exact hl
  · exact this
theorem dec_lt (l : List UInt8) : (dec l).1 ≤ 1114111 := by
  unfold dec
  have := (one_facts l).2.2.1
  split
  · simp
  · exact this

/-- the bytes at the front are those of the rune -/
theorem take_at0 (l : List UInt8) : ∀ n, n ≤ l.length → l.take n = (List.range n).map fun k => (at0 l k).toUInt8 := by
  intro n hn
  apply List.ext_getElem?
  intro k
  rw [List.getElem?_take, List.getElem?_map]
  by_cases h : k < n
  · rw [if_pos h, List.getElem?_range h, List.getElem?_eq_getElem (by omega : k < l.length)]
    simp [at0, List.getD, List.getElem?_eq_getElem (by omega : k < l.length)]
  · rw [if_neg h, List.getElem?_eq_none (by simp; omega)]
    rfl
theorem encode_one (l : List UInt8) (h : (one l).2 ≠ 0) : Lib.encodeRune ((one l).1 : Int) = l.take (one l).2 := by
  have hf := (one_facts l).1
  rw [take_at0 l _ hf]
  revert h hf
  unfold one
  have hb := at0_lt l 0
  have hb1 := at0_lt l 1
  have hb2 := at0_lt l 2
  have hb3 := at0_lt l 3
  split
  · intro h; exact absurd rfl h
  · split
    · intro _ _
      rename_i a1
      simp [Lib.encodeRune, Lib.encodeRuneZ_one (r := (at0 l 0 : Int)) (by omega) (by omega), List.range_succ]
    · split
      · rename_i a1 a2
        split
        · rename_i q
          intro _ _
          obtain ⟨x, y⟩ := a2
          obtain ⟨y1, y2⟩ := cont_lt y
          have e0 : (192 + (v2 l : Int) / 64).toNat = at0 l 0 := by unfold v2; omega
          have e1 : (128 + (v2 l : Int) % 64).toNat = at0 l 1 := by unfold v2; omega
          have hv : v2 l < 2048 := by unfold v2; omega
          rw [Lib.encodeRune, Lib.encodeRuneZ_two (by omega) (by omega)]
          simp only [List.map_cons, List.map_nil, e0, e1]
          rfl
        · intro h; exact absurd rfl h
      · split
        · rename_i a1 _ a3
          split
          · rename_i q
            intro _ _
            obtain ⟨x, y, z⟩ := a3
            obtain ⟨y1, y2⟩ := cont_lt y
            obtain ⟨z1, z2⟩ := cont_lt z
            have e0 : (224 + (v3 l : Int) / 4096).toNat = at0 l 0 := by unfold v3; omega
            have e1 : (128 + (v3 l : Int) / 64 % 64).toNat = at0 l 1 := by unfold v3; omega
            have e2 : (128 + (v3 l : Int) % 64).toNat = at0 l 2 := by unfold v3; omega
            have hv : v3 l < 65536 := by unfold v3; omega
            rw [Lib.encodeRune, Lib.encodeRuneZ_three (by omega)]
            simp only [List.map_cons, List.map_nil, e0, e1, e2]
            rfl
          · intro h; exact absurd rfl h
        · split
          · rename_i a1 _ _ a4
            split
            · rename_i q
              intro _ _
              obtain ⟨x, y, z, u⟩ := a4
              obtain ⟨y1, y2⟩ := cont_lt y
              obtain ⟨z1, z2⟩ := cont_lt z
              obtain ⟨u1, u2⟩ := cont_lt u
              have e0 : (240 + (v4 l : Int) / 262144).toNat = at0 l 0 := by unfold v4; omega
              have e1 : (128 + (v4 l : Int) / 4096 % 64).toNat = at0 l 1 := by unfold v4; omega
              have e2 : (128 + (v4 l : Int) / 64 % 64).toNat = at0 l 2 := by unfold v4; omega
              have e3 : (128 + (v4 l : Int) % 64).toNat = at0 l 3 := by unfold v4; omega
              rw [Lib.encodeRune, Lib.encodeRuneZ_four (by omega) (by omega)]
              simp only [List.map_cons, List.map_nil, e0, e1, e2, e3]
              rfl
            · intro h; exact absurd rfl h
          · intro h; exact absurd rfl h
end Go.Proofs.YtncaaiaffioegaaDoor
