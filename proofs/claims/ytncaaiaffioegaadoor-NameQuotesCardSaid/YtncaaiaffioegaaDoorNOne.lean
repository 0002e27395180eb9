/-
  The second saying's rune at the front of a text.
-/
import Derived.Test.YtncaaiaffioegaaDoorNRunes2
namespace Go.Proofs.YtncaaiaffioegaaDoor
open Go.RowKit

theorem ofInt_i64 (a : Nat) (ha : a < 18446744073709551616) : (BitVec.ofInt 64 (a : Int)).toNat = a := by
  rw [BitVec.ofInt_natCast, BitVec.toNat_ofNat]; exact Nat.mod_eq_of_lt (by omega)
theorem i64_and_nat (a b : Nat) (ha : a < 9223372036854775808) (hb : b < 9223372036854775808) : bits .and .i64 (a : Int) (b : Int) = ((a &&& b : Nat) : Int) := by
  have hx : a &&& b < 2 ^ 63 := Nat.and_lt_two_pow _ (by omega)
  show IntKind.i64.wrap ((BitVec.ofInt 64 (a : Int) &&& BitVec.ofInt 64 (b : Int)).toNat : Int) = _
  rw [BitVec.toNat_and, ofInt_i64 a (by omega), ofInt_i64 b (by omega), IntKind.wrap_i64]
  omega
theorem i64_or_nat (a b : Nat) (ha : a < 9223372036854775808) (hb : b < 9223372036854775808) : bits .or .i64 (a : Int) (b : Int) = ((a ||| b : Nat) : Int) := by
  have hx : a ||| b < 2 ^ 63 := Nat.or_lt_two_pow (by omega) (by omega)
  show IntKind.i64.wrap ((BitVec.ofInt 64 (a : Int) ||| BitVec.ofInt 64 (b : Int)).toNat : Int) = _
  rw [BitVec.toNat_or, ofInt_i64 a (by omega), ofInt_i64 b (by omega), IntKind.wrap_i64]
  omega
theorem i64_low (a k : Nat) (ha : a < 9223372036854775808) (hk : k ≤ 8) : bits .and .i64 (a : Int) ((2 ^ k - 1 : Nat) : Int) = ((a % 2 ^ k : Nat) : Int) := by
  have h : (2 : Nat) ^ k ≤ 2 ^ 8 := Nat.pow_le_pow_right (by omega) hk
  rw [i64_and_nat a _ ha (by omega), Nat.and_two_pow_sub_one_eq_mod]
theorem nil_text (s : ByteArray) (h : s.size = 0) : s = ⟨#[]⟩ := ByteArray.ext (Array.eq_empty_of_size_eq_zero h)
theorem text_nonempty (s : ByteArray) (h : 0 < s.size) : s.toList.isEmpty = false := by
  rw [Lib.toList_data]
  cases hl : s.data.toList with
  | nil =>
    have : s.data.toList.length = s.size := rfl
    rw [hl] at this
    simp at this
    omega
  | cons x r => rfl
/-- a byte of the second kind, as the walk asks it -/
theorem and192 (x : Nat) (h : x < 256) : x &&& 192 = x / 64 * 64 := by
  have : ∀ y : Fin 256, y.val &&& 192 = y.val / 64 * 64 := by decide +kernel
  exact this ⟨x, h⟩
theorem or_low (v x : Nat) (h : x < 64) (hv : v < 36028797018963968) : bits .or .i64 ((v : Int) * 64) (x : Int) = ((v * 64 + x : Nat) : Int) := by
  have := i64_or_nat (v * 64) x (by omega) (by omega)
  have hj : v * 64 ||| x = v * 64 + x := by
    have := Nat.shiftLeft_add_eq_or_of_lt (show x < 2 ^ 6 by omega) v
    rw [Nat.shiftLeft_eq] at this
    exact this.symm
  rw [hj] at this
  exact this

/-- a rune's number as it is put together, byte by byte -/
def vrun (v0 : Nat) (l : List UInt8) : Nat → Nat
  | 0 => v0
  | i + 1 => vrun v0 l i * 64 + at0 l (i + 1) % 64
theorem vrun_lt (v0 : Nat) (l : List UInt8) (h : v0 < 32) : ∀ i, vrun v0 l i < 32 * 64 ^ i := by
  intro i
  induction i with
  | zero => simp [vrun]; exact h
  | succ i ih =>
    have hx := at0_lt l (i + 1)
    simp only [vrun, Nat.pow_succ]
    omega
/-- what a first byte of so many says of the rune -/
def OneClass (l : List UInt8) (n v0 least : Nat) : Prop :=
  (l.length < n → one l = (0, 0)) ∧ (∀ j, 1 ≤ j → j < n → cont l j = false → one l = (0, 0)) ∧
  ((∀ j, 1 ≤ j → j < n → cont l j = true) → (least ≤ vrun v0 l (n - 1) ∧ vrun v0 l (n - 1) ≤ 1114111 ∧ (vrun v0 l (n - 1) < 55296 ∨ 57344 ≤ vrun v0 l (n - 1)) → one l = (vrun v0 l (n - 1), n)) ∧
    (¬ (least ≤ vrun v0 l (n - 1) ∧ vrun v0 l (n - 1) ≤ 1114111 ∧ (vrun v0 l (n - 1) < 55296 ∨ 57344 ≤ vrun v0 l (n - 1))) → one l = (0, 0)))
theorem cont_short (l : List UInt8) (k : Nat) (h : ¬ k < l.length) : cont l k = false := by simp [cont, h]
theorem one_class2 (l : List UInt8) (h0 : 0 < l.length) (h1 : 192 ≤ at0 l 0) (h2 : at0 l 0 < 224) : OneClass l 2 (at0 l 0 % 32) 128 := by
  have e : one l = if cont l 1 = true then (if 128 ≤ v2 l then (v2 l, 2) else (0, 0)) else (0, 0) := by
    unfold one
    rw [if_neg (by omega), if_neg (by omega)]
    by_cases hc : cont l 1 = true
    · rw [if_pos ⟨by omega, hc⟩, if_pos hc]
    · rw [if_neg (fun h => hc h.2), if_neg (by omega), if_neg (by omega), if_neg hc]
  have hv : vrun (at0 l 0 % 32) l 1 = v2 l := rfl
  have hb := at0_lt l 1
  have hlt : v2 l < 2048 := by unfold v2; omega
  refine ⟨fun h => ?_, fun j hj1 hj2 hc => ?_, fun hall => ?_⟩
  · rw [e, cont_short l 1 (by omega)]; rfl
  · obtain rfl : j = 1 := by omega
    rw [e, hc]; rfl
  · rw [e, if_pos (hall 1 (by omega) (by omega)), show 2 - 1 = 1 from rfl, hv]
    refine ⟨fun h => by rw [if_pos h.1], fun h => by rw [if_neg (by omega)]⟩
theorem one_class3 (l : List UInt8) (h0 : 0 < l.length) (h1 : 224 ≤ at0 l 0) (h2 : at0 l 0 < 240) : OneClass l 3 (at0 l 0 % 16) 2048 := by
  have e : one l = if cont l 1 = true ∧ cont l 2 = true then (if 2048 ≤ v3 l ∧ (v3 l < 55296 ∨ 57344 ≤ v3 l) then (v3 l, 3) else (0, 0)) else (0, 0) := by
    unfold one
    rw [if_neg (by omega), if_neg (by omega), if_neg (by omega)]
    by_cases hc : cont l 1 = true ∧ cont l 2 = true
    · rw [if_pos ⟨by omega, hc⟩, if_pos hc]
    · rw [if_neg (fun h => hc h.2), if_neg (by omega), if_neg hc]
  have hv : vrun (at0 l 0 % 16) l 2 = v3 l := by show (at0 l 0 % 16 * 64 + at0 l 1 % 64) * 64 + at0 l 2 % 64 = _; unfold v3; omega
  have hb := at0_lt l 1
  have hb2 := at0_lt l 2
  have hlt : v3 l < 65536 := by unfold v3; omega
  refine ⟨fun h => ?_, fun j hj1 hj2 hc => ?_, fun hall => ?_⟩
  · rw [e, cont_short l 2 (by omega)]; simp
  · have : j = 1 ∨ j = 2 := by omega
    rcases this with rfl | rfl <;> rw [e, hc] <;> simp
  · rw [e, if_pos ⟨hall 1 (by omega) (by omega), hall 2 (by omega) (by omega)⟩, show 3 - 1 = 2 from rfl, hv]
    refine ⟨fun h => by rw [if_pos (by omega)], fun h => by rw [if_neg (by omega)]⟩
theorem one_class4 (l : List UInt8) (h0 : 0 < l.length) (h1 : 240 ≤ at0 l 0) (h2 : at0 l 0 < 248) : OneClass l 4 (at0 l 0 % 8) 65536 := by
  have e : one l = if cont l 1 = true ∧ cont l 2 = true ∧ cont l 3 = true then (if 65536 ≤ v4 l ∧ v4 l ≤ 1114111 then (v4 l, 4) else (0, 0)) else (0, 0) := by
    unfold one
    rw [if_neg (by omega), if_neg (by omega), if_neg (by omega), if_neg (by omega)]
    by_cases hc : cont l 1 = true ∧ cont l 2 = true ∧ cont l 3 = true
    · rw [if_pos ⟨by omega, hc⟩, if_pos hc]
    · rw [if_neg (fun h => hc h.2), if_neg hc]
  have hv : vrun (at0 l 0 % 8) l 3 = v4 l := by show ((at0 l 0 % 8 * 64 + at0 l 1 % 64) * 64 + at0 l 2 % 64) * 64 + at0 l 3 % 64 = _; unfold v4; omega
  have hb := at0_lt l 1
  refine ⟨fun h => ?_, fun j hj1 hj2 hc => ?_, fun hall => ?_⟩
  · rw [e, cont_short l 3 (by omega)]; simp
  · have : j = 1 ∨ j = 2 ∨ j = 3 := by omega
    rcases this with rfl | rfl | rfl <;> rw [e, hc] <;> simp
  · rw [e, if_pos ⟨hall 1 (by omega) (by omega), hall 2 (by omega) (by omega), hall 3 (by omega) (by omega)⟩, show 4 - 1 = 3 from rfl, hv]
    refine ⟨fun h => by rw [if_pos (by omega)], fun h => by rw [if_neg (by omega)]⟩
/-- a byte of the second kind: the test, and what it adds -/
theorem cont_test (l : List UInt8) (k : Nat) (h : k < l.length) : bits .and .u8 ((at0 l k : Nat) : Int) 192 = ((at0 l k / 64 * 64 : Nat) : Int) ∧ (cont l k = true ↔ at0 l k / 64 * 64 = 128) := by
  have hx := at0_lt l k
  have h1 := u8_and_nat (at0 l k) 192 (by omega) (by omega)
  rw [and192 _ (by omega)] at h1
  refine ⟨h1, ?_⟩
  simp [cont, h]
  omega

set_option maxRecDepth 20000 in
set_option maxHeartbeats 4000000 in
theorem one_any (s : ByteArray) (w : World) (hs : s.size ≤ 4294967296) :
    Calls Tryd.prog 19 #[.string s] w fun e w' => e = .returned (.tuple #[.int .i64 ((one s.data.toList).1 : Nat), .int .i64 ((one s.data.toList).2 : Nat)]) ∧ w = w' := by
  obtain ⟨l, hl⟩ : ∃ l, l = s.data.toList := ⟨_, rfl⟩
  have Hl := Lib.hid hl
  have Hsl : Hid (l.length = s.size) := by show _ = _; rw [hl]; rfl
  rw [← hl]
  clear hl
  have hs' : (s.size : Int) ≤ 4294967296 := by omega
  by_cases h0 : s.size = 0
  · have hn := nil_text s h0
    have Hout : Hid (one l = (0, 0)) := by show _ = _; unfold one; rw [if_pos (by rw [Hsl.out]; exact h0)]
    subst hn
    clear h0 hs hs'
    go_enter Tryd.func19, Tryd.ntmps19
    go_wp2_with fail
    go_ret2
    exact ⟨by rw [Hout.out]; rfl, rfl⟩
  · have hne := text_nonempty s (by omega)
    have hix : ∀ W, (Instr.index 9 (.string s) (.int .i64 0)).run Tryd.prog W = .ok (.int .u8 ((at0 l 0 : Nat) : Int)) W := fun W => by
      have := index_at s 0 (by omega) W
      rw [← Hl.out] at this
      exact this
    have hb := at0_lt l 0
    have Hone : Hid (one l = _) := (by unfold one; rw [if_neg (by rw [Hsl.out]; exact h0)] : one l = _)
    generalize hc : at0 l 0 = c at hix hb Hone
    have Hc := Lib.hid hc
    clear hc
    by_cases h1 : c < 128
    · have Hout : Hid (one l = (c, 1)) := by show _ = _; rw [Hone.out, if_pos h1]
      have hd : decide ((c : Int) < 128) = true := by simp; omega
      clear Hone h1
      go_enter Tryd.func19, Tryd.ntmps19
      go_wp2_with fail
      go_ret2
      exact ⟨by rw [Hout.out]; rfl, rfl⟩
    · have hd1 : decide ((c : Int) < 128) = false := by simp; omega
      by_cases h2 : c < 192 ∨ 248 ≤ c
      · have Hout : Hid (one l = (0, 0)) := by
          show _ = _
          rw [Hone.out, if_neg h1, if_neg (by omega), if_neg (by omega), if_neg (by omega)]
        have hd2 : (decide ((192 : Int) ≤ (c : Int)) = false ∧ decide ((224 : Int) ≤ (c : Int)) = false ∧ decide ((240 : Int) ≤ (c : Int)) = false) ∨ (decide ((192 : Int) ≤ (c : Int)) = true ∧ decide ((c : Int) < 224) = false ∧ decide ((224 : Int) ≤ (c : Int)) = true ∧ decide ((c : Int) < 240) = false ∧ decide ((240 : Int) ≤ (c : Int)) = true ∧ decide ((c : Int) < 248) = false) := by simp; omega
        clear Hone h1 h2
        rcases hd2 with ⟨e1, e2, e3⟩ | ⟨e1, e2, e3, e4, e5, e6⟩
        all_goals
          go_enter Tryd.func19, Tryd.ntmps19
          go_wp2_with fail
          go_ret2
          exact ⟨by rw [Hout.out]; rfl, rfl⟩
      · rcases (show c < 224 ∨ (224 ≤ c ∧ c < 240) ∨ 240 ≤ c by omega) with hcl | hcl | hcl
        · have Hcl := Lib.hid (one_class2 l (by rw [Hsl.out]; omega) (by rw [Hc.out]; omega) (by rw [Hc.out]; omega))
          have hv0 : bits .and .i64 (c : Int) 31 = ((c % 32 : Nat) : Int) := i64_low c 5 (by omega) (by omega)
          rw [Hc.out] at Hcl
          have hvl : c % 32 < 32 := by omega
          have Hvl := Lib.hid (vrun_lt (c % 32) l hvl)
          obtain ⟨v0, hv0e⟩ : ∃ v0, v0 = c % 32 := ⟨_, rfl⟩
          rw [← hv0e] at Hcl hv0 Hvl hvl
          have e1 : decide ((192 : Int) ≤ (c : Int)) = true := by simp; omega
          have e2 : decide ((c : Int) < 224) = true := by simp; omega
          have hcb : (c : Int) < 256 := by omega
          clear Hone h1 h2 hcl hv0e hb
          by_cases hlen : s.size < 2
          · have Hout := Lib.hid (Hcl.out.1 (by rw [Hsl.out]; exact hlen))
            have hlen' : (s.size : Int) < 2 := by omega
            clear Hcl hlen
            go_enter Tryd.func19, Tryd.ntmps19
            go_wp2_with fail
            go_ret2
            exact ⟨by rw [Hout.out]; rfl, rfl⟩
          · have hlen' : (2 : Int) ≤ (s.size : Int) := by omega
            go_enter Tryd.func19, Tryd.ntmps19
            go_wp2_with fail
            go_loop [6, 8] (fun d i => ∃ k : Nat, 1 ≤ k ∧ k ≤ 2 ∧ i = .int .i64 (k : Int) ∧ ∃ v : Nat, d = .int .i64 (v : Int) ∧ Hid (v = vrun v0 l (k - 1)) ∧ Hid (∀ j, 1 ≤ j → j < k → cont l j = true)) (fun _ i => (2 - intOf i).toNat)
            case atStart => exact ⟨1, by omega, by omega, rfl, v0, rfl, rfl, fun j h1 h2 => by omega⟩
            case round =>
              obtain ⟨k, hk1, hk2, rfl, v, rfl, hv, hall⟩ := hrel
              by_cases hkn : k < 2
              · have hkl : k < l.length := by rw [Hsl.out]; omega
                have hixk : ∀ W, (Instr.index 9 (.string s) (.int .i64 (k : Int))).run Tryd.prog W = .ok (.int .u8 ((at0 l k : Nat) : Int)) W := fun W => by
                  have := index_at s k (by omega) W
                  rw [← Hl.out] at this
                  exact this
                obtain ⟨ha, ht⟩ := cont_test l k hkl
                have Ht := Lib.hid ht
                have hxl := at0_lt l k
                have hks : (k : Int) < (s.size : Int) := by omega
                have hstep : v * 64 + at0 l k % 64 = vrun v0 l k := by
                  rw [hv.out]
                  obtain ⟨q, rfl⟩ : ∃ q, k = q + 1 := ⟨k - 1, by omega⟩
                  rfl
                have Hstep := Lib.hid hstep
                have hvb : v < 8388608 := by
                  have := Hvl.out (k - 1)
                  rw [← hv.out] at this
                  have h3 : (64 : Nat) ^ (k - 1) ≤ 64 ^ 3 := Nat.pow_le_pow_right (by omega) (by omega)
                  omega
                generalize hx : at0 l k = x at hixk ha Ht hxl Hstep
                have ho := or_low v (x % 64) (by omega) (by omega)
                have hand := i64_low x 6 (by omega) (by omega)
                have hand8 : bits .and .u8 (x : Int) 63 = ((x % 64 : Nat) : Int) := by
                  have := u8_and_nat x 63 (by omega) (by omega)
                  rw [show x &&& 63 = x % 64 from Nat.and_two_pow_sub_one_eq_mod x 6] at this
                  exact this
                have hvb' : (v : Int) < 8388608 := by omega
                have hxx : (x : Int) < 256 := by omega
                by_cases hco : cont l k = true
                · have he := Ht.out.1 hco
                  rw [he] at ha
                  have Hall2 : Hid (∀ j, 1 ≤ j → j < k + 1 → cont l j = true) := by
                    intro j h1 h2
                    by_cases e : j = k
                    · rw [e]; exact hco
                    · exact hall.out j h1 (by omega)
                  have hor : bits .or .i64 ((v : Int) * 64) ((x : Int) % 64) = ((v * 64 + x % 64 : Nat) : Int) := by
                    have := or_low v (x % 64) (by omega) (by omega)
                    have e : ((x % 64 : Nat) : Int) = (x : Int) % 64 := by omega
                    rw [e] at this
                    exact this
                  have Hstep2 := Lib.hid (show v * 64 + x % 64 = vrun v0 l (k + 1 - 1) from Hstep.out)
                  have HK := Lib.hid (And.intro hk1 hkn)
                  have hdk : decide ((k : Int) < 2) = true := by simp; omega
                  clear hco he hstep hv hx hxl hvb hk2 ht ho hand hand8 hk1 hkn hkl hlen
                  generalize v * 64 + x % 64 = v' at hor Hstep2
                  go_wp2_with fail
                  go_round
                  case rel => exact ⟨k + 1, by omega, by have := HK.out; omega, by go_num, v', rfl, Hstep2.out, Hall2.out⟩
                  case measure => have := HK.out; simp [intOf]; omega
                · have hcf : cont l k = false := by simpa using hco
                  have Hout := Lib.hid (Hcl.out.2.1 k hk1 hkn hcf)
                  have hne2 : x / 64 * 64 ≠ 128 := fun h => hco (Ht.out.2 h)
                  have hbn : (((x / 64 * 64 : Nat) : Int) != 128) = true := by simp; omega
                  generalize x / 64 * 64 = y at ha hbn
                  have hdk : decide ((k : Int) < 2) = true := by simp; omega
                  clear hco hcf hne2 hstep hv hx hxl hvb hk2 ht ho hand hand8 Ht Hstep hk1 hkn hkl hlen
                  go_wp2_with fail
                  go_ret2
                  exact ⟨by rw [Hout.out]; rfl, rfl⟩
              · obtain rfl : k = 2 := by omega
                have Hfin := Lib.hid (Hcl.out.2.2 (fun j h1 h2 => hall.out j h1 h2))
                rw [← hv.out] at Hfin
                by_cases hok : 128 ≤ v ∧ v ≤ 1114111 ∧ (v < 55296 ∨ 57344 ≤ v)
                · have Hout := Lib.hid (Hfin.out.1 hok)
                  have e1 : decide ((v : Int) < 128) = false := by simp; omega
                  have e2 : decide ((1114111 : Int) < (v : Int)) = false := by simp; omega
                  have e3 : decide ((55296 : Int) ≤ (v : Int)) = false ∨ (decide ((55296 : Int) ≤ (v : Int)) = true ∧ decide ((v : Int) < 57344) = false) := by simp; omega
                  clear hok hv
                  rcases e3 with e3 | ⟨e3, e4⟩
                  all_goals
                    go_wp2_with fail
                    go_ret2
                    exact ⟨by rw [Hout.out]; rfl, rfl⟩
                · have Hout := Lib.hid (Hfin.out.2 hok)
                  have e1 : decide ((v : Int) < 128) = true ∨ (decide ((v : Int) < 128) = false ∧ (decide ((1114111 : Int) < (v : Int)) = true ∨ (decide ((1114111 : Int) < (v : Int)) = false ∧ decide ((55296 : Int) ≤ (v : Int)) = true ∧ decide ((v : Int) < 57344) = true))) := by simp; omega
                  clear hok hv
                  rcases e1 with e1 | ⟨e1, e2 | ⟨e2, e3, e4⟩⟩
                  all_goals
                    go_wp2_with fail
                    go_ret2
                    exact ⟨by rw [Hout.out]; rfl, rfl⟩
        · have Hcl := Lib.hid (one_class3 l (by rw [Hsl.out]; omega) (by rw [Hc.out]; omega) (by rw [Hc.out]; omega))
          have hv0 : bits .and .i64 (c : Int) 15 = ((c % 16 : Nat) : Int) := i64_low c 4 (by omega) (by omega)
          rw [Hc.out] at Hcl
          have hvl : c % 16 < 32 := by omega
          have Hvl := Lib.hid (vrun_lt (c % 16) l hvl)
          obtain ⟨v0, hv0e⟩ : ∃ v0, v0 = c % 16 := ⟨_, rfl⟩
          rw [← hv0e] at Hcl hv0 Hvl hvl
          have e1 : decide ((192 : Int) ≤ (c : Int)) = true := by simp; omega
          have e2 : decide ((c : Int) < 224) = false := by simp; omega
          have e3 : decide ((224 : Int) ≤ (c : Int)) = true := by simp; omega
          have e4 : decide ((c : Int) < 240) = true := by simp; omega
          have hcb : (c : Int) < 256 := by omega
          clear Hone h1 h2 hcl hv0e hb
          by_cases hlen : s.size < 3
          · have Hout := Lib.hid (Hcl.out.1 (by rw [Hsl.out]; exact hlen))
            have hlen' : (s.size : Int) < 3 := by omega
            clear Hcl hlen
            go_enter Tryd.func19, Tryd.ntmps19
            go_wp2_with fail
            go_ret2
            exact ⟨by rw [Hout.out]; rfl, rfl⟩
          · have hlen' : (3 : Int) ≤ (s.size : Int) := by omega
            go_enter Tryd.func19, Tryd.ntmps19
            go_wp2_with fail
            go_loop [6, 8] (fun d i => ∃ k : Nat, 1 ≤ k ∧ k ≤ 3 ∧ i = .int .i64 (k : Int) ∧ ∃ v : Nat, d = .int .i64 (v : Int) ∧ Hid (v = vrun v0 l (k - 1)) ∧ Hid (∀ j, 1 ≤ j → j < k → cont l j = true)) (fun _ i => (3 - intOf i).toNat)
            case atStart => exact ⟨1, by omega, by omega, rfl, v0, rfl, rfl, fun j h1 h2 => by omega⟩
            case round =>
              obtain ⟨k, hk1, hk2, rfl, v, rfl, hv, hall⟩ := hrel
              by_cases hkn : k < 3
              · have hkl : k < l.length := by rw [Hsl.out]; omega
                have hixk : ∀ W, (Instr.index 9 (.string s) (.int .i64 (k : Int))).run Tryd.prog W = .ok (.int .u8 ((at0 l k : Nat) : Int)) W := fun W => by
                  have := index_at s k (by omega) W
                  rw [← Hl.out] at this
                  exact this
                obtain ⟨ha, ht⟩ := cont_test l k hkl
                have Ht := Lib.hid ht
                have hxl := at0_lt l k
                have hks : (k : Int) < (s.size : Int) := by omega
                have hstep : v * 64 + at0 l k % 64 = vrun v0 l k := by
                  rw [hv.out]
                  obtain ⟨q, rfl⟩ : ∃ q, k = q + 1 := ⟨k - 1, by omega⟩
                  rfl
                have Hstep := Lib.hid hstep
                have hvb : v < 8388608 := by
                  have := Hvl.out (k - 1)
                  rw [← hv.out] at this
                  have h3 : (64 : Nat) ^ (k - 1) ≤ 64 ^ 3 := Nat.pow_le_pow_right (by omega) (by omega)
                  omega
                generalize hx : at0 l k = x at hixk ha Ht hxl Hstep
                have ho := or_low v (x % 64) (by omega) (by omega)
                have hand := i64_low x 6 (by omega) (by omega)
                have hand8 : bits .and .u8 (x : Int) 63 = ((x % 64 : Nat) : Int) := by
                  have := u8_and_nat x 63 (by omega) (by omega)
                  rw [show x &&& 63 = x % 64 from Nat.and_two_pow_sub_one_eq_mod x 6] at this
                  exact this
                have hvb' : (v : Int) < 8388608 := by omega
                have hxx : (x : Int) < 256 := by omega
                by_cases hco : cont l k = true
                · have he := Ht.out.1 hco
                  rw [he] at ha
                  have Hall2 : Hid (∀ j, 1 ≤ j → j < k + 1 → cont l j = true) := by
                    intro j h1 h2
                    by_cases e : j = k
                    · rw [e]; exact hco
                    · exact hall.out j h1 (by omega)
                  have hor : bits .or .i64 ((v : Int) * 64) ((x : Int) % 64) = ((v * 64 + x % 64 : Nat) : Int) := by
                    have := or_low v (x % 64) (by omega) (by omega)
                    have e : ((x % 64 : Nat) : Int) = (x : Int) % 64 := by omega
                    rw [e] at this
                    exact this
                  have Hstep2 := Lib.hid (show v * 64 + x % 64 = vrun v0 l (k + 1 - 1) from Hstep.out)
                  have HK := Lib.hid (And.intro hk1 hkn)
                  have hdk : decide ((k : Int) < 3) = true := by simp; omega
                  clear hco he hstep hv hx hxl hvb hk2 ht ho hand hand8 hk1 hkn hkl hlen
                  generalize v * 64 + x % 64 = v' at hor Hstep2
                  go_wp2_with fail
                  go_round
                  case rel => exact ⟨k + 1, by omega, by have := HK.out; omega, by go_num, v', rfl, Hstep2.out, Hall2.out⟩
                  case measure => have := HK.out; simp [intOf]; omega
                · have hcf : cont l k = false := by simpa using hco
                  have Hout := Lib.hid (Hcl.out.2.1 k hk1 hkn hcf)
                  have hne2 : x / 64 * 64 ≠ 128 := fun h => hco (Ht.out.2 h)
                  have hbn : (((x / 64 * 64 : Nat) : Int) != 128) = true := by simp; omega
                  generalize x / 64 * 64 = y at ha hbn
                  have hdk : decide ((k : Int) < 3) = true := by simp; omega
                  clear hco hcf hne2 hstep hv hx hxl hvb hk2 ht ho hand hand8 Ht Hstep hk1 hkn hkl hlen
                  go_wp2_with fail
                  go_ret2
                  exact ⟨by rw [Hout.out]; rfl, rfl⟩
              · obtain rfl : k = 3 := by omega
                have Hfin := Lib.hid (Hcl.out.2.2 (fun j h1 h2 => hall.out j h1 h2))
                rw [← hv.out] at Hfin
                by_cases hok : 2048 ≤ v ∧ v ≤ 1114111 ∧ (v < 55296 ∨ 57344 ≤ v)
                · have Hout := Lib.hid (Hfin.out.1 hok)
                  have e1 : decide ((v : Int) < 2048) = false := by simp; omega
                  have e2 : decide ((1114111 : Int) < (v : Int)) = false := by simp; omega
                  have e3 : decide ((55296 : Int) ≤ (v : Int)) = false ∨ (decide ((55296 : Int) ≤ (v : Int)) = true ∧ decide ((v : Int) < 57344) = false) := by simp; omega
                  clear hok hv
                  rcases e3 with e3 | ⟨e3, e4⟩
                  all_goals
                    go_wp2_with fail
                    go_ret2
                    exact ⟨by rw [Hout.out]; rfl, rfl⟩
                · have Hout := Lib.hid (Hfin.out.2 hok)
                  have e1 : decide ((v : Int) < 2048) = true ∨ (decide ((v : Int) < 2048) = false ∧ (decide ((1114111 : Int) < (v : Int)) = true ∨ (decide ((1114111 : Int) < (v : Int)) = false ∧ decide ((55296 : Int) ≤ (v : Int)) = true ∧ decide ((v : Int) < 57344) = true))) := by simp; omega
                  clear hok hv
                  rcases e1 with e1 | ⟨e1, e2 | ⟨e2, e3, e4⟩⟩
                  all_goals
                    go_wp2_with fail
                    go_ret2
                    exact ⟨by rw [Hout.out]; rfl, rfl⟩
        · have Hcl := Lib.hid (one_class4 l (by rw [Hsl.out]; omega) (by rw [Hc.out]; omega) (by rw [Hc.out]; omega))
          have hv0 : bits .and .i64 (c : Int) 7 = ((c % 8 : Nat) : Int) := i64_low c 3 (by omega) (by omega)
          rw [Hc.out] at Hcl
          have hvl : c % 8 < 32 := by omega
          have Hvl := Lib.hid (vrun_lt (c % 8) l hvl)
          obtain ⟨v0, hv0e⟩ : ∃ v0, v0 = c % 8 := ⟨_, rfl⟩
          rw [← hv0e] at Hcl hv0 Hvl hvl
          have e1 : decide ((192 : Int) ≤ (c : Int)) = true := by simp; omega
          have e2 : decide ((c : Int) < 224) = false := by simp; omega
          have e3 : decide ((224 : Int) ≤ (c : Int)) = true := by simp; omega
          have e4 : decide ((c : Int) < 240) = false := by simp; omega
          have e5 : decide ((240 : Int) ≤ (c : Int)) = true := by simp; omega
          have e6 : decide ((c : Int) < 248) = true := by simp; omega
          have hcb : (c : Int) < 256 := by omega
          clear Hone h1 h2 hcl hv0e hb
          by_cases hlen : s.size < 4
          · have Hout := Lib.hid (Hcl.out.1 (by rw [Hsl.out]; exact hlen))
            have hlen' : (s.size : Int) < 4 := by omega
            clear Hcl hlen
            go_enter Tryd.func19, Tryd.ntmps19
            go_wp2_with fail
            go_ret2
            exact ⟨by rw [Hout.out]; rfl, rfl⟩
          · have hlen' : (4 : Int) ≤ (s.size : Int) := by omega
            go_enter Tryd.func19, Tryd.ntmps19
            go_wp2_with fail
            go_loop [6, 8] (fun d i => ∃ k : Nat, 1 ≤ k ∧ k ≤ 4 ∧ i = .int .i64 (k : Int) ∧ ∃ v : Nat, d = .int .i64 (v : Int) ∧ Hid (v = vrun v0 l (k - 1)) ∧ Hid (∀ j, 1 ≤ j → j < k → cont l j = true)) (fun _ i => (4 - intOf i).toNat)
            case atStart => exact ⟨1, by omega, by omega, rfl, v0, rfl, rfl, fun j h1 h2 => by omega⟩
            case round =>
              obtain ⟨k, hk1, hk2, rfl, v, rfl, hv, hall⟩ := hrel
              by_cases hkn : k < 4
              · have hkl : k < l.length := by rw [Hsl.out]; omega
                have hixk : ∀ W, (Instr.index 9 (.string s) (.int .i64 (k : Int))).run Tryd.prog W = .ok (.int .u8 ((at0 l k : Nat) : Int)) W := fun W => by
                  have := index_at s k (by omega) W
                  rw [← Hl.out] at this
                  exact this
                obtain ⟨ha, ht⟩ := cont_test l k hkl
                have Ht := Lib.hid ht
                have hxl := at0_lt l k
                have hks : (k : Int) < (s.size : Int) := by omega
                have hstep : v * 64 + at0 l k % 64 = vrun v0 l k := by
                  rw [hv.out]
                  obtain ⟨q, rfl⟩ : ∃ q, k = q + 1 := ⟨k - 1, by omega⟩
                  rfl
                have Hstep := Lib.hid hstep
                have hvb : v < 8388608 := by
                  have := Hvl.out (k - 1)
                  rw [← hv.out] at this
                  have h3 : (64 : Nat) ^ (k - 1) ≤ 64 ^ 3 := Nat.pow_le_pow_right (by omega) (by omega)
                  omega
                generalize hx : at0 l k = x at hixk ha Ht hxl Hstep
                have ho := or_low v (x % 64) (by omega) (by omega)
                have hand := i64_low x 6 (by omega) (by omega)
                have hand8 : bits .and .u8 (x : Int) 63 = ((x % 64 : Nat) : Int) := by
                  have := u8_and_nat x 63 (by omega) (by omega)
                  rw [show x &&& 63 = x % 64 from Nat.and_two_pow_sub_one_eq_mod x 6] at this
                  exact this
                have hvb' : (v : Int) < 8388608 := by omega
                have hxx : (x : Int) < 256 := by omega
                by_cases hco : cont l k = true
                · have he := Ht.out.1 hco
                  rw [he] at ha
                  have Hall2 : Hid (∀ j, 1 ≤ j → j < k + 1 → cont l j = true) := by
                    intro j h1 h2
                    by_cases e : j = k
                    · rw [e]; exact hco
                    · exact hall.out j h1 (by omega)
                  have hor : bits .or .i64 ((v : Int) * 64) ((x : Int) % 64) = ((v * 64 + x % 64 : Nat) : Int) := by
                    have := or_low v (x % 64) (by omega) (by omega)
                    have e : ((x % 64 : Nat) : Int) = (x : Int) % 64 := by omega
                    rw [e] at this
                    exact this
                  have Hstep2 := Lib.hid (show v * 64 + x % 64 = vrun v0 l (k + 1 - 1) from Hstep.out)
                  have HK := Lib.hid (And.intro hk1 hkn)
                  have hdk : decide ((k : Int) < 4) = true := by simp; omega
                  clear hco he hstep hv hx hxl hvb hk2 ht ho hand hand8 hk1 hkn hkl hlen
                  generalize v * 64 + x % 64 = v' at hor Hstep2
                  go_wp2_with fail
                  go_round
                  case rel => exact ⟨k + 1, by omega, by have := HK.out; omega, by go_num, v', rfl, Hstep2.out, Hall2.out⟩
                  case measure => have := HK.out; simp [intOf]; omega
                · have hcf : cont l k = false := by simpa using hco
                  have Hout := Lib.hid (Hcl.out.2.1 k hk1 hkn hcf)
                  have hne2 : x / 64 * 64 ≠ 128 := fun h => hco (Ht.out.2 h)
                  have hbn : (((x / 64 * 64 : Nat) : Int) != 128) = true := by simp; omega
                  generalize x / 64 * 64 = y at ha hbn
                  have hdk : decide ((k : Int) < 4) = true := by simp; omega
                  clear hco hcf hne2 hstep hv hx hxl hvb hk2 ht ho hand hand8 Ht Hstep hk1 hkn hkl hlen
                  go_wp2_with fail
                  go_ret2
                  exact ⟨by rw [Hout.out]; rfl, rfl⟩
              · obtain rfl : k = 4 := by omega
                have Hfin := Lib.hid (Hcl.out.2.2 (fun j h1 h2 => hall.out j h1 h2))
                rw [← hv.out] at Hfin
                by_cases hok : 65536 ≤ v ∧ v ≤ 1114111 ∧ (v < 55296 ∨ 57344 ≤ v)
                · have Hout := Lib.hid (Hfin.out.1 hok)
                  have e1 : decide ((v : Int) < 65536) = false := by simp; omega
                  have e2 : decide ((1114111 : Int) < (v : Int)) = false := by simp; omega
                  have e3 : decide ((55296 : Int) ≤ (v : Int)) = false ∨ (decide ((55296 : Int) ≤ (v : Int)) = true ∧ decide ((v : Int) < 57344) = false) := by simp; omega
                  clear hok hv
                  rcases e3 with e3 | ⟨e3, e4⟩
                  all_goals
                    go_wp2_with fail
                    go_ret2
                    exact ⟨by rw [Hout.out]; rfl, rfl⟩
                · have Hout := Lib.hid (Hfin.out.2 hok)
                  have e1 : decide ((v : Int) < 65536) = true ∨ (decide ((v : Int) < 65536) = false ∧ (decide ((1114111 : Int) < (v : Int)) = true ∨ (decide ((1114111 : Int) < (v : Int)) = false ∧ decide ((55296 : Int) ≤ (v : Int)) = true ∧ decide ((v : Int) < 57344) = true))) := by simp; omega
                  clear hok hv
                  rcases e1 with e1 | ⟨e1, e2 | ⟨e2, e3, e4⟩⟩
                  all_goals
                    go_wp2_with fail
                    go_ret2
                    exact ⟨by rw [Hout.out]; rfl, rfl⟩
end Go.Proofs.YtncaaiaffioegaaDoor
