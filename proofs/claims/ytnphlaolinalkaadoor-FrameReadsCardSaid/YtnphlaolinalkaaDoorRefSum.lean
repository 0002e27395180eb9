/-
  The plain program's sum of one part.
-/
import Derived.Test.YtnphlaolinalkaaDoorStep
namespace Go.Proofs.YtnphlaolinalkaaDoor
open Go.RowKit

theorem sum_end (c : Nat) (h : c < 4294967296) : bits .xor .u32 (c : Int) 4294967295 = ((4294967295 - c : Nat) : Int) := by
  have := u32_xor_nat c 4294967295 h (by omega)
  have e : c ^^^ 4294967295 = 4294967295 - c := by
    apply Nat.eq_of_testBit_eq
    intro i
    have h2 := Nat.testBit_two_pow_sub_succ (n := 32) (x := c) h i
    have h3 : (2 : Nat) ^ 32 - (c + 1) = 4294967295 - c := by omega
    rw [h3] at h2
    have h4 := Nat.testBit_two_pow_sub_one 32 i
    have h5 : (2 : Nat) ^ 32 - 1 = 4294967295 := by decide
    rw [h5] at h4
    rw [Nat.testBit_xor, h2, h4]
    by_cases hi : i < 32
    · simp [hi]
    · have := Nat.testBit_lt_two_pow (x := c) (i := i) (Nat.lt_of_lt_of_le h (Nat.pow_le_pow_right (n := 2) (by omega) (show 32 ≤ i by omega)))
      simp [hi, this]
  rw [e] at this
  exact this

theorem crc_take (l : List UInt8) (k c : Nat) (h : k < l.length) : crcFrom c (l.take (k + 1)) = crcByte (crcFrom c (l.take k)) l[k].toNat := by
  rw [List.take_succ_eq_append_getElem h, crcFrom_append]
  rfl

set_option maxRecDepth 20000 in
set_option maxHeartbeats 400000 in
theorem refSum_any (A : Option Addr) (c : Nat) (l : List UInt8) (w : World) (B : Nat) (hr : RB w B A l) (hl : l.length ≤ 1099511627776) :
    Calls Tryd.prog 13 #[.slice A l.length c] w fun e w' => e = .returned (.int .u32 (sumOf l : Nat)) ∧ w = w' := by
  have Hr := Lib.hid hr
  have Hl := Lib.hid hl
  clear hr hl
  go_enter Tryd.func13, Tryd.ntmps13
  go_wp2_with fail
  go_loop [3, 4] (fun d i => ∃ k : Nat, k ≤ l.length ∧ i = .int .i64 (k : Int) ∧ ∃ e : Nat, d = .int .u32 (e : Int) ∧ e < 4294967296 ∧ Hid (e = crcFrom 4294967295 (l.take k))) (fun _ i => (l.length - intOf i).toNat)
  case atStart => exact ⟨0, by omega, rfl, 4294967295, rfl, by omega, rfl⟩
  case round =>
    obtain ⟨k, hk, rfl, e, rfl, he, heq⟩ := hrel
    have hl2 : l.length ≤ 1099511627776 := Hl.out
    by_cases hk8 : k < l.length
    · obtain ⟨ad, rfl, hb, hc⟩ := Hr.out.at_ hk8
      go_wp2_with (go_at_call 34; refine (step_any e l[k].toNat _ he (by have := l[k].toNat_lt; omega)).mono ?_; rintro e w' ⟨rfl, rfl⟩)
      exact ⟨⟨k + 1, by omega, by go_num, _, rfl, lt32_byte _ _ he (by have := l[k].toNat_lt; omega), by have h := heq.out; show _ = _; rw [crc_take l k _ hk8, ← h]⟩, by simp [intOf]; omega⟩
    · go_wp2_with fail
      go_ret
      obtain rfl : k = l.length := by omega
      have := heq.out
      rw [List.take_length] at this
      refine ⟨?_, rfl⟩
      rw [sum_end e he]
      rw [this]
      rfl
end Go.Proofs.YtnphlaolinalkaaDoor
