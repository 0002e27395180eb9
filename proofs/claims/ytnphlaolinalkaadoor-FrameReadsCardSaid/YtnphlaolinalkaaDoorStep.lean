/-
  The plain program's byte of a remainder, bit by bit.
-/
import Derived.Test.YtnphlaolinalkaaDoorBase
import Derived.Test.YtnphlaolinalkaaDoorCrc
namespace Go.Proofs.YtnphlaolinalkaaDoor
open Go.RowKit

set_option maxRecDepth 20000 in
set_option maxHeartbeats 400000 in
theorem step_any (c x : Nat) (w : World) (hc : c < 4294967296) (hx : x < 256) :
    Calls Tryd.prog 34 #[.int .u32 (c : Int), .int .u8 (x : Int)] w fun e w' => e = .returned (.int .u32 (crcByte c x : Nat)) ∧ w = w' := by
  have h1 : bits .xor .u32 (c : Int) (x : Int) = ((c ^^^ x : Nat) : Int) := u32_xor_nat c x hc (by omega)
  have hlt : c ^^^ x < 4294967296 := Nat.xor_lt_two_pow (n := 32) hc (by omega)
  have H1 := Lib.hid h1
  have Hlt := Lib.hid hlt
  clear h1 hlt
  go_enter Tryd.func34, Tryd.ntmps34
  go_wp2_with fail
  go_loop [0, 5] (fun d i => ∃ k : Nat, k ≤ 8 ∧ i = .int .i64 (k : Int) ∧ ∃ e : Nat, d = .int .u32 (e : Int) ∧ e < 4294967296 ∧ Hid (bitSteps 8 (c ^^^ x) = bitSteps (8 - k) e)) (fun _ i => (8 - intOf i).toNat)
  case atStart => exact ⟨0, by omega, rfl, c ^^^ x, by rw [H1.out], Hlt.out, rfl⟩
  case round =>
    obtain ⟨k, hk, rfl, e, rfl, he, heq⟩ := hrel
    have He := Lib.hid he
    clear he
    by_cases hk8 : k < 8
    · go_wp2_with fail
      all_goals
        have h7 : 8 - k = (8 - (k + 1)) + 1 := by omega
        have he := He.out
        have hq := heq.out
        have ha : bits .and .u32 (e : Int) 1 = ((e % 2 : Nat) : Int) := by
          have := u32_and_nat e 1 he (by omega)
          rw [Nat.and_one_is_mod] at this
          exact this
        rw [h7] at hq
      · have ho : (bits .and .u32 (e : Int) 1 == 1) = true := by assumption
        have ho : e % 2 = 1 := by rw [ha] at ho; have := eq_of_beq ho; omega
        have hx : bits .xor .u32 ((e : Int) / 2) 2197175160 = ((bitStep e : Nat) : Int) := by
          have := u32_xor_nat (e / 2) 2197175160 (by omega) (by omega)
          unfold bitStep
          rw [if_pos ho]
          exact this
        exact ⟨⟨k + 1, by omega, by go_num, bitStep e, by rw [hx], by rw [bitStep, if_pos ho]; exact Nat.xor_lt_two_pow (n := 32) (by omega) (by decide), hq⟩, by simp [intOf]; omega⟩
      · have ho : (bits .and .u32 (e : Int) 1 == 1) = false := by assumption
        have ho : ¬ e % 2 = 1 := by rw [ha] at ho; have := beq_eq_false_iff_ne.1 ho; omega
        exact ⟨⟨k + 1, by omega, by go_num, bitStep e, by rw [bitStep, if_neg ho]; go_num, by rw [bitStep, if_neg ho]; omega, hq⟩, by simp [intOf]; omega⟩
    · go_wp2_with fail
      go_ret
      obtain rfl : k = 8 := by omega
      have := heq.out
      refine ⟨?_, rfl⟩
      rw [crcByte_bits, this]
      rfl
end Go.Proofs.YtnphlaolinalkaaDoor
