/-
  The second saying's digits of sixteen.
-/
import Derived.Test.YtncaaiaffioegaaDoorNParse
import Derived.Test.YtncaaiaffioegaaDoorNSeg
namespace Go.Proofs.YtncaaiaffioegaaDoor
open Go.RowKit

set_option maxRecDepth 20000 in
set_option maxHeartbeats 400000 in
theorem digit_any (n : Nat) (h : n < 16) (w : World) :
    Calls Tryd.prog 20 #[.int .u8 (n : Int)] w fun e w' => e = .returned (.int .u8 ((hexd n).toNat : Int)) ∧ w = w' := by
  by_cases h1 : n < 10
  · have e : Hid ((48 : Int) + n = ((hexd n).toNat : Int)) := by show _ = _; unfold hexd; rw [if_pos h1, UInt8.toNat_ofNat']; omega
    have h2 : (n : Int) < 10 := by omega
    clear h
    go_enter Tryd.func20, Tryd.ntmps20
    go_wp2_with fail
    go_ret
    exact ⟨by rw [← e.out]; rfl, rfl⟩
  · have e : Hid ((97 : Int) + n - 10 = ((hexd n).toNat : Int)) := by show _ = _; unfold hexd; rw [if_neg h1, UInt8.toNat_ofNat']; omega
    have h2 : decide ((n : Int) < 10) = false := by simp; omega
    have h3 : (n : Int) < 16 := by omega
    clear h h1
    go_enter Tryd.func20, Tryd.ntmps20
    go_wp2_with fail
    go_ret
    exact ⟨by rw [← e.out]; rfl, rfl⟩
/-- a digit's worth, as the second saying takes it: small letters alone -/
def lval (c : Nat) : Int := if 48 ≤ c ∧ c ≤ 57 then ((c - 48 : Nat) : Int) else if 97 ≤ c ∧ c ≤ 102 then ((c - 87 : Nat) : Int) else -1

set_option maxRecDepth 20000 in
set_option maxHeartbeats 400000 in
theorem value_any (c : Nat) (hc : c < 256) (w : World) :
    Calls Tryd.prog 15 #[.int .u8 (c : Int)] w fun e w' => e = .returned (.int .i64 (lval c)) ∧ w = w' := by
  rcases (show (48 ≤ c ∧ c ≤ 57) ∨ (97 ≤ c ∧ c ≤ 102) ∨ (c < 48 ∨ (57 < c ∧ c < 97) ∨ 102 < c) by omega) with h | h | h
  · obtain ⟨y, hy⟩ : ∃ y, y = c - 48 := ⟨_, rfl⟩
    have e : Hid ((y : Int) = lval c) := by show _ = _; unfold lval; rw [if_pos h, hy]
    have d1 : decide ((48 : Int) ≤ (c : Int)) = true := by simp; omega
    have d2 : decide ((c : Int) ≤ 57) = true := by simp; omega
    have d3 : IntKind.u8.wrap ((c : Int) - 48) = (y : Int) := by rw [IntKind.wrap_u8]; omega
    have d4 : (y : Int) < 10 := by omega
    clear h hc hy
    go_enter Tryd.func15, Tryd.ntmps15
    go_wp2_with fail
    go_ret
    exact ⟨by rw [← e.out]; rfl, rfl⟩
  · obtain ⟨y, hy⟩ : ∃ y, y = c - 97 := ⟨_, rfl⟩
    have e : Hid ((y : Int) + 10 = lval c) := by show _ = _; unfold lval; rw [if_neg (by omega), if_pos h]; omega
    have d1 : decide ((48 : Int) ≤ (c : Int)) = true := by simp; omega
    have d2 : decide ((c : Int) ≤ 57) = false := by simp; omega
    have d4 : decide ((97 : Int) ≤ (c : Int)) = true := by simp; omega
    have d5 : decide ((c : Int) ≤ 102) = true := by simp; omega
    have d3 : IntKind.u8.wrap ((c : Int) - 97) = (y : Int) := by rw [IntKind.wrap_u8]; omega
    have d6 : (y : Int) < 10 := by omega
    clear h hc hy
    go_enter Tryd.func15, Tryd.ntmps15
    go_wp2_with fail
    go_ret
    exact ⟨by rw [← e.out]; rfl, rfl⟩
  · have e : Hid (lval c = -1) := by show _ = _; unfold lval; rw [if_neg (by omega), if_neg (by omega)]
    have d : (decide ((48 : Int) ≤ (c : Int)) = false ∧ decide ((97 : Int) ≤ (c : Int)) = false) ∨ (decide ((48 : Int) ≤ (c : Int)) = true ∧ decide ((c : Int) ≤ 57) = false ∧ decide ((97 : Int) ≤ (c : Int)) = false) ∨ (decide ((48 : Int) ≤ (c : Int)) = true ∧ decide ((c : Int) ≤ 57) = false ∧ decide ((97 : Int) ≤ (c : Int)) = true ∧ decide ((c : Int) ≤ 102) = false) := by simp; omega
    clear h hc
    rcases d with ⟨d1, d2⟩ | ⟨d1, d2, d3⟩ | ⟨d1, d2, d3, d4⟩
    all_goals
      go_enter Tryd.func15, Tryd.ntmps15
      go_wp2_with fail
      go_ret
      exact ⟨by rw [e.out]; rfl, rfl⟩
end Go.Proofs.YtncaaiaffioegaaDoor
