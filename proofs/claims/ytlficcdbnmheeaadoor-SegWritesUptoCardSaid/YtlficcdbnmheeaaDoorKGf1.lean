/-
  The field's operations, both programs'.
-/
import Derived.Test.YtlficcdbnmheeaaDoorKBase
import Derived.Test.YtlficcdbnmheeaaDoorKGfMath
import Derived.IntWalk
namespace Go.Proofs.YtlficcdbnmheeaaDoor
open Go.RowKit

set_option maxRecDepth 20000
theorem add_any (a b : Nat) (w : World) (ha : a < 256) (hb : b < 256) :
    Calls Tryd.prog 107 #[.int .u8 (a : Int), .int .u8 (b : Int)] w fun e w' => e = .returned (.int .u8 ((a ^^^ b : Nat) : Int)) ∧ w = w' := by
  have h1 : bits .xor .u8 (a : Int) (b : Int) = ((a ^^^ b : Nat) : Int) := u8_xor_nat a b ha hb
  clear ha hb
  go_enter Tryd.func107, Tryd.ntmps107
  go_wp2_with fail
  go_ret
  exact ⟨rfl, rfl⟩
theorem twice_any (a : Nat) (w : World) (ha : a < 256) :
    Calls Tryd.prog 99 #[.int .u8 (a : Int)] w fun e w' => e = .returned (.int .u8 ((xt a : Nat) : Int)) ∧ w = w' := by
  have hx : bits .xor .u8 ((a : Int) * 2 % 256) ((a : Int) / 128 * 29) = ((xt a : Nat) : Int) := by
    have := u8_xor_nat (a * 2 % 256) (a / 128 * 29) (by omega) (by omega)
    rw [show ((a * 2 % 256 : Nat) : Int) = (a : Int) * 2 % 256 by omega, show ((a / 128 * 29 : Nat) : Int) = (a : Int) / 128 * 29 by omega] at this
    exact this
  have ha' : (a : Int) < 256 := by omega
  clear ha
  go_enter Tryd.func99, Tryd.ntmps99
  go_wp2_with fail
  go_ret
  exact ⟨rfl, rfl⟩
theorem and_one_u8 {b : Nat} (hb : b < 256) : bits .and .u8 (b : Int) 1 = ((b % 2 : Nat) : Int) := by
  have := u8_and_nat b 1 hb (by omega)
  rw [Nat.and_one_is_mod] at this
  exact this
set_option maxHeartbeats 400000 in
theorem mul_any (a b : Nat) (w : World) (ha : a < 256) (hb : b < 256) :
    Calls Tryd.prog 114 #[.int .u8 (a : Int), .int .u8 (b : Int)] w fun e w' => e = .returned (.int .u8 ((gm a b : Nat) : Int)) ∧ w = w' := by
  have Hi : Hid (0 ^^^ gm a b = gm a b ∧ a < 256 ∧ b < 256) := ⟨Nat.zero_xor _, ha, hb⟩
  clear ha hb
  go_enter Tryd.func114, Tryd.ntmps114
  go_wp2_with fail
  go_loop [0, 1, 5] (fun av bv pv => ∃ x y p : Nat, av = .int .u8 (x : Int) ∧ bv = .int .u8 (y : Int) ∧ pv = .int .u8 (p : Int) ∧ x < 256 ∧ y < 256 ∧ p < 256 ∧ Hid (p ^^^ gm x y = gm a b)) (fun _ bv _ => (intOf bv).toNat)
  case atStart => exact ⟨a, b, 0, rfl, rfl, rfl, Hi.out.2.1, Hi.out.2.2, by omega, Hi.out.1⟩
  case round =>
    obtain ⟨x, y, p, rfl, rfl, rfl, hx, hy, hp, hrel⟩ := hrel
    by_cases hy0 : y = 0
    · have hb0 : ((y : Int) != 0) = false := by simp [hy0]
      have Hr : Hid (p = gm a b) := by show _ = _; rw [← hrel.out, hy0, gm_zero, Nat.xor_zero]
      clear hy0
      go_wp2_with fail
      go_ret
      exact ⟨by rw [Hr.out]; rfl, rfl⟩
    have hb0 : ((y : Int) != 0) = true := by simp [hy0]
    have Ht := Lib.hid (twice_any x w hx)
    have Hn := Lib.hid (gm_turn x y hy)
    have hb1 := and_one_u8 hy
    have Hb : Hid (x < 256 ∧ y / 2 < 256 ∧ xt x < 256 ∧ y / 2 < y) := ⟨hx, by omega, xt_lt hx, by omega⟩
    by_cases ho : y % 2 = 1
    · have Ha := Lib.hid (add_any p x w hp hx)
      have Hp := Lib.hid (gxor_lt hp hx)
      rw [ho] at hb1
      have hb1' : bits .and .u8 (y : Int) 1 = 1 := hb1
      have Hr : Hid ((p ^^^ x) ^^^ gm (xt x) (y / 2) = gm a b) := by
        show _ = _
        have := Hn.out
        rw [if_pos ho] at this
        rw [← hrel.out, this, Nat.xor_assoc]
      clear hb1 ho hy0
      go_wp2_with (first
        | (go_at_call 107; refine Ha.out.mono ?_; rintro e w1 ⟨rfl, rfl⟩)
        | (go_at_call 99; refine Ht.out.mono ?_; rintro e w1 ⟨rfl, rfl⟩))
      go_round
      case rel => exact ⟨xt x, y / 2, p ^^^ x, rfl, by go_num, rfl, Hb.out.2.2.1, Hb.out.2.1, Hp.out, Hr.out⟩
      case measure => (have := Hb.out.2.2.2; simp [intOf]; omega)
    · have ho' : y % 2 = 0 := by omega
      rw [ho'] at hb1
      have hb1' : bits .and .u8 (y : Int) 1 = 0 := hb1
      have Hr : Hid (p ^^^ gm (xt x) (y / 2) = gm a b) := by
        show _ = _
        have := Hn.out
        rw [if_neg ho, Nat.zero_xor] at this
        rw [← hrel.out, this]
      clear hb1 ho ho' hy0
      go_wp2_with (first
        | (go_at_call 99; refine Ht.out.mono ?_; rintro e w1 ⟨rfl, rfl⟩))
      go_round
      case rel => exact ⟨xt x, y / 2, p, rfl, by go_num, rfl, Hb.out.2.2.1, Hb.out.2.1, hp, Hr.out⟩
      case measure => (have := Hb.out.2.2.2; simp [intOf]; omega)
theorem xt_alt' : ∀ a : Fin 256, xt a.val = if 256 ≤ a.val * 2 then a.val * 2 ^^^ 285 else a.val * 2 := by decide +kernel
theorem ofInt_i64 (a : Nat) (ha : a < 512) : (BitVec.ofInt 64 (a : Int)).toNat = a := by
  rw [BitVec.ofInt_natCast, BitVec.toNat_ofNat]; exact Nat.mod_eq_of_lt (by omega)
theorem i64_and_nat (a b : Nat) (ha : a < 512) (hb : b < 512) : bits .and .i64 (a : Int) (b : Int) = ((a &&& b : Nat) : Int) := by
  have hx : a &&& b < 2 ^ 9 := Nat.and_lt_two_pow _ (by omega)
  show IntKind.i64.wrap ((BitVec.ofInt 64 (a : Int) &&& BitVec.ofInt 64 (b : Int)).toNat : Int) = _
  rw [BitVec.toNat_and, ofInt_i64 a ha, ofInt_i64 b hb]
  exact IntWalk.i64_in _ (by omega)
theorem i64_xor_nat (a b : Nat) (ha : a < 512) (hb : b < 512) : bits .xor .i64 (a : Int) (b : Int) = ((a ^^^ b : Nat) : Int) := by
  have hx : a ^^^ b < 2 ^ 9 := Nat.xor_lt_two_pow (by omega) (by omega)
  show IntKind.i64.wrap ((BitVec.ofInt 64 (a : Int) ^^^ BitVec.ofInt 64 (b : Int)).toNat : Int) = _
  rw [BitVec.toNat_xor, ofInt_i64 a ha, ofInt_i64 b hb]
  exact IntWalk.i64_in _ (by omega)
theorem and_one_i64 {b : Nat} (hb : b < 512) : bits .and .i64 (b : Int) 1 = ((b % 2 : Nat) : Int) := by
  have := i64_and_nat b 1 hb (by omega)
  rw [Nat.and_one_is_mod] at this
  exact this
set_option maxHeartbeats 800000 in
theorem rmul_any (a b : Nat) (w : World) (ha : a < 256) (hb : b < 256) :
    Calls Tryd.prog 100 #[.int .u8 (a : Int), .int .u8 (b : Int)] w fun e w' => e = .returned (.int .u8 ((gm a b : Nat) : Int)) ∧ w = w' := by
  have Hi : Hid (0 ^^^ gm a b = gm a b ∧ a < 256 ∧ b < 256) := ⟨Nat.zero_xor _, ha, hb⟩
  have ha' : (a : Int) < 256 := by omega
  have hb' : (b : Int) < 256 := by omega
  clear ha hb
  go_enter Tryd.func100, Tryd.ntmps100
  go_wp2_with fail
  go_loop [5, 6, 7] (fun pv av bv => ∃ x y p : Nat, av = .int .i64 (x : Int) ∧ bv = .int .i64 (y : Int) ∧ pv = .int .i64 (p : Int) ∧ x < 256 ∧ y < 256 ∧ p < 256 ∧ Hid (p ^^^ gm x y = gm a b)) (fun _ _ bv => (intOf bv).toNat)
  case atStart => exact ⟨a, b, 0, rfl, rfl, rfl, Hi.out.2.1, Hi.out.2.2, by omega, Hi.out.1⟩
  case round =>
    obtain ⟨x, y, p, rfl, rfl, rfl, hx, hy, hp, hrel⟩ := hrel
    by_cases hy0 : y = 0
    · have Hr : Hid (p = gm a b) := by show _ = _; rw [← hrel.out, hy0, gm_zero, Nat.xor_zero]
      have hy0' : ¬ (0 : Int) < (y : Int) := by omega
      have hpi : (p : Int) < 256 := by omega
      have hw : IntKind.u8.wrap (p : Int) = (p : Int) := by rw [IntKind.wrap_u8']; omega
      clear hy0
      go_wp2_with fail
      go_ret
      exact ⟨by rw [Hr.out]; rfl, rfl⟩
    have hy1 : (0 : Int) < (y : Int) := by omega
    have Hn := Lib.hid (gm_turn x y hy)
    have hb1 := and_one_i64 (b := y) (by omega)
    have Hb : Hid (x < 256 ∧ y / 2 < 256 ∧ xt x < 256 ∧ y / 2 < y) := ⟨hx, by omega, xt_lt hx, by omega⟩
    have Hxx := Lib.hid (xt_alt' ⟨x, hx⟩)
    have hxp := i64_xor_nat p x (by omega) (by omega)
    have hx2 : bits .xor .i64 ((x : Int) * 2) 285 = ((x * 2 ^^^ 285 : Nat) : Int) := by
      have := i64_xor_nat (x * 2) 285 (by omega) (by omega)
      rw [show ((x * 2 : Nat) : Int) = (x : Int) * 2 by omega] at this
      exact this
    have Hp := Lib.hid (gxor_lt hp hx)
    have hxi : (x : Int) < 256 := by omega
    by_cases ho : y % 2 = 1
    · rw [ho] at hb1
      have hb1' : bits .and .i64 (y : Int) 1 = 1 := hb1
      have Hr : Hid ((p ^^^ x) ^^^ gm (xt x) (y / 2) = gm a b) := by
        show _ = _
        have := Hn.out
        rw [if_pos ho] at this
        rw [← hrel.out, this, Nat.xor_assoc]
      clear hb1 ho hy0
      by_cases h256 : 256 ≤ x * 2
      · have Hx3 : Hid (xt x = x * 2 ^^^ 285) := by
          have := Hxx.out
          rw [if_pos h256] at this
          exact this
        have h256' : (256 : Int) ≤ (x : Int) * 2 := by omega
        clear h256
        go_wp2_with fail
        go_round
        case rel => exact ⟨xt x, y / 2, p ^^^ x, by rw [Hx3.out], by go_num, rfl, Hb.out.2.2.1, Hb.out.2.1, Hp.out, Hr.out⟩
        case measure => (have := Hb.out.2.2.2; simp [intOf]; omega)
      · have Hx3 : Hid (xt x = x * 2) := by
          have := Hxx.out
          rw [if_neg h256] at this
          exact this
        have h256' : (x : Int) * 2 < 256 := by omega
        clear h256 hx2
        go_wp2_with fail
        go_round
        case rel => exact ⟨xt x, y / 2, p ^^^ x, by rw [Hx3.out]; go_num, by go_num, rfl, Hb.out.2.2.1, Hb.out.2.1, Hp.out, Hr.out⟩
        case measure => (have := Hb.out.2.2.2; simp [intOf]; omega)
    · have ho' : y % 2 = 0 := by omega
      rw [ho'] at hb1
      have hb1' : bits .and .i64 (y : Int) 1 = 0 := hb1
      have Hr : Hid (p ^^^ gm (xt x) (y / 2) = gm a b) := by
        show _ = _
        have := Hn.out
        rw [if_neg ho, Nat.zero_xor] at this
        rw [← hrel.out, this]
      clear hb1 ho ho' hy0
      by_cases h256 : 256 ≤ x * 2
      · have Hx3 : Hid (xt x = x * 2 ^^^ 285) := by
          have := Hxx.out
          rw [if_pos h256] at this
          exact this
        have h256' : (256 : Int) ≤ (x : Int) * 2 := by omega
        clear h256
        go_wp2_with fail
        go_round
        case rel => exact ⟨xt x, y / 2, p, by rw [Hx3.out], by go_num, rfl, Hb.out.2.2.1, Hb.out.2.1, hp, Hr.out⟩
        case measure => (have := Hb.out.2.2.2; simp [intOf]; omega)
      · have Hx3 : Hid (xt x = x * 2) := by
          have := Hxx.out
          rw [if_neg h256] at this
          exact this
        have h256' : (x : Int) * 2 < 256 := by omega
        clear h256 hx2
        go_wp2_with fail
        go_round
        case rel => exact ⟨xt x, y / 2, p, by rw [Hx3.out]; go_num, by go_num, rfl, Hb.out.2.2.1, Hb.out.2.1, hp, Hr.out⟩
        case measure => (have := Hb.out.2.2.2; simp [intOf]; omega)
end Go.Proofs.YtlficcdbnmheeaaDoor

/-
  Powers, quotients, logarithms, both programs'.
-/
namespace Go.Proofs.YtlficcdbnmheeaaDoor
open Go.RowKit

set_option maxRecDepth 20000
/-- an exponent, shortened -/
def kOf (n : Int) : Nat := (n % 255).toNat
theorem kOf_lt (n : Int) : kOf n < 255 := by unfold kOf; omega
theorem tmod_255 (n : Int) : n.tmod 255 = n % 255 ∨ n.tmod 255 = n % 255 - 255 ∧ n % 255 ≠ 0 := by
  rw [Int.tmod_eq_emod]
  split
  · left; omega
  · right
    rename_i h
    refine ⟨by simp, fun e => h (.inr ?_)⟩
    exact Int.dvd_of_emod_eq_zero e
theorem kOf_go (n : Int) : (wrap64 (n.tmod 255 + 255)).tmod 255 = (kOf n : Int) := by
  have h := tmod_255 n
  have hk : (kOf n : Int) = n % 255 := by unfold kOf; omega
  have hw : wrap64 (n.tmod 255 + 255) = n.tmod 255 + 255 := by unfold wrap64; omega
  rw [hw, hk, Int.tmod_eq_emod_of_nonneg (by omega)]
  omega
theorem kOf_neg (n : Int) (h0 : n.tmod 255 < 0) : wrap64 (n.tmod 255 + 255) = (kOf n : Int) := by
  have h := tmod_255 n
  have hk : (kOf n : Int) = n % 255 := by unfold kOf; omega
  have hw : wrap64 (n.tmod 255 + 255) = n.tmod 255 + 255 := by unfold wrap64; omega
  rw [hw, hk]
  omega
theorem kOf_pos (n : Int) (h0 : ¬ n.tmod 255 < 0) : n.tmod 255 = (kOf n : Int) := by
  have h := tmod_255 n
  have hk : (kOf n : Int) = n % 255 := by unfold kOf; omega
  rw [hk]
  omega
set_option maxHeartbeats 800000 in
theorem pow_main (a : Nat) (n : Int) (w : World) (ha : a < 256) (h : a ≠ 0 ∨ a = 0 ∧ n = 0) :
    Calls Tryd.prog 128 #[.int .u8 (a : Int), .int .i64 n] w fun e w' => e = .returned (.tuple #[.int .u8 ((gpow a (kOf n) : Nat) : Int), .int .i64 0]) ∧ w = w' := by
  have Hm : Hid (∀ x y : Nat, x < 256 → y < 256 → Calls Tryd.prog 114 #[.int .u8 (x : Int), .int .u8 (y : Int)] w fun e w' => e = .returned (.int .u8 ((gm x y : Nat) : Int)) ∧ w = w') := fun x y hx hy => mul_any x y w hx hy
  have Hk := Lib.hid (kOf_go n)
  have Hk2 := Lib.hid (kOf_lt n)
  have Hk3 : Hid (n % 255 = (kOf n : Int)) := by show _ = _; unfold kOf; omega
  have Ha := Lib.hid ha
  obtain ⟨G, hG⟩ : ∃ G, G = gpow a (kOf n) := ⟨_, rfl⟩
  have H1 : Hid (gm 1 (gpow a (kOf n)) = G) := by show _ = _; rw [hG]; exact gm_one (gpow_lt _ ha)
  rw [← hG]
  clear hG
  rcases h with h | ⟨h, h'⟩
  case' inl =>
    have ha0 : ((a : Int) == 0) = false := by simp [h]
    clear h ha
  case' inr =>
    subst h
    have hn1 : ¬ n < 0 := by omega
    have hn2 : ¬ 0 < n := by omega
    clear h' ha
  all_goals
    go_enter Tryd.func128, Tryd.ntmps128
    go_wp2_with fail
    go_loop [0, 1, 6] (fun av nv pv => ∃ x m p : Nat, av = .int .u8 (x : Int) ∧ nv = .int .i64 (m : Int) ∧ pv = .int .u8 (p : Int) ∧ x < 256 ∧ m < 255 ∧ p < 256 ∧ Hid (gm p (gpow x m) = G)) (fun _ nv _ => (intOf nv).toNat)
    case atStart => exact ⟨_, kOf n, 1, by first | rfl | exact congrArg (Value.int IntKind.u8) (Int.natCast_zero).symm, by first | rw [Hk.out] | rw [Hk3.out], rfl, Ha.out, Hk2.out, by omega, H1.out⟩
    case round =>
      obtain ⟨x, m, p, rfl, rfl, rfl, hx, hm, hp, hrel⟩ := hrel
      by_cases hm0 : m = 0
      · have Hr := hrel.out
        rw [hm0] at Hr
        have Hr2 : Hid (p = G) := (gm_one_right hp).symm.trans Hr
        have hm0' : ¬ (0 : Int) < (m : Int) := by omega
        clear hm0 Hr
        go_wp2_with fail
        go_ret2
        exact ⟨by rw [Hr2.out]; rfl, rfl⟩
      have hm1 : (0 : Int) < (m : Int) := by omega
      have Hs := Lib.hid (gpow_sq m hx)
      have hb1 := and_one_i64 (b := m) (by omega)
      have Hb : Hid (m / 2 < 255 ∧ m / 2 < m ∧ gm x x < 256 ∧ gm p x < 256 ∧ gpow (gm x x) (m / 2) < 256) := ⟨by omega, by omega, gm_lt _ hx, gm_lt _ hp, gpow_lt _ (gm_lt _ hx)⟩
      by_cases ho : m % 2 = 1
      · rw [ho] at hb1
        have hb1' : bits .and .i64 (m : Int) 1 = 1 := hb1
        have Hr : Hid (gm (gm p x) (gpow (gm x x) (m / 2)) = G) := by
          have := Hs.out
          rw [if_pos ho] at this
          have h2 := hrel.out
          rw [this, gm_assoc hp hx Hb.out.2.2.2.2] at h2
          exact h2
        clear hb1 ho hm0
        go_wp2_with (go_at_call 114; refine (Hm.out _ _ (by assumption) (by assumption)).mono ?_; rintro e w1 ⟨rfl, rfl⟩)
        go_round
        case rel => exact ⟨gm x x, m / 2, gm p x, rfl, by go_num, rfl, Hb.out.2.2.1, Hb.out.1, Hb.out.2.2.2.1, Hr.out⟩
        case measure => (have := Hb.out.2.1; simp [intOf]; omega)
      · have ho' : m % 2 = 0 := by omega
        rw [ho'] at hb1
        have hb1' : bits .and .i64 (m : Int) 1 = 0 := hb1
        have Hr : Hid (gm p (gpow (gm x x) (m / 2)) = G) := by
          have := Hs.out
          rw [if_neg ho, gm_one Hb.out.2.2.2.2] at this
          have h2 := hrel.out
          rw [this] at h2
          exact h2
        clear hb1 ho ho' hm0
        go_wp2_with (go_at_call 114; refine (Hm.out _ _ (by assumption) (by assumption)).mono ?_; rintro e w1 ⟨rfl, rfl⟩)
        go_round
        case rel => exact ⟨gm x x, m / 2, p, rfl, by go_num, rfl, Hb.out.2.2.1, Hb.out.1, hp, Hr.out⟩
        case measure => (have := Hb.out.2.1; simp [intOf]; omega)

def powV (a : Nat) (n : Int) : Nat := if a = 0 then (if n = 0 then 1 else 0) else gpow a (kOf n)
def powE (a : Nat) (n : Int) : Nat := if a = 0 ∧ n < 0 then 1 else 0
theorem powV_lt (a : Nat) (n : Int) (ha : a < 256) : powV a n < 256 := by
  unfold powV
  split
  · split <;> omega
  · exact gpow_lt _ ha
theorem kOf_zero : kOf 0 = 0 := by decide
theorem pow_any (a : Nat) (n : Int) (w : World) (ha : a < 256) :
    Calls Tryd.prog 128 #[.int .u8 (a : Int), .int .i64 n] w fun e w' => e = .returned (.tuple #[.int .u8 ((powV a n : Nat) : Int), .int .i64 ((powE a n : Nat) : Int)]) ∧ w = w' := by
  by_cases h0 : a = 0
  · by_cases hn : n = 0
    · have := pow_main a n w ha (.inr ⟨h0, hn⟩)
      have e1 : powV a n = gpow a (kOf n) := by unfold powV; rw [if_pos h0, if_pos hn, hn, kOf_zero]; rfl
      have e2 : powE a n = 0 := by unfold powE; rw [if_neg (by omega)]
      rw [e1, e2]
      exact this
    · have e1 : powV a n = 0 := by unfold powV; rw [if_pos h0, if_neg hn]
      rw [e1]
      by_cases hneg : n < 0
      · have e2 : powE a n = 1 := by unfold powE; rw [if_pos ⟨h0, hneg⟩]
        rw [e2]
        subst h0
        clear e1 e2 hn ha
        go_enter Tryd.func128, Tryd.ntmps128
        go_wp2_with fail
        go_ret2
        exact ⟨rfl, rfl⟩
      · have e2 : powE a n = 0 := by unfold powE; rw [if_neg (by omega)]
        rw [e2]
        subst h0
        have hpos : 0 < n := by omega
        clear e1 e2 hn hneg ha
        go_enter Tryd.func128, Tryd.ntmps128
        go_wp2_with fail
        go_ret2
        exact ⟨rfl, rfl⟩
  · have := pow_main a n w ha (.inl h0)
    have e1 : powV a n = gpow a (kOf n) := by unfold powV; rw [if_neg h0]
    have e2 : powE a n = 0 := by unfold powE; rw [if_neg (by omega)]
    rw [e1, e2]
    exact this
def divV (a b : Nat) : Nat := if b = 0 then 0 else gm a (gi b)
def divE (b : Nat) : Nat := if b = 0 then 1 else 0
theorem divV_lt {a : Nat} (b : Nat) (ha : a < 256) : divV a b < 256 := by
  unfold divV
  split
  · omega
  · exact gm_lt _ ha
theorem powV_inv {b : Nat} (hb : b < 256) (h : b ≠ 0) : powV b (-1) = gi b ∧ powE b (-1) = 0 := by
  refine ⟨?_, ?_⟩
  · unfold powV
    rw [if_neg h, show kOf (-1) = 254 by decide, gpow_254 hb h]
  · unfold powE; rw [if_neg (by omega)]
end Go.Proofs.YtlficcdbnmheeaaDoor
