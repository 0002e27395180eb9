/-
  GfPowers, walked.
-/
import Derived.Test.YtbfbjmngcojaoaaGf6
namespace Go.Proofs.Ytbfbjmngcojaoaa
open Go.RowKit

set_option maxRecDepth 20000
theorem pows (a : Nat) (m : Int) (ha : a < 256) (h : a ≠ 0) : powV a m = ex (lg a * kOf m) ∧ powE a m = 0 := by
  refine ⟨?_, by unfold powE; rw [if_neg (by omega)]⟩
  unfold powV
  rw [if_neg h]
  conv => lhs; rw [← ex_lg ha h]
  rw [gpow_ex]
theorem kOf_add (m n : Int) : kOf (m + n) = (kOf m + kOf n) % 255 := by unfold kOf; omega
theorem kOf_neg2 (n : Int) : (kOf n + kOf (-n)) % 255 = 0 := by unfold kOf; omega
theorem pow_sum (i : Nat) (m n : Int) : gm (ex (i * kOf m)) (ex (i * kOf n)) = ex (i * kOf (m + n)) := by
  rw [ex_add, ← Nat.mul_add, ex_mod, ex_mod (i * kOf (m + n)), kOf_add, Nat.mul_mod i (kOf m + kOf n), Nat.mul_mod i ((kOf m + kOf n) % 255), Nat.mod_mod]
theorem pow_neg (i : Nat) (n : Int) : gm (ex (i * kOf n)) (ex (i * kOf (-n))) = 1 := by
  rw [ex_add, ← Nat.mul_add, ex_mod, Nat.mul_mod, kOf_neg2]; rfl
theorem lg_sum (i : Nat) (m n : Int) : (lg (ex (i * kOf m)) + lg (ex (i * kOf n))) % 255 = lg (ex (i * kOf (m + n))) := by
  rw [lg_ex_mod, lg_ex_mod, lg_ex_mod, ← Nat.add_mod, ← Nat.mul_add, kOf_add, Nat.mul_mod i (kOf m + kOf n), Nat.mul_mod i ((kOf m + kOf n) % 255), Nat.mod_mod]
set_option maxHeartbeats 1600000 in
theorem powers_any (a : Nat) (m n : Int) (w : World) (ha : a < 256) :
    Calls Try.prog 9 #[.int .u8 (a : Int), .int .i64 m, .int .i64 n] w fun e w' => e = .returned (.bool true) ∧ Below w.heap.size w w' := by
  have Hk := Lib.hid (known_any w)
  by_cases h0 : a = 0
  · have haa : ((a : Int) == 0) = true := by simp [h0]
    clear h0 ha
    go_enter Try.func9, Try.ntmps9
    go_wp2_with fail
    refine Hk.out.mono ?_
    rintro e w1 ⟨rfl, hb1⟩
    have Hb1 := Lib.hid hb1
    clear hb1
    go_wp2_with fail
    go_ret
    exact ⟨rfl, Hb1.out⟩
  have haa : ((a : Int) == 0) = false := by simp [h0]
  by_cases hm1 : m < -1099511627776
  · clear h0 ha
    go_enter Try.func9, Try.ntmps9
    go_wp2_with fail
    refine Hk.out.mono ?_
    rintro e w1 ⟨rfl, hb1⟩
    have Hb1 := Lib.hid hb1
    clear hb1
    go_wp2_with fail
    go_ret
    exact ⟨rfl, Hb1.out⟩
  have dm1 : decide (m < -1099511627776) = false := by simpa using hm1
  by_cases hm2 : 1099511627776 < m
  · clear h0 ha hm1
    go_enter Try.func9, Try.ntmps9
    go_wp2_with fail
    refine Hk.out.mono ?_
    rintro e w1 ⟨rfl, hb1⟩
    have Hb1 := Lib.hid hb1
    clear hb1
    go_wp2_with fail
    go_ret
    exact ⟨rfl, Hb1.out⟩
  have dm2 : decide (1099511627776 < m) = false := by simpa using hm2
  by_cases hn1 : n < -1099511627776
  · clear h0 ha hm1 hm2
    go_enter Try.func9, Try.ntmps9
    go_wp2_with fail
    refine Hk.out.mono ?_
    rintro e w1 ⟨rfl, hb1⟩
    have Hb1 := Lib.hid hb1
    clear hb1
    go_wp2_with fail
    go_ret
    exact ⟨rfl, Hb1.out⟩
  have dn1 : decide (n < -1099511627776) = false := by simpa using hn1
  by_cases hn2 : 1099511627776 < n
  · clear h0 ha hm1 hm2 hn1
    go_enter Try.func9, Try.ntmps9
    go_wp2_with fail
    refine Hk.out.mono ?_
    rintro e w1 ⟨rfl, hb1⟩
    have Hb1 := Lib.hid hb1
    clear hb1
    go_wp2_with fail
    go_ret
    exact ⟨rfl, Hb1.out⟩
  have dn2 : decide (1099511627776 < n) = false := by simpa using hn2
  have hw1 : wrap64 (m + n) = m + n := by unfold wrap64; omega
  have hw2 : wrap64 (-n) = -n := by unfold wrap64; omega
  have P1 : ∀ (k : Int) (W : World), Calls Try.prog 14 #[.int .u8 (a : Int), .int .i64 k] W fun e w' => e = .returned (.tuple #[.int .u8 ((ex (lg a * kOf k) : Nat) : Int), .int .i64 0]) ∧ W = w' := fun k W => by
    have := pow_any a k W ha
    rw [(pows a k ha h0).1, (pows a k ha h0).2] at this
    exact this
  have L1 : ∀ (k : Int) (W : World), Calls Try.prog 16 #[.int .u8 ((ex (lg a * kOf k) : Nat) : Int)] W fun e w' => e = .returned (.tuple #[.int .i64 ((lg (ex (lg a * kOf k)) : Nat) : Int), .int .i64 0]) ∧ W = w' := fun k W => by
    have := log_any (ex (lg a * kOf k)) W (ex_lt _)
    rw [show divE (ex (lg a * kOf k)) = 0 by unfold divE; rw [if_neg (ex_ne _)]] at this
    exact this
  have C1 := Lib.hid (P1 m)
  have C2 := Lib.hid (P1 n)
  have C3 := Lib.hid (P1 (m + n))
  have C4 := Lib.hid (P1 (-n))
  have D1 := Lib.hid (L1 m)
  have D2 := Lib.hid (L1 n)
  have D3 := Lib.hid (L1 (m + n))
  have M1 : Hid (∀ W, Calls Try.prog 19 #[.int .u8 ((ex (lg a * kOf m) : Nat) : Int), .int .u8 ((ex (lg a * kOf n) : Nat) : Int)] W fun e w' => e = .returned (.int .u8 ((ex (lg a * kOf (m + n)) : Nat) : Int)) ∧ W = w') := fun W => by
    have := mul_any _ _ W (ex_lt (lg a * kOf m)) (ex_lt (lg a * kOf n))
    rw [pow_sum] at this
    exact this
  have M2 : Hid (∀ W, Calls Try.prog 19 #[.int .u8 ((ex (lg a * kOf n) : Nat) : Int), .int .u8 ((ex (lg a * kOf (-n)) : Nat) : Int)] W fun e w' => e = .returned (.int .u8 1) ∧ W = w') := fun W => by
    have := mul_any _ _ W (ex_lt (lg a * kOf n)) (ex_lt (lg a * kOf (-n)))
    rw [pow_neg] at this
    exact this
  have hls := lg_sum (lg a) m n
  have lb1 : lg (ex (lg a * kOf m)) < 255 := by rw [lg_ex_mod]; omega
  have lb2 : lg (ex (lg a * kOf n)) < 255 := by rw [lg_ex_mod]; omega
  clear P1 L1
  generalize ex (lg a * kOf (m + n)) = z at *
  generalize ex (lg a * kOf (-n)) = v at *
  generalize ex (lg a * kOf m) = x at *
  generalize ex (lg a * kOf n) = y at *
  generalize lg x = p at *
  generalize lg y = q at *
  generalize lg z = r at *
  have hsum : ((p : Int) + (q : Int)) % 255 = (r : Int) := by omega
  have lb1' : (p : Int) < 255 := by omega
  have lb2' : (q : Int) < 255 := by omega
  clear h0 ha hm1 hm2 hn1 hn2 hls lb1 lb2
  go_enter Try.func9, Try.ntmps9
  go_wp2_with fail
  refine Hk.out.mono ?_
  rintro e w1 ⟨rfl, hb1⟩
  have Hb1 := Lib.hid hb1
  clear hb1
  go_wp2_with fail
  refine (C1.out _).mono ?_
  rintro e w2 ⟨rfl, rfl⟩
  go_wp2_with fail
  refine (C2.out _).mono ?_
  rintro e w2 ⟨rfl, rfl⟩
  go_wp2_with fail
  refine (C3.out _).mono ?_
  rintro e w2 ⟨rfl, rfl⟩
  go_wp2_with fail
  refine (C4.out _).mono ?_
  rintro e w2 ⟨rfl, rfl⟩
  go_wp2_with fail
  refine (M1.out _).mono ?_
  rintro e w2 ⟨rfl, rfl⟩
  go_wp2_with fail
  refine (M2.out _).mono ?_
  rintro e w2 ⟨rfl, rfl⟩
  go_wp2_with fail
  refine (D1.out _).mono ?_
  rintro e w2 ⟨rfl, rfl⟩
  go_wp2_with fail
  refine (D2.out _).mono ?_
  rintro e w2 ⟨rfl, rfl⟩
  go_wp2_with fail
  refine (D3.out _).mono ?_
  rintro e w2 ⟨rfl, rfl⟩
  go_wp2_with fail
  go_ret
  exact ⟨rfl, Hb1.out⟩
end Go.Proofs.Ytbfbjmngcojaoaa
