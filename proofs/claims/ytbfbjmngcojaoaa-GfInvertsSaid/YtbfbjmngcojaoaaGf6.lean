/-
  The law's example; GfReckons, GfLaws, GfPowers, walked.
-/
import Derived.Test.YtbfbjmngcojaoaaGf5
namespace Go.Proofs.Ytbfbjmngcojaoaa
open Go.RowKit

set_option maxRecDepth 20000
theorem drewN_below {B : Nat} {w w' : World} (h : Below B w w') (n : Nat) : Below B w (w'.drewN n) := ⟨h.os, h.tape, h.output, h.size, h.block⟩
set_option maxHeartbeats 800000 in
theorem known_any (w : World) : Calls Try.prog 11 #[] w fun e w' => e = .returned (.bool true) ∧ Below w.heap.size w w' := by
  have HD : Hid (Calls Try.prog 12 #[.int .u8 1, .int .u8 2] w fun e w' => e = .returned (.tuple #[.int .u8 142, .int .i64 0]) ∧ w = w') := by
    have := div_any 1 2 w (by omega) (by omega)
    rw [show divV 1 2 = 142 by decide +kernel, show divE 2 = 0 by decide +kernel] at this
    exact this
  have HL : Hid (Calls Try.prog 16 #[.int .u8 1] w fun e w' => e = .returned (.tuple #[.int .i64 0, .int .i64 0]) ∧ w = w') := by
    have := log_any 1 w (by omega)
    rw [show lg 1 = 0 by decide +kernel, show divE 1 = 0 by decide +kernel] at this
    exact this
  have HP : Hid (Calls Try.prog 25 #[.int .i64 3] w (MadeP w (pairsM 3))) := pairs_any 3 w (by omega) (by omega)
  have HM : Hid (∀ W, Calls Try.prog 19 #[.int .u8 128, .int .u8 2] W fun e w' => e = .returned (.int .u8 29) ∧ W = w') := fun W => by
    have := mul_any 128 2 W (by omega) (by omega)
    rw [show gm 128 2 = 29 by decide +kernel] at this
    exact this
  go_enter Try.func11, Try.ntmps11
  go_wp2_with fail
  refine HD.out.mono ?_
  rintro e w1 ⟨rfl, rfl⟩
  go_wp2_with fail
  refine HL.out.mono ?_
  rintro e w1 ⟨rfl, rfl⟩
  go_wp2_with fail
  refine HP.out.mono ?_
  rintro e w1 ⟨g, rfl, hm, hb⟩
  obtain ⟨b0, c0, h0, _⟩ := hm.row (i := 0) (l := [1, 1, 1]) (by rfl)
  obtain ⟨b1, c1, h1, _⟩ := hm.row (i := 1) (l := [pwr 0, pwr 1, pwr 2]) (by rfl)
  have q0 := h0.head
  have q1 := h1.head
  have q2 := h0.cells 2 1 rfl
  have q3 : w1.cell? ⟨b1, 2, none⟩ = some (.int .u8 4) := h1.cells 2 (pwr 2) rfl
  have q4 := h0.cap
  have q5 := h1.cap
  have Hb := Lib.hid hb
  have q0' : w1.cell? ⟨g, 0, none⟩ = some (.slice (some ⟨b0, 0, none⟩) 3 c0) := q0
  have q1' : w1.cell? ⟨g, 1, none⟩ = some (.slice (some ⟨b1, 0, none⟩) 3 c1) := q1
  have q2' : w1.cell? ⟨b0, 2, none⟩ = some (.int .u8 1) := q2
  have q4' : (3 : Nat) ≤ c0 := q4
  have q5' : (3 : Nat) ≤ c1 := q5
  clear hm h0 h1 hb q0 q1 q2 q4 q5 HD HL HP
  go_wp2_with fail
  refine (HM.out _).mono ?_
  rintro e w2 ⟨rfl, rfl⟩
  go_wp2_with fail
  go_ret
  exact ⟨rfl, Hb.out⟩
set_option maxHeartbeats 1600000 in
theorem reckons_any (a b : Nat) (n : Int) (w : World) (ha : a < 256) (hb : b < 256) :
    Calls Try.prog 3 #[.int .u8 (a : Int), .int .u8 (b : Int), .int .i64 n] w fun e w' => e = .returned (.bool true) ∧ Below w.heap.size w w' := by
  have Hk := Lib.hid (known_any w)
  have C1 := Lib.hid fun W => div_any a b W ha hb
  have C2 := Lib.hid fun W => rdiv_any a b W ha hb
  have C3 := Lib.hid fun W => pow_any a n W ha
  have C4 := Lib.hid fun W => rpow_any a n W ha
  have C5 := Lib.hid fun W => log_any a W ha
  have C6 := Lib.hid fun W => rlog_any a W ha
  have C7 := Lib.hid fun W => add_any a b W ha hb
  have C8 := Lib.hid fun W => mul_any a b W ha hb
  have C9 := Lib.hid fun W => rmul_any a b W ha hb
  have hx : bits .xor .u8 (a : Int) (b : Int) = ((a ^^^ b : Nat) : Int) := u8_xor_nat a b ha hb
  generalize a ^^^ b = s at *
  generalize gm a b = p at *
  generalize divV a b = d at *
  generalize powV a n = q at *
  generalize powE a n = f at *
  generalize lg a = l at *
  generalize divE b = e1 at *
  generalize divE a = e2 at *
  clear ha hb
  go_enter Try.func3, Try.ntmps3
  go_wp2_with fail
  refine Hk.out.mono ?_
  rintro e w1 ⟨rfl, hb1⟩
  have Hb1 := Lib.hid hb1
  clear hb1
  go_wp2_with fail
  refine (C1.out _).mono ?_
  rintro e w2 ⟨rfl, rfl⟩
  go_wp2_with fail
  refine (C2.out _).mono ?_
  rintro e w2 ⟨rfl, rfl⟩
  go_wp2_with fail
  refine (C3.out _).mono ?_
  rintro e w2 ⟨rfl, rfl⟩
  go_wp2_with fail
  refine (C4.out _).mono ?_
  rintro e w2 ⟨rfl, rfl⟩
  go_wp2_with fail
  refine (C5.out _).mono ?_
  rintro e w2 ⟨rfl, rfl⟩
  go_wp2_with fail
  refine (C6.out _).mono ?_
  rintro e w2 ⟨rfl, rfl⟩
  go_wp2_with fail
  refine (C7.out _).mono ?_
  rintro e w2 ⟨rfl, rfl⟩
  go_wp2_with fail
  refine (C8.out _).mono ?_
  rintro e w2 ⟨rfl, rfl⟩
  go_wp2_with fail
  refine (C9.out _).mono ?_
  rintro e w2 ⟨rfl, rfl⟩
  go_wp2_with fail
  go_ret
  exact ⟨rfl, Hb1.out⟩
theorem div_mul (a b : Nat) (ha : a < 256) (hb : b < 256) (h : b ≠ 0) : divV (gm a b) b = a ∧ divE b = 0 := by
  refine ⟨?_, by unfold divE; rw [if_neg h]⟩
  unfold divV
  rw [if_neg h, ← gm_assoc ha hb (gi_lt b), gm_gi hb h, gm_one_right ha]
theorem pow_two (a : Nat) (ha : a < 256) (h : a ≠ 0) : powV 2 (lg a : Int) = a ∧ powE 2 (lg a : Int) = 0 := by
  have hl := lg_lt ha h
  refine ⟨?_, by unfold powE; rw [if_neg (by omega)]⟩
  unfold powV
  rw [if_neg (by omega), show kOf (lg a : Int) = lg a by unfold kOf; omega, show (2 : Nat) = ex 1 from rfl, gpow_ex, Nat.one_mul, ex_lg ha h]
set_option maxHeartbeats 1600000 in
theorem laws_any (a b c : Nat) (w : World) (ha : a < 256) (hb : b < 256) (hc : c < 256) :
    Calls Try.prog 6 #[.int .u8 (a : Int), .int .u8 (b : Int), .int .u8 (c : Int)] w fun e w' => e = .returned (.bool true) ∧ Below w.heap.size w w' := by
  have Hk := Lib.hid (known_any w)
  have C1 := Lib.hid fun W => mul_any a b W ha hb
  have C2 := Lib.hid fun W => mul_any b a W hb ha
  have C3 := Lib.hid fun W => mul_any b c W hb hc
  have C4 := Lib.hid fun W => mul_any a (gm b c) W ha (gm_lt c hb)
  have C6 := Lib.hid fun W => mul_any (gm a b) c W (gm_lt b ha) hc
  have C7 := Lib.hid fun W => add_any b c W hb hc
  have C8 := Lib.hid fun W => mul_any a (b ^^^ c) W ha (gxor_lt hb hc)
  have C10 := Lib.hid fun W => mul_any a c W ha hc
  have C11 := Lib.hid fun W => add_any (gm a b) (gm a c) W (gm_lt b ha) (gm_lt c ha)
  have C12 : Hid (∀ W, Calls Try.prog 18 #[.int .u8 (a : Int), .int .u8 (a : Int)] W fun e w' => e = .returned (.int .u8 0) ∧ W = w') := fun W => by
    have := add_any a a W ha ha
    rw [Nat.xor_self] at this
    exact this
  have C13 : Hid (∀ W, Calls Try.prog 19 #[.int .u8 (a : Int), .int .u8 1] W fun e w' => e = .returned (.int .u8 (a : Int)) ∧ W = w') := fun W => by
    have := mul_any a 1 W ha (by omega)
    rw [gm_one_right ha] at this
    exact this
  have C14 : Hid (∀ W, Calls Try.prog 19 #[.int .u8 (a : Int), .int .u8 0] W fun e w' => e = .returned (.int .u8 0) ∧ W = w') := fun W => by
    have := mul_any a 0 W ha (by omega)
    rw [gm_zero] at this
    exact this
  have C16 : Hid (b ≠ 0 → ∀ W, Calls Try.prog 12 #[.int .u8 ((gm a b : Nat) : Int), .int .u8 (b : Int)] W fun e w' => e = .returned (.tuple #[.int .u8 (a : Int), .int .i64 0]) ∧ W = w') := fun h W => by
    have := div_any (gm a b) b W (gm_lt b ha) hb
    rw [(div_mul a b ha hb h).1, (div_mul a b ha hb h).2] at this
    exact this
  have C17 : Hid (a ≠ 0 → ∀ W, Calls Try.prog 16 #[.int .u8 (a : Int)] W fun e w' => e = .returned (.tuple #[.int .i64 ((lg a : Nat) : Int), .int .i64 0]) ∧ W = w') := fun h W => by
    have := log_any a W ha
    rw [show divE a = 0 by unfold divE; rw [if_neg h]] at this
    exact this
  have C18 : Hid (a ≠ 0 → ∀ W, Calls Try.prog 14 #[.int .u8 2, .int .i64 ((lg a : Nat) : Int)] W fun e w' => e = .returned (.tuple #[.int .u8 (a : Int), .int .i64 0]) ∧ W = w') := fun h W => by
    have := pow_any 2 (lg a : Int) W (by omega)
    rw [(pow_two a ha h).1, (pow_two a ha h).2] at this
    exact this
  have Hl : Hid (a ≠ 0 → lg a < 255) := fun h => lg_lt ha h
  rw [gm_comm hb ha] at C2
  rw [gm_assoc ha hb hc] at C4
  rw [gm_xor_right] at C8
  generalize gm (gm a b) c = r at *
  generalize gm a b = p at *
  generalize gm b c = q at *
  generalize gm a c = u at *
  generalize p ^^^ u = t at *
  generalize b ^^^ c = s at *
  generalize lg a = g at *
  clear ha hb hc
  go_enter Try.func6, Try.ntmps6
  go_wp2_with fail
  refine Hk.out.mono ?_
  rintro e w1 ⟨rfl, hb1⟩
  have Hb1 := Lib.hid hb1
  clear hb1
  go_wp2_with fail
  refine (C1.out _).mono ?_
  rintro e w2 ⟨rfl, rfl⟩
  go_wp2_with fail
  refine (C2.out _).mono ?_
  rintro e w2 ⟨rfl, rfl⟩
  go_wp2_with fail
  refine (C3.out _).mono ?_
  rintro e w2 ⟨rfl, rfl⟩
  go_wp2_with fail
  refine (C4.out _).mono ?_
  rintro e w2 ⟨rfl, rfl⟩
  go_wp2_with fail
  refine (C1.out _).mono ?_
  rintro e w2 ⟨rfl, rfl⟩
  go_wp2_with fail
  refine (C6.out _).mono ?_
  rintro e w2 ⟨rfl, rfl⟩
  go_wp2_with fail
  refine (C7.out _).mono ?_
  rintro e w2 ⟨rfl, rfl⟩
  go_wp2_with fail
  refine (C8.out _).mono ?_
  rintro e w2 ⟨rfl, rfl⟩
  go_wp2_with fail
  refine (C1.out _).mono ?_
  rintro e w2 ⟨rfl, rfl⟩
  go_wp2_with fail
  refine (C10.out _).mono ?_
  rintro e w2 ⟨rfl, rfl⟩
  go_wp2_with fail
  refine (C11.out _).mono ?_
  rintro e w2 ⟨rfl, rfl⟩
  go_wp2_with fail
  refine (C12.out _).mono ?_
  rintro e w2 ⟨rfl, rfl⟩
  go_wp2_with fail
  refine (C13.out _).mono ?_
  rintro e w2 ⟨rfl, rfl⟩
  go_wp2_with fail
  refine (C14.out _).mono ?_
  rintro e w2 ⟨rfl, rfl⟩
  by_cases hb0 : b = 0
  · have hbb : ((b : Int) != 0) = false := by simp [hb0]
    clear hb0
    by_cases ha0 : a = 0
    · have haa : ((a : Int) == 0) = true := by simp [ha0]
      clear ha0
      go_wp2_with fail
      go_ret
      exact ⟨rfl, Hb1.out⟩
    · have haa : ((a : Int) == 0) = false := by simp [ha0]
      have D17 := Lib.hid (C17.out ha0)
      have D18 := Lib.hid (C18.out ha0)
      have hg := Hl.out ha0
      have hg' : (g : Int) < 255 := by omega
      clear ha0 hg
      go_wp2_with fail
      refine (D17.out _).mono ?_
      rintro e w2 ⟨rfl, rfl⟩
      go_wp2_with fail
      refine (D18.out _).mono ?_
      rintro e w2 ⟨rfl, rfl⟩
      go_wp2_with fail
      go_ret
      exact ⟨rfl, Hb1.out⟩
  · have hbb : ((b : Int) != 0) = true := by simp [hb0]
    have D16 := Lib.hid (C16.out hb0)
    clear hb0
    go_wp2_with fail
    refine (C1.out _).mono ?_
    rintro e w2 ⟨rfl, rfl⟩
    go_wp2_with fail
    refine (D16.out _).mono ?_
    rintro e w2 ⟨rfl, rfl⟩
    by_cases ha0 : a = 0
    · have haa : ((a : Int) == 0) = true := by simp [ha0]
      clear ha0
      go_wp2_with fail
      go_ret
      exact ⟨rfl, Hb1.out⟩
    · have haa : ((a : Int) == 0) = false := by simp [ha0]
      have D17 := Lib.hid (C17.out ha0)
      have D18 := Lib.hid (C18.out ha0)
      have hg := Hl.out ha0
      have hg' : (g : Int) < 255 := by omega
      clear ha0 hg
      go_wp2_with fail
      refine (D17.out _).mono ?_
      rintro e w2 ⟨rfl, rfl⟩
      go_wp2_with fail
      refine (D18.out _).mono ?_
      rintro e w2 ⟨rfl, rfl⟩
      go_wp2_with fail
      go_ret
      exact ⟨rfl, Hb1.out⟩
end Go.Proofs.Ytbfbjmngcojaoaa
