/-
  Powers, quotients, logarithms, both programs'.
-/
import Derived.Test.YtbfbjmngcojaoaaGf1
namespace Go.Proofs.Ytbfbjmngcojaoaa
open Go.RowKit

set_option maxRecDepth 20000
/-- an exponent, shortened -/
def kOf (n : Int) : Nat := (n % 255).toNat
theorem kOf_lt (n : Int) : kOf n < 255 := by unfold kOf; omega
theorem tmod_255 (n : Int) : n.tmod 255 = n % 255 ∨ n.tmod 255 = n % 255 - 255 ∧ n % 255 ≠ 0 := by
  rw [Int.tmod_eq_emod]
  split
  · left; omega
  · right
    rename_i h
    refine ⟨by simp, fun e => h (.inr ?_)⟩
    exact Int.dvd_of_emod_eq_zero e
theorem kOf_go (n : Int) : (wrap64 (n.tmod 255 + 255)).tmod 255 = (kOf n : Int) := by
  have h := tmod_255 n
  have hk : (kOf n : Int) = n % 255 := by unfold kOf; omega
  have hw : wrap64 (n.tmod 255 + 255) = n.tmod 255 + 255 := by unfold wrap64; omega
  rw [hw, hk, Int.tmod_eq_emod_of_nonneg (by omega)]
  omega
theorem kOf_neg (n : Int) (h0 : n.tmod 255 < 0) : wrap64 (n.tmod 255 + 255) = (kOf n : Int) := by
  have h := tmod_255 n
  have hk : (kOf n : Int) = n % 255 := by unfold kOf; omega
  have hw : wrap64 (n.tmod 255 + 255) = n.tmod 255 + 255 := by unfold wrap64; omega
  rw [hw, hk]
  omega
theorem kOf_pos (n : Int) (h0 : ¬ n.tmod 255 < 0) : n.tmod 255 = (kOf n : Int) := by
  have h := tmod_255 n
  have hk : (kOf n : Int) = n % 255 := by unfold kOf; omega
  rw [hk]
  omega
set_option maxHeartbeats 800000 in
theorem pow_main (a : Nat) (n : Int) (w : World) (ha : a < 256) (h : a ≠ 0 ∨ a = 0 ∧ n = 0) :
    Calls Try.prog 14 #[.int .u8 (a : Int), .int .i64 n] w fun e w' => e = .returned (.tuple #[.int .u8 ((gpow a (kOf n) : Nat) : Int), .int .i64 0]) ∧ w = w' := by
  have Hm : Hid (∀ x y : Nat, x < 256 → y < 256 → Calls Try.prog 19 #[.int .u8 (x : Int), .int .u8 (y : Int)] w fun e w' => e = .returned (.int .u8 ((gm x y : Nat) : Int)) ∧ w = w') := fun x y hx hy => mul_any x y w hx hy
  have Hk := Lib.hid (kOf_go n)
  have Hk2 := Lib.hid (kOf_lt n)
  have Hk3 : Hid (n % 255 = (kOf n : Int)) := by show _ = _; unfold kOf; omega
  have Ha := Lib.hid ha
  obtain ⟨G, hG⟩ : ∃ G, G = gpow a (kOf n) := ⟨_, rfl⟩
  have H1 : Hid (gm 1 (gpow a (kOf n)) = G) := by show _ = _; rw [hG]; exact gm_one (gpow_lt _ ha)
  rw [← hG]
  clear hG
  rcases h with h | ⟨h, h'⟩
  case' inl =>
    have ha0 : ((a : Int) == 0) = false := by simp [h]
    clear h ha
  case' inr =>
    subst h
    have hn1 : ¬ n < 0 := by omega
    have hn2 : ¬ 0 < n := by omega
    clear h' ha
  all_goals
    go_enter Try.func14, Try.ntmps14
    go_wp2_with fail
    go_loop [0, 1, 6] (fun av nv pv => ∃ x m p : Nat, av = .int .u8 (x : Int) ∧ nv = .int .i64 (m : Int) ∧ pv = .int .u8 (p : Int) ∧ x < 256 ∧ m < 255 ∧ p < 256 ∧ Hid (gm p (gpow x m) = G)) (fun _ nv _ => (intOf nv).toNat)
    case atStart => exact ⟨_, kOf n, 1, by first | rfl | exact congrArg (Value.int IntKind.u8) (Int.natCast_zero).symm, by first | rw [Hk.out] | rw [Hk3.out], rfl, Ha.out, Hk2.out, by omega, H1.out⟩
    case round =>
      obtain ⟨x, m, p, rfl, rfl, rfl, hx, hm, hp, hrel⟩ := hrel
      by_cases hm0 : m = 0
      · have Hr := hrel.out
        rw [hm0] at Hr
        have Hr2 : Hid (p = G) := (gm_one_right hp).symm.trans Hr
        have hm0' : ¬ (0 : Int) < (m : Int) := by omega
        clear hm0 Hr
        go_wp2_with fail
        go_ret2
        exact ⟨by rw [Hr2.out]; rfl, rfl⟩
      have hm1 : (0 : Int) < (m : Int) := by omega
      have Hs := Lib.hid (gpow_sq m hx)
      have hb1 := and_one_i64 (b := m) (by omega)
      have Hb : Hid (m / 2 < 255 ∧ m / 2 < m ∧ gm x x < 256 ∧ gm p x < 256 ∧ gpow (gm x x) (m / 2) < 256) := ⟨by omega, by omega, gm_lt _ hx, gm_lt _ hp, gpow_lt _ (gm_lt _ hx)⟩
      by_cases ho : m % 2 = 1
      · rw [ho] at hb1
        have hb1' : bits .and .i64 (m : Int) 1 = 1 := hb1
        have Hr : Hid (gm (gm p x) (gpow (gm x x) (m / 2)) = G) := by
          have := Hs.out
          rw [if_pos ho] at this
          have h2 := hrel.out
          rw [this, gm_assoc hp hx Hb.out.2.2.2.2] at h2
          exact h2
        clear hb1 ho hm0
        go_wp2_with (go_at_call 19; refine (Hm.out _ _ (by assumption) (by assumption)).mono ?_; rintro e w1 ⟨rfl, rfl⟩)
        go_round
        case rel => exact ⟨gm x x, m / 2, gm p x, rfl, by go_num, rfl, Hb.out.2.2.1, Hb.out.1, Hb.out.2.2.2.1, Hr.out⟩
        case measure => (have := Hb.out.2.1; simp [intOf]; omega)
      · have ho' : m % 2 = 0 := by omega
        rw [ho'] at hb1
        have hb1' : bits .and .i64 (m : Int) 1 = 0 := hb1
        have Hr : Hid (gm p (gpow (gm x x) (m / 2)) = G) := by
          have := Hs.out
          rw [if_neg ho, gm_one Hb.out.2.2.2.2] at this
          have h2 := hrel.out
          rw [this] at h2
          exact h2
        clear hb1 ho ho' hm0
        go_wp2_with (go_at_call 19; refine (Hm.out _ _ (by assumption) (by assumption)).mono ?_; rintro e w1 ⟨rfl, rfl⟩)
        go_round
        case rel => exact ⟨gm x x, m / 2, p, rfl, by go_num, rfl, Hb.out.2.2.1, Hb.out.1, hp, Hr.out⟩
        case measure => (have := Hb.out.2.1; simp [intOf]; omega)

def powV (a : Nat) (n : Int) : Nat := if a = 0 then (if n = 0 then 1 else 0) else gpow a (kOf n)
def powE (a : Nat) (n : Int) : Nat := if a = 0 ∧ n < 0 then 1 else 0
theorem powV_lt (a : Nat) (n : Int) (ha : a < 256) : powV a n < 256 := by
  unfold powV
  split
  · split <;> omega
  · exact gpow_lt _ ha
theorem kOf_zero : kOf 0 = 0 := by decide
theorem pow_any (a : Nat) (n : Int) (w : World) (ha : a < 256) :
    Calls Try.prog 14 #[.int .u8 (a : Int), .int .i64 n] w fun e w' => e = .returned (.tuple #[.int .u8 ((powV a n : Nat) : Int), .int .i64 ((powE a n : Nat) : Int)]) ∧ w = w' := by
  by_cases h0 : a = 0
  · by_cases hn : n = 0
    · have := pow_main a n w ha (.inr ⟨h0, hn⟩)
      have e1 : powV a n = gpow a (kOf n) := by unfold powV; rw [if_pos h0, if_pos hn, hn, kOf_zero]; rfl
      have e2 : powE a n = 0 := by unfold powE; rw [if_neg (by omega)]
      rw [e1, e2]
      exact this
    · have e1 : powV a n = 0 := by unfold powV; rw [if_pos h0, if_neg hn]
      rw [e1]
      by_cases hneg : n < 0
      · have e2 : powE a n = 1 := by unfold powE; rw [if_pos ⟨h0, hneg⟩]
        rw [e2]
        subst h0
        clear e1 e2 hn ha
        go_enter Try.func14, Try.ntmps14
        go_wp2_with fail
        go_ret2
        exact ⟨rfl, rfl⟩
      · have e2 : powE a n = 0 := by unfold powE; rw [if_neg (by omega)]
        rw [e2]
        subst h0
        have hpos : 0 < n := by omega
        clear e1 e2 hn hneg ha
        go_enter Try.func14, Try.ntmps14
        go_wp2_with fail
        go_ret2
        exact ⟨rfl, rfl⟩
  · have := pow_main a n w ha (.inl h0)
    have e1 : powV a n = gpow a (kOf n) := by unfold powV; rw [if_neg h0]
    have e2 : powE a n = 0 := by unfold powE; rw [if_neg (by omega)]
    rw [e1, e2]
    exact this
set_option maxHeartbeats 800000 in
theorem rpow_any (a : Nat) (n : Int) (w : World) (ha : a < 256) :
    Calls Try.prog 15 #[.int .u8 (a : Int), .int .i64 n] w fun e w' => e = .returned (.tuple #[.int .u8 ((powV a n : Nat) : Int), .int .i64 ((powE a n : Nat) : Int)]) ∧ w = w' := by
  by_cases h0 : a = 0
  · by_cases hn : n = 0
    · have e1 : powV a n = 1 := by unfold powV; rw [if_pos h0, if_pos hn]
      have e2 : powE a n = 0 := by unfold powE; rw [if_neg (by omega)]
      rw [e1, e2]
      subst h0
      subst hn
      clear e1 e2 ha
      go_enter Try.func15, Try.ntmps15
      go_wp2_with fail
      go_ret2
      exact ⟨rfl, rfl⟩
    · have e1 : powV a n = 0 := by unfold powV; rw [if_pos h0, if_neg hn]
      rw [e1]
      by_cases hneg : n < 0
      · have e2 : powE a n = 1 := by unfold powE; rw [if_pos ⟨h0, hneg⟩]
        rw [e2]
        subst h0
        clear e1 e2 hn ha
        go_enter Try.func15, Try.ntmps15
        go_wp2_with fail
        go_ret2
        exact ⟨rfl, rfl⟩
      · have e2 : powE a n = 0 := by unfold powE; rw [if_neg (by omega)]
        rw [e2]
        subst h0
        have hpos : 0 ≤ n := by omega
        have hnz : (n == 0) = false := by simp [hn]
        clear e1 e2 hn hneg ha
        go_enter Try.func15, Try.ntmps15
        go_wp2_with fail
        go_ret2
        exact ⟨rfl, rfl⟩
  · have e1 : powV a n = gpow a (kOf n) := by unfold powV; rw [if_neg h0]
    have e2 : powE a n = 0 := by unfold powE; rw [if_neg (by omega)]
    rw [e1, e2]
    have ha0 : ((a : Int) == 0) = false := by simp [h0]
    have Hm : Hid (∀ x y : Nat, x < 256 → y < 256 → Calls Try.prog 20 #[.int .u8 (x : Int), .int .u8 (y : Int)] w fun e w' => e = .returned (.int .u8 ((gm x y : Nat) : Int)) ∧ w = w') := fun x y hx hy => rmul_any x y w hx hy
    have Hk1 := Lib.hid (kOf_neg n)
    have Hk2 := Lib.hid (kOf_pos n)
    have hkl := kOf_lt n
    have Ha := Lib.hid ha
    generalize kOf n = K at *
    clear e1 e2 h0
    by_cases hr : n.tmod 255 < 0
    case' pos =>
      have hkk := Hk1.out hr
      have hrd : decide (n.tmod 255 < 0) = true := by simpa using hr
      clear hr
    case' neg => have hkk := Hk2.out hr
    all_goals
      clear Hk1 Hk2
      go_enter Try.func15, Try.ntmps15
      go_wp2_with fail
      try rw [hkk]
      go_loop [7, 8] (fun pv iv => ∃ p i : Nat, pv = .int .u8 (p : Int) ∧ iv = .int .i64 (i : Int) ∧ p < 256 ∧ i ≤ K ∧ Hid (p = gpow a i)) (fun _ iv => K - (intOf iv).toNat)
      case atStart => exact ⟨1, 0, rfl, rfl, by omega, Nat.zero_le _, rfl⟩
      case round =>
        obtain ⟨p, i, rfl, rfl, hp, hi, hrel⟩ := hrel
        by_cases hlt : i < K
        · have Hs : Hid (gm p a = gpow a (i + 1)) := by show _ = _; rw [hrel.out]; rfl
          have hlt' : (i : Int) < (K : Int) := by omega
          have Hp := Lib.hid (gm_lt a hp)
          have Hc := Lib.hid (Hm.out p a hp ha)
          go_wp2_with (go_at_call 20; refine Hc.out.mono ?_; rintro e w1 ⟨rfl, rfl⟩)
          go_round
          case rel => exact ⟨gm p a, i + 1, rfl, by go_num, Hp.out, by omega, Hs.out⟩
          case measure => simp [intOf]; omega
        · obtain rfl : i = K := by omega
          clear hlt
          go_wp2_with fail
          go_ret2
          exact ⟨by rw [hrel.out]; rfl, rfl⟩
theorem rinv_any (a : Nat) (w : World) (ha : a < 256) :
    Calls Try.prog 38 #[.int .u8 (a : Int)] w fun e w' => e = .returned (.int .u8 ((gpow a 254 : Nat) : Int)) ∧ w = w' := by
  have Hm : Hid (∀ x y : Nat, x < 256 → y < 256 → Calls Try.prog 20 #[.int .u8 (x : Int), .int .u8 (y : Int)] w fun e w' => e = .returned (.int .u8 ((gm x y : Nat) : Int)) ∧ w = w') := fun x y hx hy => rmul_any x y w hx hy
  obtain ⟨K, hK⟩ : ∃ K : Nat, K = 254 := ⟨_, rfl⟩
  have HK := Lib.hid hK
  have Ha := Lib.hid ha
  have hK1 : K ≤ 254 := by omega
  rw [← hK]
  clear hK
  go_enter Try.func38, Try.ntmps38
  go_wp2_with fail
  go_loop [3, 4] (fun pv iv => ∃ p i : Nat, pv = .int .u8 (p : Int) ∧ iv = .int .i64 (i : Int) ∧ p < 256 ∧ i ≤ 254 ∧ Hid (p = gpow a i)) (fun _ iv => 254 - (intOf iv).toNat)
  case atStart => exact ⟨1, 0, rfl, rfl, by omega, Nat.zero_le _, rfl⟩
  case round =>
    obtain ⟨p, i, rfl, rfl, hp, hi, hrel⟩ := hrel
    by_cases hlt : i < 254
    · have Hs : Hid (gm p a = gpow a (i + 1)) := by show _ = _; rw [hrel.out]; rfl
      have hlt' : (i : Int) < 254 := by omega
      have Hp := Lib.hid (gm_lt a hp)
      have Hc := Lib.hid (Hm.out p a hp ha)
      go_wp2_with (go_at_call 20; refine Hc.out.mono ?_; rintro e w1 ⟨rfl, rfl⟩)
      go_round
      case rel => exact ⟨gm p a, i + 1, rfl, by go_num, Hp.out, by omega, Hs.out⟩
      case measure => simp [intOf]; omega
    · have Hr : Hid (p = gpow a K) := by show _ = _; rw [HK.out, hrel.out, show i = 254 by omega]
      have hge : ¬ (i : Int) < 254 := by omega
      clear hlt
      go_wp2_with fail
      go_ret
      exact ⟨by rw [Hr.out]; rfl, rfl⟩
def divV (a b : Nat) : Nat := if b = 0 then 0 else gm a (gi b)
def divE (b : Nat) : Nat := if b = 0 then 1 else 0
theorem divV_lt {a : Nat} (b : Nat) (ha : a < 256) : divV a b < 256 := by
  unfold divV
  split
  · omega
  · exact gm_lt _ ha
theorem powV_inv {b : Nat} (hb : b < 256) (h : b ≠ 0) : powV b (-1) = gi b ∧ powE b (-1) = 0 := by
  refine ⟨?_, ?_⟩
  · unfold powV
    rw [if_neg h, show kOf (-1) = 254 by decide, gpow_254 hb h]
  · unfold powE; rw [if_neg (by omega)]
theorem div_any (a b : Nat) (w : World) (ha : a < 256) (hb : b < 256) :
    Calls Try.prog 12 #[.int .u8 (a : Int), .int .u8 (b : Int)] w fun e w' => e = .returned (.tuple #[.int .u8 ((divV a b : Nat) : Int), .int .i64 ((divE b : Nat) : Int)]) ∧ w = w' := by
  have Hp := Lib.hid (pow_any b (-1) w hb)
  by_cases h : b = 0
  · have e1 : divV a b = 0 := by unfold divV; rw [if_pos h]
    have e2 : divE b = 1 := by unfold divE; rw [if_pos h]
    have e3 : powV b (-1) = 0 := by unfold powV; rw [if_pos h]; rfl
    have e4 : powE b (-1) = 1 := by unfold powE; rw [if_pos ⟨h, by omega⟩]
    rw [e3, e4] at Hp
    rw [e1, e2]
    clear e1 e2 e3 e4 h
    go_enter Try.func12, Try.ntmps12
    go_wp2_with (go_at_call 14; refine Hp.out.mono ?_; rintro e w1 ⟨rfl, rfl⟩)
    go_ret2
    exact ⟨rfl, rfl⟩
  · have e1 : divV a b = gm a (gi b) := by unfold divV; rw [if_neg h]
    have e2 : divE b = 0 := by unfold divE; rw [if_neg h]
    obtain ⟨e3, e4⟩ := powV_inv hb h
    rw [e3, e4] at Hp
    rw [e1, e2]
    have Hm := Lib.hid (mul_any a (gi b) w ha (gi_lt b))
    clear e1 e2 e3 e4 h
    go_enter Try.func12, Try.ntmps12
    go_wp2_with (first | (go_at_call 14; refine Hp.out.mono ?_; rintro e w1 ⟨rfl, rfl⟩) | (go_at_call 19; refine Hm.out.mono ?_; rintro e w1 ⟨rfl, rfl⟩))
    go_ret2
    exact ⟨rfl, rfl⟩
theorem rdiv_any (a b : Nat) (w : World) (ha : a < 256) (hb : b < 256) :
    Calls Try.prog 13 #[.int .u8 (a : Int), .int .u8 (b : Int)] w fun e w' => e = .returned (.tuple #[.int .u8 ((divV a b : Nat) : Int), .int .i64 ((divE b : Nat) : Int)]) ∧ w = w' := by
  have Hp := Lib.hid (rinv_any b w hb)
  by_cases h : b = 0
  · have e1 : divV a b = 0 := by unfold divV; rw [if_pos h]
    have e2 : divE b = 1 := by unfold divE; rw [if_pos h]
    have hb0 : ((b : Int) == 0) = true := by simp [h]
    rw [e1, e2]
    clear e1 e2 h
    go_enter Try.func13, Try.ntmps13
    go_wp2_with fail
    go_ret2
    exact ⟨rfl, rfl⟩
  · have e1 : divV a b = gm a (gi b) := by unfold divV; rw [if_neg h]
    have e2 : divE b = 0 := by unfold divE; rw [if_neg h]
    rw [gpow_254 hb h] at Hp
    rw [e1, e2]
    have Hm := Lib.hid (rmul_any a (gi b) w ha (gi_lt b))
    have hb0 : ((b : Int) == 0) = false := by simp [h]
    clear e1 e2 h
    go_enter Try.func13, Try.ntmps13
    go_wp2_with (first | (go_at_call 38; refine Hp.out.mono ?_; rintro e w1 ⟨rfl, rfl⟩) | (go_at_call 20; refine Hm.out.mono ?_; rintro e w1 ⟨rfl, rfl⟩))
    go_ret2
    exact ⟨rfl, rfl⟩
theorem log_any (a : Nat) (w : World) (ha : a < 256) :
    Calls Try.prog 16 #[.int .u8 (a : Int)] w fun e w' => e = .returned (.tuple #[.int .i64 ((lg a : Nat) : Int), .int .i64 ((divE a : Nat) : Int)]) ∧ w = w' := by
  by_cases h : a = 0
  · subst h
    have e1 : lg 0 = 0 := rfl
    have e2 : divE 0 = 1 := rfl
    rw [e1, e2]
    clear e1 e2 ha
    go_enter Try.func16, Try.ntmps16
    go_wp2_with fail
    go_ret2
    exact ⟨rfl, rfl⟩
  · have e2 : divE a = 0 := by unfold divE; rw [if_neg h]
    have hb0 : ((a : Int) == 0) = false := by simp [h]
    have Hx := Lib.hid (ex_lg ha h)
    have hl := lg_lt ha h
    rw [e2]
    have Ht : Hid (∀ x : Nat, x < 256 → Calls Try.prog 39 #[.int .u8 (x : Int)] w fun e w' => e = .returned (.int .u8 ((xt x : Nat) : Int)) ∧ w = w') := fun x hx => twice_any x w hx
    generalize lg a = g at *
    clear e2 h ha
    go_enter Try.func16, Try.ntmps16
    go_wp2_with fail
    go_loop [4, 5] (fun nv pv => ∃ n p : Nat, nv = .int .i64 (n : Int) ∧ pv = .int .u8 (p : Int) ∧ n ≤ g ∧ p < 256 ∧ Hid (p = ex n)) (fun nv _ => g - (intOf nv).toNat)
    case atStart => exact ⟨0, 1, rfl, rfl, Nat.zero_le _, by omega, rfl⟩
    case round =>
      obtain ⟨n, p, rfl, rfl, hn, hp, hrel⟩ := hrel
      by_cases hlt : n = g
      · have hpa : p = a := by rw [hrel.out, hlt, Hx.out]
        have hbb : ((p : Int) != (a : Int)) = false := by simp [hpa]
        have Hlt := Lib.hid hlt
        clear hlt hpa
        go_wp2_with fail
        go_ret2
        exact ⟨by rw [Hlt.out]; rfl, rfl⟩
      · have hpa : p ≠ a := by
          rw [hrel.out, ← Hx.out]
          intro e
          have := ex_inj e
          rw [Nat.mod_eq_of_lt (by omega), Nat.mod_eq_of_lt hl] at this
          exact hlt this
        have hbb : ((p : Int) != (a : Int)) = true := by simp; omega
        have Hc := Lib.hid (Ht.out p hp)
        have Hs : Hid (xt p = ex (n + 1) ∧ xt p < 256) := ⟨by rw [hrel.out]; rfl, xt_lt hp⟩
        have hn' : (n : Int) < 255 := by omega
        clear hpa
        go_wp2_with (go_at_call 39; refine Hc.out.mono ?_; rintro e w1 ⟨rfl, rfl⟩)
        go_round
        case rel => exact ⟨n + 1, xt p, by go_num, rfl, by omega, Hs.out.2, Hs.out.1⟩
        case measure => simp [intOf]; omega
theorem rlog_any (a : Nat) (w : World) (ha : a < 256) :
    Calls Try.prog 17 #[.int .u8 (a : Int)] w fun e w' => e = .returned (.tuple #[.int .i64 ((lg a : Nat) : Int), .int .i64 ((divE a : Nat) : Int)]) ∧ w = w' := by
  by_cases h : a = 0
  · subst h
    have e1 : lg 0 = 0 := rfl
    have e2 : divE 0 = 1 := rfl
    rw [e1, e2]
    clear e1 e2 ha
    go_enter Try.func17, Try.ntmps17
    go_wp2_with fail
    go_ret2
    exact ⟨rfl, rfl⟩
  · have e2 : divE a = 0 := by unfold divE; rw [if_neg h]
    have hb0 : ((a : Int) == 0) = false := by simp [h]
    have Hx := Lib.hid (ex_lg ha h)
    have hl := lg_lt ha h
    rw [e2]
    have Ht : Hid (∀ n : Nat, Calls Try.prog 20 #[.int .u8 ((ex n : Nat) : Int), .int .u8 2] w fun e w' => e = .returned (.int .u8 ((ex (n + 1) : Nat) : Int)) ∧ w = w') := fun n => by
      have := rmul_any (ex n) 2 w (ex_lt n) (by omega)
      rw [show (2 : Nat) = ex 1 from rfl, ex_add] at this
      exact this
    generalize lg a = g at *
    clear e2 h ha
    go_enter Try.func17, Try.ntmps17
    go_wp2_with fail
    go_loop [4, 5] (fun pv nv => ∃ n p : Nat, nv = .int .i64 (n : Int) ∧ pv = .int .u8 (p : Int) ∧ n ≤ g ∧ p < 256 ∧ Hid (p = ex n)) (fun _ nv => g - (intOf nv).toNat)
    case atStart => exact ⟨0, 1, rfl, rfl, Nat.zero_le _, by omega, rfl⟩
    case round =>
      obtain ⟨n, p, rfl, rfl, hn, hp, hrel⟩ := hrel
      by_cases hlt : n = g
      · have hpa : p = a := by rw [hrel.out, hlt, Hx.out]
        have hbb : ((p : Int) != (a : Int)) = false := by simp [hpa]
        have Hlt := Lib.hid hlt
        clear hlt hpa
        go_wp2_with fail
        go_ret2
        exact ⟨by rw [Hlt.out]; rfl, rfl⟩
      · have hpa : p ≠ a := by
          rw [hrel.out, ← Hx.out]
          intro e
          have := ex_inj e
          rw [Nat.mod_eq_of_lt (by omega), Nat.mod_eq_of_lt hl] at this
          exact hlt this
        have hbb : ((p : Int) != (a : Int)) = true := by simp; omega
        have Hc := Lib.hid (Ht.out n)
        rw [← hrel.out] at Hc
        have Hs : Hid (ex (n + 1) < 256) := ex_lt _
        have hn' : (n : Int) < 255 := by omega
        clear hpa
        go_wp2_with (go_at_call 20; refine Hc.out.mono ?_; rintro e w1 ⟨rfl, rfl⟩)
        go_round
        case rel => exact ⟨n + 1, ex (n + 1), by go_num, rfl, by omega, Hs.out, rfl⟩
        case measure => simp [intOf]; omega
end Go.Proofs.Ytbfbjmngcojaoaa
