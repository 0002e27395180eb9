/-
  The field of 256 as plain numbers. Imports nothing of the program.
-/
import Derived.Laws.BitsAllLaws
namespace Go.Proofs.YtlficcdbnmheeaaDoor

theorem gxor_half (a b : Nat) : (a ^^^ b) / 2 = a / 2 ^^^ b / 2 := by
  have := Nat.shiftRight_xor_distrib (a := a) (b := b) (i := 1)
  simpa [Nat.shiftRight_eq_div_pow] using this
theorem gxor_odd (a b : Nat) : (a ^^^ b) % 2 = (a % 2 + b % 2) % 2 := by
  have := Nat.xor_mod_two_eq_one (a := a) (b := b)
  by_cases h : (a ^^^ b) % 2 = 1
  · have := this.1 h; omega
  · have h' : ¬ (¬ (a % 2 = 1 ↔ b % 2 = 1)) := fun hh => h (this.2 hh)
    omega
theorem gxor_lt {a b : Nat} (ha : a < 256) (hb : b < 256) : a ^^^ b < 256 := Nat.xor_lt_two_pow (n := 8) ha hb
/-- 2 times a -/
def xt (a : Nat) : Nat := a * 2 % 256 ^^^ a / 128 * 29
theorem xt_lt {a : Nat} (ha : a < 256) : xt a < 256 := gxor_lt (by omega) (by omega)
theorem xt_xor {a b : Nat} (ha : a < 256) (hb : b < 256) : xt (a ^^^ b) = xt a ^^^ xt b := by
  have e1 : (a ^^^ b) * 2 % 256 = a * 2 % 256 ^^^ b * 2 % 256 := by
    have h1 : (a ^^^ b) * 2 = a * 2 ^^^ b * 2 := by
      have := Nat.shiftLeft_xor_distrib (a := a) (b := b) (i := 1)
      simpa [Nat.shiftLeft_eq] using this
    rw [h1]
    exact Nat.xor_mod_two_pow (n := 8)
  have e2 : (a ^^^ b) / 128 = a / 128 ^^^ b / 128 := by
    have := Nat.shiftRight_xor_distrib (a := a) (b := b) (i := 7)
    simpa [Nat.shiftRight_eq_div_pow] using this
  have e3 : ∀ x y : Nat, x ≤ 1 → y ≤ 1 → (x ^^^ y) * 29 = x * 29 ^^^ y * 29 := by
    intro x y hx hy
    have q1 : x = 0 ∨ x = 1 := by omega
    have q2 : y = 0 ∨ y = 1 := by omega
    rcases q1 with rfl | rfl <;> rcases q2 with rfl | rfl <;> decide
  unfold xt
  rw [e1, e2, e3 _ _ (by omega) (by omega)]
  generalize a * 2 % 256 = p
  generalize b * 2 % 256 = q
  generalize a / 128 * 29 = r
  generalize b / 128 * 29 = s
  rw [Nat.xor_assoc, Nat.xor_assoc, ← Nat.xor_assoc q r s, Nat.xor_comm q r, Nat.xor_assoc r q s]
theorem xt_zero : xt 0 = 0 := by decide
def gms : Nat → Nat → Nat → Nat
  | 0, _, _ => 0
  | n + 1, a, b => (if b % 2 = 1 then a else 0) ^^^ gms n (xt a) (b / 2)
/-- THE PRODUCT -/
def gm (a b : Nat) : Nat := gms 8 a b
theorem gms_lt (n : Nat) : ∀ a b, a < 256 → gms n a b < 256 := by
  induction n with
  | zero => intro a b _; show 0 < 256; omega
  | succ n ih =>
    intro a b ha
    refine gxor_lt ?_ (ih _ _ (xt_lt ha))
    split <;> omega
theorem gm_lt {a : Nat} (b : Nat) (ha : a < 256) : gm a b < 256 := gms_lt 8 a b ha
theorem gms_zero (n : Nat) : ∀ a, gms n a 0 = 0 := by
  induction n with
  | zero => intro a; rfl
  | succ n ih => intro a; show (if 0 % 2 = 1 then a else 0) ^^^ gms n (xt a) (0 / 2) = 0; rw [ih]; simp
theorem gms_zero' (n : Nat) : ∀ b, gms n 0 b = 0 := by
  induction n with
  | zero => intro b; rfl
  | succ n ih => intro b; show (if b % 2 = 1 then 0 else 0) ^^^ gms n (xt 0) (b / 2) = 0; rw [xt_zero, ih]; simp
theorem gms_more (n : Nat) : ∀ a b, b < 2 ^ n → gms (n + 1) a b = gms n a b := by
  induction n with
  | zero =>
    intro a b hb
    obtain rfl : b = 0 := by omega
    rw [gms_zero]; rfl
  | succ n ih =>
    intro a b hb
    show (if b % 2 = 1 then a else 0) ^^^ gms (n + 1) (xt a) (b / 2) = (if b % 2 = 1 then a else 0) ^^^ gms n (xt a) (b / 2)
    rw [ih _ _ (by rw [Nat.pow_succ] at hb; omega)]
/-- a turn of the loop -/
theorem gm_turn (a b : Nat) (hb : b < 256) : gm a b = (if b % 2 = 1 then a else 0) ^^^ gm (xt a) (b / 2) := by
  show _ ^^^ gms 7 (xt a) (b / 2) = _ ^^^ gms 8 (xt a) (b / 2)
  rw [gms_more 7 (xt a) (b / 2) (by show _ < 128; omega)]
theorem gm_zero (a : Nat) : gm a 0 = 0 := gms_zero 8 a
theorem gm_zero' (b : Nat) : gm 0 b = 0 := gms_zero' 8 b
theorem gms_xor_left (n : Nat) : ∀ a c b, a < 256 → c < 256 → gms n (a ^^^ c) b = gms n a b ^^^ gms n c b := by
  induction n with
  | zero => intro a c b _ _; simp [gms]
  | succ n ih =>
    intro a c b ha hc
    show (if b % 2 = 1 then a ^^^ c else 0) ^^^ gms n (xt (a ^^^ c)) (b / 2) = ((if b % 2 = 1 then a else 0) ^^^ gms n (xt a) (b / 2)) ^^^ ((if b % 2 = 1 then c else 0) ^^^ gms n (xt c) (b / 2))
    rw [xt_xor ha hc, ih _ _ _ (xt_lt ha) (xt_lt hc)]
    generalize gms n (xt a) (b / 2) = p
    generalize gms n (xt c) (b / 2) = q
    by_cases h : b % 2 = 1
    · simp only [h, if_true]
      rw [Nat.xor_assoc, Nat.xor_assoc, ← Nat.xor_assoc p c q, Nat.xor_comm p c, Nat.xor_assoc c p q]
    · simp [h]
theorem gms_xor_right (n : Nat) : ∀ a b c, gms n a (b ^^^ c) = gms n a b ^^^ gms n a c := by
  induction n with
  | zero => intro a b c; simp [gms]
  | succ n ih =>
    intro a b c
    show (if (b ^^^ c) % 2 = 1 then a else 0) ^^^ gms n (xt a) ((b ^^^ c) / 2) = ((if b % 2 = 1 then a else 0) ^^^ gms n (xt a) (b / 2)) ^^^ ((if c % 2 = 1 then a else 0) ^^^ gms n (xt a) (c / 2))
    rw [gxor_odd, gxor_half, ih]
    generalize gms n (xt a) (b / 2) = p
    generalize gms n (xt a) (c / 2) = q
    rcases Nat.mod_two_eq_zero_or_one b with hb | hb <;> rcases Nat.mod_two_eq_zero_or_one c with hc | hc <;> simp [hb, hc]
    · rw [← Nat.xor_assoc, ← Nat.xor_assoc, Nat.xor_comm a p]
    · rw [Nat.xor_assoc]
    · rw [Nat.xor_assoc, ← Nat.xor_assoc p a q, Nat.xor_comm p a, Nat.xor_assoc a p q, ← Nat.xor_assoc a a, Nat.xor_self, Nat.zero_xor]
theorem gm_xor_left {a c : Nat} (b : Nat) (ha : a < 256) (hc : c < 256) : gm (a ^^^ c) b = gm a b ^^^ gm c b := gms_xor_left 8 a c b ha hc
theorem gm_xor_right (a b c : Nat) : gm a (b ^^^ c) = gm a b ^^^ gm a c := gms_xor_right 8 a b c
theorem gms_xt (n : Nat) : ∀ a b, a < 256 → gms n (xt a) b = xt (gms n a b) := by
  induction n with
  | zero => intro a b _; exact xt_zero.symm
  | succ n ih =>
    intro a b ha
    show (if b % 2 = 1 then xt a else 0) ^^^ gms n (xt (xt a)) (b / 2) = xt ((if b % 2 = 1 then a else 0) ^^^ gms n (xt a) (b / 2))
    rw [ih _ _ (xt_lt ha), xt_xor (by split <;> omega) (gms_lt n _ _ (xt_lt ha))]
    by_cases h : b % 2 = 1
    · simp only [h, if_true]
    · simp only [h, if_false, xt_zero]
theorem gm_xt {a : Nat} (b : Nat) (ha : a < 256) : gm (xt a) b = xt (gm a b) := gms_xt 8 a b ha
theorem gm_one' : ∀ b : Fin 256, gm 1 b.val = b.val := by decide +kernel
theorem gm_one {b : Nat} (hb : b < 256) : gm 1 b = b := gm_one' ⟨b, hb⟩

/-- powers of 2 -/
def ex : Nat → Nat
  | 0 => 1
  | n + 1 => xt (ex n)
theorem ex_lt (n : Nat) : ex n < 256 := by
  induction n with
  | zero => show 1 < 256; omega
  | succ n ih => exact xt_lt ih
theorem gm_ex (i : Nat) : ∀ b, b < 256 → ∃ c, gm (ex i) b = c ∧ c < 256 ∧ (∀ j, b = ex j → c = ex (i + j)) := by
  induction i with
  | zero =>
    intro b hb
    exact ⟨b, gm_one hb, hb, fun j hj => by rw [hj, Nat.zero_add]⟩
  | succ i ih =>
    intro b hb
    obtain ⟨c, h1, h2, h3⟩ := ih b hb
    refine ⟨xt c, ?_, xt_lt h2, fun j hj => ?_⟩
    · show gm (xt (ex i)) b = _
      rw [gm_xt _ (ex_lt i), h1]
    · rw [h3 j hj, show i + 1 + j = i + j + 1 by omega]; rfl
theorem ex_add (i j : Nat) : gm (ex i) (ex j) = ex (i + j) := by
  obtain ⟨c, h1, _, h3⟩ := gm_ex i (ex j) (ex_lt j)
  rw [h1, h3 j rfl]
def exT : List Nat := [1, 2, 4, 8, 16, 32, 64, 128, 29, 58, 116, 232, 205, 135, 19, 38, 76, 152, 45, 90, 180, 117, 234, 201, 143, 3, 6, 12, 24, 48, 96, 192, 157, 39, 78, 156, 37, 74, 148, 53, 106, 212, 181, 119, 238, 193, 159, 35, 70, 140, 5, 10, 20, 40, 80, 160, 93, 186, 105, 210, 185, 111, 222, 161, 95, 190, 97, 194, 153, 47, 94, 188, 101, 202, 137, 15, 30, 60, 120, 240, 253, 231, 211, 187, 107, 214, 177, 127, 254, 225, 223, 163, 91, 182, 113, 226, 217, 175, 67, 134, 17, 34, 68, 136, 13, 26, 52, 104, 208, 189, 103, 206, 129, 31, 62, 124, 248, 237, 199, 147, 59, 118, 236, 197, 151, 51, 102, 204, 133, 23, 46, 92, 184, 109, 218, 169, 79, 158, 33, 66, 132, 21, 42, 84, 168, 77, 154, 41, 82, 164, 85, 170, 73, 146, 57, 114, 228, 213, 183, 115, 230, 209, 191, 99, 198, 145, 63, 126, 252, 229, 215, 179, 123, 246, 241, 255, 227, 219, 171, 75, 150, 49, 98, 196, 149, 55, 110, 220, 165, 87, 174, 65, 130, 25, 50, 100, 200, 141, 7, 14, 28, 56, 112, 224, 221, 167, 83, 166, 81, 162, 89, 178, 121, 242, 249, 239, 195, 155, 43, 86, 172, 69, 138, 9, 18, 36, 72, 144, 61, 122, 244, 245, 247, 243, 251, 235, 203, 139, 11, 22, 44, 88, 176, 125, 250, 233, 207, 131, 27, 54, 108, 216, 173, 71, 142]
def lgT : List Nat := [0, 0, 1, 25, 2, 50, 26, 198, 3, 223, 51, 238, 27, 104, 199, 75, 4, 100, 224, 14, 52, 141, 239, 129, 28, 193, 105, 248, 200, 8, 76, 113, 5, 138, 101, 47, 225, 36, 15, 33, 53, 147, 142, 218, 240, 18, 130, 69, 29, 181, 194, 125, 106, 39, 249, 185, 201, 154, 9, 120, 77, 228, 114, 166, 6, 191, 139, 98, 102, 221, 48, 253, 226, 152, 37, 179, 16, 145, 34, 136, 54, 208, 148, 206, 143, 150, 219, 189, 241, 210, 19, 92, 131, 56, 70, 64, 30, 66, 182, 163, 195, 72, 126, 110, 107, 58, 40, 84, 250, 133, 186, 61, 202, 94, 155, 159, 10, 21, 121, 43, 78, 212, 229, 172, 115, 243, 167, 87, 7, 112, 192, 247, 140, 128, 99, 13, 103, 74, 222, 237, 49, 197, 254, 24, 227, 165, 153, 119, 38, 184, 180, 124, 17, 68, 146, 217, 35, 32, 137, 46, 55, 63, 209, 91, 149, 188, 207, 205, 144, 135, 151, 178, 220, 252, 190, 97, 242, 86, 211, 171, 20, 42, 93, 158, 132, 60, 57, 83, 71, 109, 65, 162, 31, 45, 67, 216, 183, 123, 164, 118, 196, 23, 73, 236, 127, 12, 111, 246, 108, 161, 59, 82, 41, 157, 85, 170, 251, 96, 134, 177, 187, 204, 62, 90, 203, 89, 95, 176, 156, 169, 160, 81, 11, 245, 22, 235, 122, 117, 44, 215, 79, 174, 213, 233, 230, 231, 173, 232, 116, 214, 244, 234, 168, 80, 88, 175]
theorem exT_step : ∀ i : Fin 254, exT.getD (i.val + 1) 0 = xt (exT.getD i.val 0) := by decide +kernel
theorem ex_tab (i : Nat) : i < 255 → ex i = exT.getD i 0 := by
  induction i with
  | zero => intro _; rfl
  | succ i ih =>
    intro h
    rw [exT_step ⟨i, by omega⟩]
    show xt (ex i) = _
    rw [ih (by omega)]
theorem lg_ex' : ∀ i : Fin 255, lgT.getD (exT.getD i.val 0) 0 = i.val ∧ exT.getD i.val 0 ≠ 0 := by decide +kernel
theorem ex_lg' : ∀ a : Fin 256, a.val ≠ 0 → lgT.getD a.val 0 < 255 ∧ exT.getD (lgT.getD a.val 0) 0 = a.val := by decide +kernel
/-- the logarithm -/
def lg (a : Nat) : Nat := lgT.getD a 0
theorem lg_lt {a : Nat} (ha : a < 256) (h0 : a ≠ 0) : lg a < 255 := (ex_lg' ⟨a, ha⟩ h0).1
theorem ex_lg {a : Nat} (ha : a < 256) (h0 : a ≠ 0) : ex (lg a) = a := by
  have h := ex_lg' ⟨a, ha⟩ h0
  unfold lg
  rw [ex_tab _ h.1]
  exact h.2
theorem lg_ex {i : Nat} (hi : i < 255) : lg (ex i) = i := by
  rw [ex_tab i hi]
  exact (lg_ex' ⟨i, hi⟩).1
theorem ex_255 : ex 255 = 1 := by
  show xt (ex 254) = 1
  rw [ex_tab 254 (by omega)]
  decide +kernel
theorem ex_per (i : Nat) : ex (i + 255) = ex i := by
  induction i with
  | zero => rw [Nat.zero_add, ex_255]; rfl
  | succ i ih =>
    rw [show i + 1 + 255 = i + 255 + 1 by omega]
    show xt (ex (i + 255)) = xt (ex i)
    rw [ih]
theorem ex_mod (i : Nat) : ex i = ex (i % 255) := by
  induction i using Nat.strongRecOn with
  | _ i ih =>
    by_cases h : i < 255
    · rw [Nat.mod_eq_of_lt h]
    · obtain ⟨j, rfl⟩ : ∃ j, i = j + 255 := ⟨i - 255, by omega⟩
      rw [ex_per, ih j (by omega), Nat.add_mod_right]
theorem ex_ne (i : Nat) : ex i ≠ 0 := by
  rw [ex_mod, ex_tab _ (Nat.mod_lt _ (by omega))]
  exact (lg_ex' ⟨i % 255, Nat.mod_lt _ (by omega)⟩).2
theorem ex_inj {i j : Nat} (h : ex i = ex j) : i % 255 = j % 255 := by
  rw [ex_mod i, ex_mod j] at h
  have := congrArg lg h
  rwa [lg_ex (Nat.mod_lt _ (by omega)), lg_ex (Nat.mod_lt _ (by omega))] at this
theorem lg_ex_mod (i : Nat) : lg (ex i) = i % 255 := by rw [ex_mod, lg_ex (Nat.mod_lt _ (by omega))]

theorem gm_comm {a b : Nat} (ha : a < 256) (hb : b < 256) : gm a b = gm b a := by
  by_cases h1 : a = 0
  · rw [h1, gm_zero, gm_zero']
  · by_cases h2 : b = 0
    · rw [h2, gm_zero, gm_zero']
    · rw [← ex_lg ha h1, ← ex_lg hb h2, ex_add, ex_add, Nat.add_comm]
theorem gm_assoc {a b c : Nat} (ha : a < 256) (hb : b < 256) (hc : c < 256) : gm a (gm b c) = gm (gm a b) c := by
  by_cases h1 : a = 0
  · rw [h1, gm_zero', gm_zero', gm_zero']
  · by_cases h2 : b = 0
    · rw [h2, gm_zero', gm_zero, gm_zero']
    · by_cases h3 : c = 0
      · rw [h3, gm_zero, gm_zero, gm_zero]
      · rw [← ex_lg ha h1, ← ex_lg hb h2, ← ex_lg hc h3, ex_add, ex_add, ex_add, ex_add, Nat.add_assoc]
theorem gm_ne {a b : Nat} (ha : a < 256) (hb : b < 256) (h1 : a ≠ 0) (h2 : b ≠ 0) : gm a b ≠ 0 := by
  rw [← ex_lg ha h1, ← ex_lg hb h2, ex_add]
  exact ex_ne _
theorem gm_one_right {a : Nat} (ha : a < 256) : gm a 1 = a := by rw [gm_comm ha (by omega), gm_one ha]
/-- the inverse -/
def gi (a : Nat) : Nat := ex (255 - lg a)
theorem gi_lt (a : Nat) : gi a < 256 := ex_lt _
theorem gm_gi {a : Nat} (ha : a < 256) (h0 : a ≠ 0) : gm a (gi a) = 1 := by
  unfold gi
  have h := lg_lt ha h0
  have : gm (ex (lg a)) (ex (255 - lg a)) = 1 := by
    rw [ex_add, show lg a + (255 - lg a) = 255 by omega, ex_255]
  rwa [ex_lg ha h0] at this
/-- a, multiplied so often -/
def gpow (a : Nat) : Nat → Nat
  | 0 => 1
  | n + 1 => gm (gpow a n) a
theorem gpow_lt {a : Nat} (n : Nat) (_ha : a < 256) : gpow a n < 256 := by
  induction n with
  | zero => show 1 < 256; omega
  | succ n ih => exact gm_lt _ ih
theorem gpow_ex (i n : Nat) : gpow (ex i) n = ex (i * n) := by
  induction n with
  | zero => rfl
  | succ n ih =>
    show gm (gpow (ex i) n) (ex i) = _
    rw [ih, ex_add, Nat.mul_succ]
theorem gpow_zero (n : Nat) (hn : 0 < n) : gpow 0 n = 0 := by
  obtain ⟨m, rfl⟩ : ∃ m, n = m + 1 := ⟨n - 1, by omega⟩
  show gm _ 0 = 0
  exact gm_zero _
theorem gpow_254 {a : Nat} (ha : a < 256) (h0 : a ≠ 0) : gpow a 254 = gi a := by
  have h := lg_lt ha h0
  have e : gpow (ex (lg a)) 254 = gi a := by
    rw [gpow_ex]
    unfold gi
    rw [ex_mod (lg a * 254), ex_mod (255 - lg a)]
    congr 1
    omega
  rwa [ex_lg ha h0] at e
/-- by squaring -/
theorem gpow_sq {a : Nat} (n : Nat) (ha : a < 256) : gpow a n = gm (if n % 2 = 1 then a else 1) (gpow (gm a a) (n / 2)) := by
  by_cases h0 : a = 0
  · subst h0
    by_cases hn : n = 0
    · subst hn
      show 1 = gm 1 1
      decide
    · rw [gpow_zero n (by omega)]
      by_cases h1 : n % 2 = 1
      · rw [if_pos h1, gm_zero']
      · rw [gm_zero, gpow_zero (n / 2) (by omega), gm_zero]
  · have e := ex_lg ha h0
    generalize lg a = i at e
    subst e
    rw [ex_add, gpow_ex, gpow_ex]
    by_cases h1 : n % 2 = 1
    · rw [if_pos h1, ex_add]
      congr 1
      obtain ⟨m, rfl⟩ : ∃ m, n = 2 * m + 1 := ⟨n / 2, by omega⟩
      rw [show (2 * m + 1) / 2 = m by omega, Nat.mul_add, Nat.mul_one, ← Nat.mul_assoc, Nat.mul_two, Nat.add_comm]
    · rw [if_neg h1, gm_one (ex_lt _)]
      congr 1
      obtain ⟨m, rfl⟩ : ∃ m, n = 2 * m := ⟨n / 2, by omega⟩
      rw [show (2 * m) / 2 = m by omega, ← Nat.mul_assoc, Nat.mul_two]
end Go.Proofs.YtlficcdbnmheeaaDoor

/-
  The checksum as plain numbers: a bit at a time, and half a byte at a time by a table: both are one. Imports nothing of the program.
-/
namespace Go.Proofs.YtlficcdbnmheeaaDoor

def polyN : Nat := 2197175160
/-- one bit of the remainder -/
def bitStep (c : Nat) : Nat := if c % 2 = 1 then c / 2 ^^^ polyN else c / 2
/-- the remainders of the sixteen half bytes -/
def halfOf (r : Nat) : Nat := [0, 274646895, 549293790, 820201905, 1098587580, 1361435347, 1640403810, 1905808397, 2197175160, 2460548119, 2722870694, 2987750089, 3280807620, 3553878443, 3811616794, 4084100981].getD r 0
def halfStep (c : Nat) : Nat := c / 16 ^^^ halfOf (c % 16)
/-- so many bits -/
def bitSteps : Nat → Nat → Nat
  | 0, c => c
  | n + 1, c => bitSteps n (bitStep c)
theorem bitSteps_succ' (n c : Nat) : bitSteps (n + 1) c = bitStep (bitSteps n c) := by
  induction n generalizing c with
  | zero => rfl
  | succ n ih => rw [bitSteps, ih]; rfl

theorem xor_half (a b : Nat) : (a ^^^ b) / 2 = a / 2 ^^^ b / 2 := by
  have := Nat.shiftRight_xor_distrib (a := a) (b := b) (i := 1)
  simpa [Nat.shiftRight_eq_div_pow] using this
theorem xor_odd (a b : Nat) : (a ^^^ b) % 2 = (a % 2 + b % 2) % 2 := by
  have := Nat.xor_mod_two_eq_one (a := a) (b := b)
  by_cases h : (a ^^^ b) % 2 = 1
  · have := this.1 h; omega
  · have h' : ¬ (¬ (a % 2 = 1 ↔ b % 2 = 1)) := fun hh => h (this.2 hh)
    omega
theorem bitStep_xor (a b : Nat) : bitStep (a ^^^ b) = bitStep a ^^^ bitStep b := by
  unfold bitStep
  rw [xor_odd, xor_half]
  rcases Nat.mod_two_eq_zero_or_one a with ha | ha <;> rcases Nat.mod_two_eq_zero_or_one b with hb | hb <;> simp [ha, hb]
  · rw [Nat.xor_assoc]
  · rw [Nat.xor_assoc, Nat.xor_comm (b / 2), ← Nat.xor_assoc]
  · rw [Nat.xor_assoc, ← Nat.xor_assoc polyN, Nat.xor_comm polyN, Nat.xor_assoc (b / 2), Nat.xor_self, Nat.xor_zero]
theorem bitSteps_xor (n a b : Nat) : bitSteps n (a ^^^ b) = bitSteps n a ^^^ bitSteps n b := by
  induction n generalizing a b with
  | zero => rfl
  | succ n ih => rw [bitSteps, bitStep_xor, ih]; rfl
theorem split16 (c : Nat) : c = (16 * (c / 16)) ^^^ (c % 16) := by
  have h1 : 16 * (c / 16) = (c / 16) <<< 4 := by rw [Nat.shiftLeft_eq]; omega
  have h2 : (c / 16) <<< 4 ||| c % 16 = (c / 16) <<< 4 + c % 16 := (Nat.shiftLeft_add_eq_or_of_lt (by omega) _).symm
  have h3 : ((c / 16) <<< 4) &&& (c % 16) = 0 := by
    apply Nat.eq_of_testBit_eq
    intro i
    rw [Nat.testBit_and, Nat.testBit_shiftLeft, Nat.zero_testBit]
    by_cases hi : 4 ≤ i
    · have : (c % 16).testBit i = false := Nat.testBit_lt_two_pow (Nat.lt_of_lt_of_le (Nat.mod_lt _ (by omega)) (Nat.pow_le_pow_right (n := 2) (by omega) hi))
      rw [this, Bool.and_false]
    · simp [hi]
  have h4 : ((c / 16) <<< 4) ^^^ (c % 16) = ((c / 16) <<< 4) ||| (c % 16) := by
    apply Nat.eq_of_testBit_eq
    intro i
    have := congrArg (fun x => x.testBit i) h3
    simp only [Nat.testBit_and, Nat.zero_testBit] at this
    rw [Nat.testBit_xor, Nat.testBit_or]
    revert this
    cases ((c / 16) <<< 4).testBit i <;> cases (c % 16).testBit i <;> simp
  rw [h1, h4, h2, Nat.shiftLeft_eq]
  omega
theorem bitStep_even (q : Nat) : bitStep (2 * q) = q := by
  unfold bitStep
  rw [if_neg (by omega)]
  omega
theorem bitSteps_16 (q : Nat) : bitSteps 4 (16 * q) = q := by
  show bitStep (bitStep (bitStep (bitStep (16 * q)))) = q
  rw [show 16 * q = 2 * (2 * (2 * (2 * q))) from by omega, bitStep_even, bitStep_even, bitStep_even, bitStep_even]
theorem bitSteps_half : ∀ r : Fin 16, bitSteps 4 r.val = halfOf r.val := by decide +kernel
theorem halfStep_bits (c : Nat) : halfStep c = bitSteps 4 c := by
  conv => rhs; rw [split16 c]
  rw [bitSteps_xor, bitSteps_16, bitSteps_half ⟨c % 16, by omega⟩]
  rfl

/-- a byte of the remainder: by the table, and bit by bit -/
def crcByte (c x : Nat) : Nat := halfStep (halfStep (c ^^^ x))
theorem crcByte_bits (c x : Nat) : crcByte c x = bitSteps 8 (c ^^^ x) := by
  unfold crcByte
  rw [halfStep_bits, halfStep_bits]
  rfl
/-- of bytes: the remainder, from c on -/
def crcFrom (c : Nat) (l : List UInt8) : Nat := l.foldl (fun c x => crcByte c x.toNat) c
theorem crcFrom_append (c : Nat) (l r : List UInt8) : crcFrom c (l ++ r) = crcFrom (crcFrom c l) r := by simp [crcFrom]
/-- THE SUM -/
def sumOf (l : List UInt8) : Nat := 4294967295 - crcFrom 4294967295 l

theorem lt32_half (c : Nat) (h : c < 4294967296) : halfStep c < 4294967296 := by
  have h1 : ∀ r : Fin 16, halfOf r.val < 4294967296 := by decide +kernel
  have h2 := h1 ⟨c % 16, by omega⟩
  exact Nat.xor_lt_two_pow (n := 32) (by omega) h2
theorem lt32_byte (c x : Nat) (h : c < 4294967296) (hx : x < 256) : crcByte c x < 4294967296 :=
  lt32_half _ (lt32_half _ (Nat.xor_lt_two_pow (n := 32) h (by omega)))
theorem lt32_from (l : List UInt8) : ∀ c, c < 4294967296 → crcFrom c l < 4294967296 := by
  induction l with
  | nil => intro c h; exact h
  | cons x l ih => intro c h; exact ih _ (lt32_byte _ _ h (by have := x.toNat_lt; omega))
theorem sumOf_lt (l : List UInt8) : sumOf l < 4294967296 := by unfold sumOf; omega

/-! a change is found -/
theorem bitStep_pos (d : Nat) (h0 : d ≠ 0) (h : d < 4294967296) : bitStep d ≠ 0 ∧ bitStep d < 4294967296 := by
  unfold bitStep
  have hp : polyN < 2 ^ 32 := by decide
  by_cases ho : d % 2 = 1
  · rw [if_pos ho]
    refine ⟨fun e => ?_, Nat.xor_lt_two_pow (n := 32) (by omega) hp⟩
    have : d / 2 = polyN := by
      have := congrArg (· ^^^ polyN) e
      simpa [Nat.xor_assoc] using this
    unfold polyN at this
    omega
  · rw [if_neg ho]
    omega
theorem bitSteps_pos (n : Nat) : ∀ d, d ≠ 0 → d < 4294967296 → bitSteps n d ≠ 0 := by
  induction n with
  | zero => intro d h _; exact h
  | succ n ih => intro d h h'; exact ih _ (bitStep_pos d h h').1 (bitStep_pos d h h').2
theorem xor_ne {a b : Nat} (h : a ≠ b) : a ^^^ b ≠ 0 := fun e => h (by
  have := congrArg (· ^^^ b) e
  simpa [Nat.xor_assoc] using this)
theorem ne_of_xor {a b : Nat} (h : a ^^^ b ≠ 0) : a ≠ b := fun e => h (by rw [e, Nat.xor_self])
theorem crcByte_ne (a b x y : Nat) (ha : a < 4294967296) (hb : b < 4294967296) (hx : x < 256) (hy : y < 256) (h : a ^^^ x ≠ b ^^^ y) : crcByte a x ≠ crcByte b y := by
  rw [crcByte_bits, crcByte_bits]
  apply ne_of_xor
  rw [← bitSteps_xor]
  exact bitSteps_pos 8 _ (xor_ne h) (Nat.xor_lt_two_pow (n := 32) (Nat.xor_lt_two_pow (n := 32) ha (by omega)) (Nat.xor_lt_two_pow (n := 32) hb (by omega)))
theorem xor_right_ne {a b : Nat} (x : Nat) (h : a ≠ b) : a ^^^ x ≠ b ^^^ x := fun e => h (by
  have := congrArg (· ^^^ x) e
  simpa [Nat.xor_assoc] using this)
theorem xor_left_ne {x y : Nat} (a : Nat) (h : x ≠ y) : a ^^^ x ≠ a ^^^ y := by
  rw [Nat.xor_comm a x, Nat.xor_comm a y]
  exact xor_right_ne a h
theorem crcFrom_ne (l : List UInt8) : ∀ a b, a < 4294967296 → b < 4294967296 → a ≠ b → crcFrom a l ≠ crcFrom b l := by
  induction l with
  | nil => intro a b _ _ h; exact h
  | cons x l ih =>
    intro a b ha hb h
    have hx : x.toNat < 256 := by have := x.toNat_lt; omega
    exact ih _ _ (lt32_byte _ _ ha hx) (lt32_byte _ _ hb hx) (crcByte_ne _ _ _ _ ha hb hx hx (xor_right_ne _ h))
/-- one byte that is another one makes another sum -/
theorem sumOf_ne (l r : List UInt8) (x y : UInt8) (h : x ≠ y) : sumOf (l ++ x :: r) ≠ sumOf (l ++ y :: r) := by
  have hx : x.toNat < 256 := by have := x.toNat_lt; omega
  have hy : y.toNat < 256 := by have := y.toNat_lt; omega
  have hc := lt32_from l 4294967295 (by omega)
  have hne : x.toNat ≠ y.toNat := fun e => h (UInt8.toNat_inj.1 e)
  have h1 := crcFrom_ne r _ _ (lt32_byte _ _ hc hx) (lt32_byte _ _ hc hy) (crcByte_ne _ _ _ _ hc hc hx hy (xor_left_ne _ hne))
  have e1 : crcFrom 4294967295 (l ++ x :: r) = crcFrom (crcByte (crcFrom 4294967295 l) x.toNat) r := by rw [crcFrom_append]; rfl
  have e2 : crcFrom 4294967295 (l ++ y :: r) = crcFrom (crcByte (crcFrom 4294967295 l) y.toNat) r := by rw [crcFrom_append]; rfl
  have l1 := lt32_from (l ++ x :: r) 4294967295 (by omega)
  have l2 := lt32_from (l ++ y :: r) 4294967295 (by omega)
  unfold sumOf
  rw [e1, e2] at *
  omega
end Go.Proofs.YtlficcdbnmheeaaDoor

/-
  Reading a number at the front of bytes: plain numbers.
-/
namespace Go.Proofs.YtlficcdbnmheeaaDoor

/-- from the byte with number i on, n being what stood ahead: value, how many bytes, error -/
def rnGo : Nat → Nat → Nat → List UInt8 → Nat × Nat × Nat
  | 0, _, _, _ => (0, 0, 22)
  | _ + 1, _, _, [] => (0, 0, 21)
  | f + 1, i, n, x :: l =>
    if i = 9 ∧ 1 < x.toNat then (0, 0, 22)
    else if x.toNat < 128 then (if x.toNat = 0 ∧ 0 < i then (0, 0, 22) else (n + x.toNat % 128 * 128 ^ i, i + 1, 0))
    else rnGo f (i + 1) (n + x.toNat % 128 * 128 ^ i) l
def readNum (l : List UInt8) : Nat × Nat × Nat := rnGo 10 0 0 l
theorem rnGo_nil (f i n : Nat) : rnGo (f + 1) i n [] = (0, 0, 21) := rfl
theorem rnGo_over (f n : Nat) (x : UInt8) (l : List UInt8) (h : 1 < x.toNat) : rnGo (f + 1) 9 n (x :: l) = (0, 0, 22) := by simp [rnGo, h]
theorem rnGo_zero (f i n : Nat) (x : UInt8) (l : List UInt8) (h : x.toNat = 0) (hi : 0 < i) : rnGo (f + 1) i n (x :: l) = (0, 0, 22) := by simp [rnGo, h, hi]
theorem rnGo_end (f i n : Nat) (x : UInt8) (l : List UInt8) (h9 : ¬ (i = 9 ∧ 1 < x.toNat)) (hx : x.toNat < 128) (h : ¬ (x.toNat = 0 ∧ 0 < i)) : rnGo (f + 1) i n (x :: l) = (n + x.toNat % 128 * 128 ^ i, i + 1, 0) := by
  rw [rnGo, if_neg h9, if_pos hx, if_neg h]
theorem rnGo_more (f i n : Nat) (x : UInt8) (l : List UInt8) (h9 : ¬ (i = 9 ∧ 1 < x.toNat)) (hx : ¬ x.toNat < 128) : rnGo (f + 1) i n (x :: l) = rnGo f (i + 1) (n + x.toNat % 128 * 128 ^ i) l := by
  rw [rnGo, if_neg h9, if_neg hx]
/-- what joins the bits: no carry -/
theorem rn_or (n y k : Nat) (h : n < 128 ^ k) : n ||| y * 128 ^ k = n + y * 128 ^ k := by
  have e : (128 : Nat) ^ k = 2 ^ (7 * k) := by rw [Nat.pow_mul]
  rw [e] at h ⊢
  have := Nat.shiftLeft_add_eq_or_of_lt h y
  rw [Nat.shiftLeft_eq] at this
  rw [Nat.or_comm, ← this]
  omega
theorem rn_room (n x k : Nat) (h : n < 128 ^ k) (hk : k < 10) (hx : x < 256) (h9 : ¬ (k = 9 ∧ 1 < x)) : n + x % 128 * 128 ^ k < 128 ^ (k + 1) ∧ n + x % 128 * 128 ^ k < 2 ^ 64 ∧ x % 128 * 128 ^ k < 2 ^ 64 := by
  have h1 : x % 128 * 128 ^ k ≤ 127 * 128 ^ k := Nat.mul_le_mul_right _ (by omega)
  have h2 : (128 : Nat) ^ (k + 1) = 128 * 128 ^ k := by rw [Nat.pow_succ]; omega
  by_cases h8 : k ≤ 8
  · have h3 : (128 : Nat) ^ k ≤ 128 ^ 8 := Nat.pow_le_pow_right (by omega) h8
    have h4 : (128 : Nat) ^ 8 = 72057594037927936 := by decide
    have h5 : (2 : Nat) ^ 64 = 18446744073709551616 := by decide
    omega
  · obtain rfl : k = 9 := by omega
    have h3 : x % 128 ≤ 1 := by omega
    have h4 : (128 : Nat) ^ 9 = 9223372036854775808 := by decide
    have h5 : (2 : Nat) ^ 64 = 18446744073709551616 := by decide
    have h6 : x % 128 * 128 ^ 9 ≤ 1 * 128 ^ 9 := Nat.mul_le_mul_right _ h3
    omega
end Go.Proofs.YtlficcdbnmheeaaDoor
