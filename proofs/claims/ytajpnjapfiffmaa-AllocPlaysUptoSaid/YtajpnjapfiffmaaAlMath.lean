/-
  Plain data: states of units, how many have one, the lowest free one. Own work.
-/
import Derived.Test.YtajpnjapfiffmaaOwnV
namespace Go.Proofs.Ytajpnjapfiffmaa

/-- states: drive, zone -/
abbrev St := Nat → Nat → Nat
def upd {α : Type} (g : Nat → Nat → α) (d z : Nat) (k : α) : Nat → Nat → α := fun d' z' => if d' = d ∧ z' = z then k else g d' z'
theorem upd_same {α : Type} (g : Nat → Nat → α) (d z : Nat) (k : α) : upd g d z k d z = k := by simp [upd]
theorem upd_other {α : Type} (g : Nat → Nat → α) {d z d' z' : Nat} (k : α) (h : ¬ (d' = d ∧ z' = z)) : upd g d z k d' z' = g d' z' := by simp [upd, h]
theorem upd_row {α : Type} (g : Nat → Nat → α) {d z d' : Nat} (k : α) (h : d' ≠ d) : upd g d z k d' = g d' := by funext z'; simp [upd, h]

def cntB (p : Nat → Bool) : Nat → Nat
  | 0 => 0
  | n + 1 => cntB p n + (if p n then 1 else 0)
def sumN (h : Nat → Nat) : Nat → Nat
  | 0 => 0
  | n + 1 => sumN h n + h n
/-- how many units have what p says -/
def tot (p : Nat → Nat → Bool) (A B : Nat) : Nat := sumN (fun d => cntB (p d) B) A
def b2n (b : Bool) : Nat := if b then 1 else 0

theorem cntB_le (p : Nat → Bool) : ∀ n, cntB p n ≤ n
  | 0 => Nat.le_refl _
  | n + 1 => by have := cntB_le p n; unfold cntB; split <;> omega
theorem cntB_congr {p q : Nat → Bool} : ∀ n, (∀ z, z < n → p z = q z) → cntB p n = cntB q n
  | 0, _ => rfl
  | n + 1, h => by unfold cntB; rw [cntB_congr n (fun z hz => h z (by omega)), h n (by omega)]
theorem cntB_zero {p : Nat → Bool} : ∀ n, cntB p n = 0 ↔ ∀ z, z < n → p z = false
  | 0 => by simp [cntB]
  | n + 1 => by
    unfold cntB
    constructor
    · intro h z hz
      cases hp : p n
      · rw [hp] at h
        by_cases e : z = n
        · subst e; exact hp
        · exact (cntB_zero n).1 (by simpa using h) z (by omega)
      · rw [hp] at h; simp at h
    · intro h
      rw [(cntB_zero n).2 (fun z hz => h z (by omega)), h n (by omega)]
      rfl
theorem cntB_full {p : Nat → Bool} : ∀ n, (∀ z, z < n → p z = true) → cntB p n = n
  | 0, _ => rfl
  | n + 1, h => by unfold cntB; rw [cntB_full n (fun z hz => h z (by omega)), h n (by omega)]; rfl
/-- one place is another one -/
theorem cntB_set {p q : Nat → Bool} {z : Nat} : ∀ n, (∀ y, y ≠ z → q y = p y) → z < n → cntB q n + b2n (p z) = cntB p n + b2n (q z)
  | 0, _, h => by omega
  | n + 1, h, hz => by
    unfold cntB
    by_cases e : z = n
    · subst e
      rw [cntB_congr z (fun y hy => h y (by omega))]
      unfold b2n
      omega
    · have := cntB_set n h (by omega)
      rw [h n (fun e' => e e'.symm)]
      omega
theorem sumN_congr {h k : Nat → Nat} : ∀ n, (∀ d, d < n → h d = k d) → sumN h n = sumN k n
  | 0, _ => rfl
  | n + 1, e => by unfold sumN; rw [sumN_congr n (fun d hd => e d (by omega)), e n (by omega)]
theorem sumN_le {h k : Nat → Nat} : ∀ n, (∀ d, d < n → h d ≤ k d) → sumN h n ≤ sumN k n
  | 0, _ => Nat.le_refl _
  | n + 1, e => by
    have a := sumN_le n (fun d hd => e d (by omega)); have b := e n (by omega)
    show sumN h n + h n ≤ sumN k n + k n
    omega
theorem sumN_const (c : Nat) : ∀ n, sumN (fun _ => c) n = n * c
  | 0 => by simp [sumN]
  | n + 1 => by unfold sumN; rw [sumN_const c n, Nat.succ_mul]
theorem sumN_add (h k : Nat → Nat) : ∀ n, sumN (fun d => h d + k d) n = sumN h n + sumN k n
  | 0 => rfl
  | n + 1 => by
    show sumN (fun d => h d + k d) n + (h n + k n) = (sumN h n + h n) + (sumN k n + k n)
    rw [sumN_add h k n]; omega
theorem sumN_mul (c : Nat) (h : Nat → Nat) : ∀ n, sumN (fun d => c * h d) n = c * sumN h n
  | 0 => by simp [sumN]
  | n + 1 => by
    show sumN (fun d => c * h d) n + c * h n = c * (sumN h n + h n)
    rw [sumN_mul c h n, Nat.mul_add]
theorem sumN_zero {h : Nat → Nat} : ∀ n, sumN h n = 0 → ∀ d, d < n → h d = 0
  | 0, _, d, hd => by omega
  | n + 1, e, d, hd => by
    have e' : sumN h n + h n = 0 := e
    by_cases q : d = n
    · subst q; omega
    · exact sumN_zero n (by omega) d (by omega)
theorem sumN_set {h k : Nat → Nat} {d : Nat} : ∀ n, (∀ y, y ≠ d → k y = h y) → d < n → sumN k n + h d = sumN h n + k d
  | 0, _, hz => by omega
  | n + 1, e, hz => by
    show sumN k n + k n + h d = sumN h n + h n + k d
    by_cases q : d = n
    · subst q
      rw [sumN_congr d (fun y hy => e y (by omega))]
      omega
    · have := sumN_set n e (by omega)
      rw [e n (fun e' => q e'.symm)]
      omega
theorem tot_le (p : Nat → Nat → Bool) (A B : Nat) : tot p A B ≤ A * B := by
  rw [← sumN_const B A]
  exact sumN_le A fun d _ => cntB_le _ _
theorem tot_set {p q : Nat → Nat → Bool} {d z A B : Nat} (h : ∀ d' z', ¬ (d' = d ∧ z' = z) → q d' z' = p d' z') (hd : d < A) (hz : z < B) : tot q A B + b2n (p d z) = tot p A B + b2n (q d z) := by
  have h1 : sumN (fun d => cntB (q d) B) A + cntB (p d) B = sumN (fun d => cntB (p d) B) A + cntB (q d) B := sumN_set (h := fun d => cntB (p d) B) (k := fun d => cntB (q d) B) (d := d) A (fun y hy => cntB_congr B fun z' _ => h y z' (fun e => hy e.1)) hd
  have h2 := cntB_set (p := p d) (q := q d) (z := z) B (fun y hy => h d y (fun e => hy e.2)) hz
  unfold tot
  omega
theorem tot_congr {p q : Nat → Nat → Bool} {A B : Nat} (h : ∀ d z, d < A → z < B → q d z = p d z) : tot q A B = tot p A B := sumN_congr A fun d hd => cntB_congr B fun z hz => h d z hd hz
theorem tot_none (A B : Nat) : tot (fun _ _ => false) A B = 0 := by
  have h0 : cntB (fun _ => false) B = 0 := (cntB_zero B).2 fun _ _ => rfl
  have : ∀ A, sumN (fun _ => cntB (fun _ => false) B) A = 0 := fun A => by rw [h0, sumN_const]; simp
  exact this A

/-- how many units of a row have a state -/
def cnt (f : Nat → Nat) (k n : Nat) : Nat := cntB (fun z => f z == k) n
theorem cnt_le (f : Nat → Nat) (k n : Nat) : cnt f k n ≤ n := cntB_le _ _
theorem cnt_succ (f : Nat → Nat) (k n : Nat) : cnt f k (n + 1) = cnt f k n + (if f n = k then 1 else 0) := by
  unfold cnt
  rw [cntB]
  by_cases h : f n = k <;> simp [h]
theorem cnt_upd (g : St) {d z k j n : Nat} (hz : z < n) : cnt (upd g d z k d) j n + b2n (g d z == j) = cnt (g d) j n + b2n (k == j) := by
  have := cntB_set (p := fun y => g d y == j) (q := fun y => upd g d z k d y == j) (z := z) n (fun y hy => by simp [upd, hy]) hz
  simp only [upd_same] at this
  exact this
theorem cnt_pos {f : Nat → Nat} {k n z : Nat} (hz : z < n) (h : f z = k) : 0 < cnt f k n := by
  rcases Nat.eq_zero_or_pos (cnt f k n) with h0 | h0
  · have := (cntB_zero n).1 h0 z hz
    simp [h] at this
  · exact h0

/-- the lowest free one; n, if there is none -/
def low (f : Nat → Nat) : Nat → Nat
  | 0 => 0
  | n + 1 => if low f n < n then low f n else if f n = 0 then n else n + 1
theorem low_le (f : Nat → Nat) : ∀ n, low f n ≤ n
  | 0 => Nat.le_refl _
  | n + 1 => by have := low_le f n; unfold low; split; omega; split <;> omega
theorem low_below (f : Nat → Nat) : ∀ n z, z < low f n → f z ≠ 0
  | 0, z, h => by simp [low] at h
  | n + 1, z, h => by
    have hl := low_le f n
    unfold low at h
    by_cases h1 : low f n < n
    · rw [if_pos h1] at h; exact low_below f n z h
    · rw [if_neg h1] at h
      by_cases h2 : f n = 0
      · rw [if_pos h2] at h; exact low_below f n z (by omega)
      · rw [if_neg h2] at h
        by_cases e : z = n
        · subst e; exact h2
        · exact low_below f n z (by omega)
theorem low_at (f : Nat → Nat) : ∀ n, low f n < n → f (low f n) = 0
  | 0, h => by simp [low] at h
  | n + 1, h => by
    unfold low at h ⊢
    by_cases h1 : low f n < n
    · rw [if_pos h1]; exact low_at f n h1
    · rw [if_neg h1] at h ⊢
      by_cases h2 : f n = 0
      · rw [if_pos h2]; exact h2
      · rw [if_neg h2] at h; omega
theorem low_uniq {f : Nat → Nat} {n l : Nat} (h1 : l ≤ n) (h2 : ∀ z, z < l → f z ≠ 0) (h3 : l < n → f l = 0) : l = low f n := by
  have a := low_le f n
  rcases Nat.lt_trichotomy l (low f n) with h | h | h
  · exact absurd (h3 (by omega)) (low_below f n l h)
  · exact h
  · exact absurd (low_at f n (by omega)) (h2 _ h)
/-- there is a free one just if some have the state -/
theorem low_free (f : Nat → Nat) (n : Nat) : low f n < n ↔ 0 < cnt f 0 n := by
  constructor
  · intro h
    exact cnt_pos h (low_at f n h)
  · intro h
    rcases Nat.lt_or_ge (low f n) n with h' | h'
    · exact h'
    · have e : low f n = n := Nat.le_antisymm (low_le f n) h'
      have : cnt f 0 n = 0 := (cntB_zero n).2 fun z hz => by simp [low_below f n z (by omega)]
      omega
/-- a unit becomes free -/
theorem low_freed (g : St) {d z n : Nat} (hz : z < n) : low (upd g d z 0 d) n = min (low (g d) n) z := by
  symm
  have hl := low_le (g d) n
  refine low_uniq (by omega) (fun y hy => ?_) (fun _ => ?_)
  · have h1 : y < low (g d) n := by omega
    have h2 : y ≠ z := by omega
    simp only [upd, h2, and_false, if_false]
    exact low_below _ _ _ h1
  · by_cases h : z ≤ low (g d) n
    · rw [Nat.min_eq_right h]; exact upd_same _ _ _ _
    · rw [Nat.min_eq_left (by omega)]
      simp only [upd]
      split
      · rfl
      · exact low_at _ _ (by omega)
/-- a unit that is not the lowest free one is no more free -/
theorem low_other (g : St) {d z k n : Nat} (hz : z < n) (hk : k ≠ 0) (h : z ≠ low (g d) n) : low (upd g d z k d) n = low (g d) n := by
  symm
  refine low_uniq (low_le _ _) (fun y hy => ?_) (fun hl => ?_)
  · simp only [upd]
    split
    · exact hk
    · exact low_below _ _ _ hy
  · simp only [upd]
    rw [if_neg (fun e => h e.2.symm)]
    exact low_at _ _ hl
end Go.Proofs.Ytajpnjapfiffmaa
