/-
  Plain: taking one unit on each of the n drives that have the most, again and again, goes as often as can be.
-/
import Derived.Test.YtffmipmkbbholaaAlSets
namespace Go.Proofs.Ytffmipmkbbholaa
open Go.RowKit Go.Maps Go.Shelf Go.Lib Go.Sort

/-- k sets are there -/
def feas (f : Nat → Nat) (D n k : Nat) : Prop := n * k ≤ sumN (fun d => min (f d) k) D
theorem feas_zero (f : Nat → Nat) (D n : Nat) : feas f D n 0 := by unfold feas; omega
theorem feas_down {f : Nat → Nat} {D n k : Nat} (h : feas f D n (k + 1)) : feas f D n k := by
  unfold feas at *
  have h2 : sumN (fun d => min (f d) (k + 1)) D * k ≤ sumN (fun d => min (f d) k) D * (k + 1) := by
    rw [Nat.mul_comm _ k, Nat.mul_comm _ (k + 1), ← sumN_mul, ← sumN_mul]
    refine sumN_le D fun d _ => ?_
    rcases Nat.le_total (f d) k with h | h
    · rw [Nat.min_eq_left (by omega), Nat.min_eq_left h]
      exact Nat.mul_le_mul_right _ (by omega)
    · rw [Nat.min_eq_right h, Nat.mul_comm (k + 1) k]
      exact Nat.mul_le_mul_left _ (Nat.min_le_right _ _)
  have h3 : n * (k + 1) * k ≤ sumN (fun d => min (f d) (k + 1)) D * k := Nat.mul_le_mul_right _ h
  have h4 : n * k * (k + 1) ≤ sumN (fun d => min (f d) k) D * (k + 1) := by
    have e : n * k * (k + 1) = n * (k + 1) * k := by rw [Nat.mul_assoc, Nat.mul_comm k, ← Nat.mul_assoc]
    omega
  exact Nat.le_of_mul_le_mul_right h4 (by omega)
theorem feas_le {f : Nat → Nat} {D n k j : Nat} (h : feas f D n k) (hj : j ≤ k) : feas f D n j := by
  obtain ⟨e, rfl⟩ : ∃ e, k = j + e := ⟨k - j, by omega⟩
  clear hj
  induction e with
  | zero => exact h
  | succ e ih => exact ih (feas_down h)
theorem feas_top {f : Nat → Nat} {D n k : Nat} (h : feas f D n k) : n * k ≤ sumN f D := Nat.le_trans h (sumN_le D fun d _ => Nat.min_le_left _ _)
theorem antitone_count (p : Nat → Bool) (hp : ∀ i, p (i + 1) = true → p i = true) : ∀ m, ∃ K, K ≤ m ∧ (∀ i, i < K → p i = true) ∧ (∀ i, K ≤ i → i < m → p i = false)
  | 0 => ⟨0, Nat.le_refl _, fun i h => by omega, fun i _ h => by omega⟩
  | m + 1 => by
    obtain ⟨K, h1, h2, h3⟩ := antitone_count p hp m
    cases hm : p m with
    | false => exact ⟨K, by omega, h2, fun i hi1 hi2 => by
        by_cases e : i = m
        · subst e; exact hm
        · exact h3 i hi1 (by omega)⟩
    | true =>
      have all : ∀ j, j ≤ m → p (m - j) = true := by
        intro j
        induction j with
        | zero => intro _; exact hm
        | succ j ih => intro hj; exact hp _ (by rw [show m - (j + 1) + 1 = m - j by omega]; exact ih (by omega))
      exact ⟨m + 1, Nat.le_refl _, fun i hi => by have := all (m - i) (by omega); rwa [show m - (m - i) = i by omega] at this, fun i hi1 hi2 => by omega⟩
theorem countP_lt (p : Nat → Bool) : ∀ (m K : Nat), K ≤ m → (∀ i, i < K → p i = true) → (∀ i, K ≤ i → i < m → p i = false) → (List.range m).countP p = K
  | 0, K, h, _, _ => by simp; omega
  | m + 1, K, h, h1, h2 => by
    rw [List.range_succ, List.countP_append]
    by_cases e : K = m + 1
    · subst e
      rw [countP_lt p m m (Nat.le_refl _) (fun i hi => h1 i (by omega)) (fun i _ _ => by omega)]
      simp [h1 m (by omega)]
    · rw [countP_lt p m K (by omega) h1 (fun i hi1 hi2 => h2 i hi1 (by omega))]
      simp [h2 m (by omega) (by omega)]
/-- how many are free -/
def frN (g : St) (Z : Nat) : Nat → Nat := fun d => cnt (g d) 0 Z
theorem noMore_feas (g : St) (D Z n i : Nat) : (!noMore g Z D n i) = true ↔ feas (frN g Z) D n (i + 1) := by
  unfold noMore feas minSum frN
  simp
/-- Sets, as the greatest number -/
theorem setsN_spec (g : St) (D Z n : Nat) (hn : 1 ≤ n) : feas (frN g Z) D n (setsN g D Z n) ∧ ¬ feas (frN g Z) D n (setsN g D Z n + 1) := by
  obtain ⟨K, h1, h2, h3⟩ := antitone_count (fun i => !noMore g Z D n i) (fun i h => (noMore_feas g D Z n i).2 (feas_down ((noMore_feas g D Z n (i + 1)).1 h))) (sumN (fun d => cnt (g d) 0 Z) D / n)
  have e : setsN g D Z n = K := countP_lt _ _ K h1 h2 h3
  rw [e]
  constructor
  · cases K with
    | zero => exact feas_zero _ _ _
    | succ K => exact (noMore_feas g D Z n K).1 (h2 K (by omega))
  · intro hf
    have h4 : K < sumN (fun d => cnt (g d) 0 Z) D / n := by
      have := feas_top hf
      rw [Nat.lt_div_iff_mul_lt (by omega)]
      have h5 : n * (K + 1) ≤ sumN (fun d => cnt (g d) 0 Z) D := this
      rw [Nat.mul_add, Nat.mul_comm n K] at h5
      omega
    have h5 := h3 K (Nat.le_refl _) h4
    have h6 := (noMore_feas g D Z n K).2 hf
    rw [h5] at h6
    cases h6
theorem setsN_eq {g : St} {D Z n K : Nat} (hn : 1 ≤ n) (h1 : feas (frN g Z) D n K) (h2 : ¬ feas (frN g Z) D n (K + 1)) : setsN g D Z n = K := by
  obtain ⟨a, b⟩ := setsN_spec g D Z n hn
  rcases Nat.lt_trichotomy (setsN g D Z n) K with h | h | h
  · exact absurd (feas_le h1 h) b
  · exact h
  · exact absurd (feas_le a h) h2
/-- in a list -/
def inL (L : List Nat) (d : Nat) : Nat := if d ∈ L then 1 else 0
theorem sum_inL : ∀ (L : List Nat) (D : Nat), L.Nodup → (∀ d ∈ L, d < D) → sumN (inL L) D = L.length
  | [], D, _, _ => by
    have : inL [] = fun _ => 0 := by funext d; simp [inL]
    rw [this, sumN_const]; simp
  | d :: L, D, hn, hb => by
    have hd := List.nodup_cons.1 hn
    have ih := sum_inL L D hd.2 (fun e he => hb e (by simp [he]))
    have hdD : d < D := hb d (by simp)
    have h := sumN_set (h := inL L) (k := inL (d :: L)) (d := d) D (fun y hy => by simp [inL, hy]) hdD
    have e1 : inL L d = 0 := by simp [inL, hd.1]
    have e2 : inL (d :: L) d = 1 := by simp [inL]
    rw [e1, e2, ih] at h
    simp only [List.length_cons]
    omega
/-- THE n WITH THE MOST HAVE ONE LESS: one set less is there -/
theorem feas_greedy {f f' : Nat → Nat} {D n k : Nat} {L : List Nat} (hL : L.Nodup) (hb : ∀ d ∈ L, d < D) (hn : L.length = n) (hpos : ∀ d ∈ L, 0 < f d) (hmost : ∀ d ∈ L, ∀ e, e < D → e ∉ L → f e ≤ f d) (hf : ∀ d, d < D → f d = f' d + inL L d) :
    feas f D n (k + 1) ↔ feas f' D n k := by
  have hs := sum_inL L D hL hb
  rw [hn] at hs
  constructor
  · intro h
    unfold feas at *
    by_cases hB : ∃ e, e < D ∧ e ∉ L ∧ k + 1 ≤ f e
    · obtain ⟨e, he1, he2, he3⟩ := hB
      have : sumN (fun d => k * inL L d) D ≤ sumN (fun d => min (f' d) k) D := sumN_le D fun d hd => by
        by_cases q : d ∈ L
        · have h1 := hmost d q e he1 he2
          have h2 := hf d hd
          have e1 : inL L d = 1 := by simp [inL, q]
          rw [e1] at h2 ⊢
          omega
        · have e1 : inL L d = 0 := by simp [inL, q]
          rw [e1]; omega
      rw [sumN_mul, hs, Nat.mul_comm] at this
      exact this
    · have : sumN (fun d => min (f d) (k + 1)) D ≤ sumN (fun d => min (f' d) k + inL L d) D := sumN_le D fun d hd => by
        have h2 := hf d hd
        by_cases q : d ∈ L
        · have e1 : inL L d = 1 := by simp [inL, q]
          rw [e1] at h2 ⊢
          omega
        · have e1 : inL L d = 0 := by simp [inL, q]
          have h3 : ¬ k + 1 ≤ f d := fun q' => hB ⟨d, hd, q, q'⟩
          rw [e1] at h2 ⊢
          omega
      rw [sumN_add, hs] at this
      rw [Nat.mul_add] at h
      omega
  · intro h
    unfold feas at *
    have : sumN (fun d => min (f' d) k + inL L d) D ≤ sumN (fun d => min (f d) (k + 1)) D := sumN_le D fun d hd => by
      have h2 := hf d hd
      by_cases q : d ∈ L
      · have e1 : inL L d = 1 := by simp [inL, q]
        rw [e1] at h2 ⊢
        omega
      · have e1 : inL L d = 0 := by simp [inL, q]
        rw [e1] at h2 ⊢
        omega
    rw [sumN_add, hs] at this
    rw [Nat.mul_add]
    omega
theorem takeAll_free (Z d : Nat) : ∀ (L : List Nat) (g : St), L.Nodup → (∀ e ∈ L, 0 < cnt (g e) 0 Z) → cnt (g d) 0 Z = cnt (takeAll g Z L d) 0 Z + inL L d
  | [], g, _, _ => by simp [takeAll, inL]
  | e :: L, g, hn, hp => by
    have hd := List.nodup_cons.1 hn
    have ih := takeAll_free Z d L (takeU g Z e) hd.2 (fun e' he' => by
      have : e' ≠ e := fun q => hd.1 (q ▸ he')
      show 0 < cnt (upd g e _ 1 e') 0 Z
      rw [upd_row g 1 this]
      exact hp e' (by simp [he']))
    show cnt (g d) 0 Z = cnt (takeAll (takeU g Z e) Z L d) 0 Z + inL (e :: L) d
    by_cases q : d = e
    · subst q
      have h1 : inL L d = 0 := by simp [inL, hd.1]
      have h2 : inL (d :: L) d = 1 := by simp [inL]
      have hlow : low (g d) Z < Z := (low_free (g d) Z).2 (hp d (by simp))
      have h3 := cnt_upd g (d := d) (z := low (g d) Z) (k := 1) (j := 0) (n := Z) hlow
      rw [low_at _ _ hlow] at h3
      simp only [b2n] at h3
      simp at h3
      rw [h1] at ih
      rw [h2]
      have h4 : cnt (takeU g Z d d) 0 Z + 1 = cnt (g d) 0 Z := h3
      omega
    · have h2 : inL (e :: L) d = inL L d := by simp [inL, q]
      rw [h2]
      have h3 : takeU g Z e d = g d := upd_row g 1 q
      rw [h3] at ih
      exact ih
theorem roomyL_length (g : St) (Z : Nat) : ∀ i, (roomyL g Z [] i).length = sumN (fun d => min (frN g Z d) 1) i
  | 0 => rfl
  | i + 1 => by
    show (if _ then _ else _ : List Int).length = sumN _ i + min (frN g Z i) 1
    rw [← roomyL_length g Z i]
    by_cases q : 0 < cnt (g i) 0 Z
    · rw [if_pos ⟨q, by simp⟩, List.length_append, List.length_singleton]
      unfold frN
      omega
    · rw [if_neg (fun h => q h.1)]
      unfold frN
      omega
theorem feas_one (g : St) (Z D n : Nat) : feas (frN g Z) D n 1 ↔ n ≤ (roomyL g Z [] D).length := by
  rw [roomyL_length]
  unfold feas
  rw [Nat.mul_one]
/-- what Take does, where sets are there, and where none is -/
theorem took_some {g g' : St} {D Z n : Nat} {us : List (Int × Int)} {e : Int} (hn : 1 ≤ n ∧ n ≤ 32) (h : Took g D Z n [] us e g') (hs : 0 < setsN g D Z n) :
    e = 0 ∧ ∃ L : List Nat, L.length = n ∧ L.Pairwise (· < ·) ∧ (∀ d ∈ L, d < D ∧ 0 < cnt (g d) 0 Z) ∧ us = tookU g Z L ∧ g' = takeAll g Z L ∧ setsN g' D Z n + 1 = setsN g D Z n := by
  have hf1 : feas (frN g Z) D n 1 := feas_le (setsN_spec g D Z n hn.1).1 (by omega)
  have hge := (feas_one g Z D n).1 hf1
  rcases h with ⟨h, _⟩ | ⟨_, M, hp, ha, ⟨hlt, _⟩ | ⟨_, L, hL, hasc, hus, he, hg'⟩⟩
  · omega
  · have := hp.length_eq; omega
  · rw [Int.toNat_natCast] at hL
    have hMl := hp.length_eq
    have hLn : L.length = n := by
      have := hL.length_eq
      simp at this
      omega
    have hmem : ∀ d ∈ L, d < D ∧ 0 < cnt (g d) 0 Z := fun d hd => by
      have h1 : (d : Int) ∈ M := List.mem_of_mem_take (hL.mem_iff.1 (List.mem_map.2 ⟨d, hd, rfl⟩))
      obtain ⟨d', h2, h3, h4, _⟩ := (roomyL_mem g Z [] D d).1 (hp.mem_iff.1 h1)
      obtain rfl : d = d' := by omega
      exact ⟨h2, h4⟩
    have hnd : L.Nodup := hasc.imp fun h => by omega
    refine ⟨he, L, hLn, hasc, hmem, hus, hg', ?_⟩
    have hmost : ∀ d ∈ L, ∀ e, e < D → e ∉ L → frN g Z e ≤ frN g Z d := by
      intro d hd e he heL
      by_cases h0 : cnt (g e) 0 Z = 0
      · unfold frN; omega
      · have h1 : (d : Int) ∈ M.take n := hL.mem_iff.1 (List.mem_map.2 ⟨d, hd, rfl⟩)
        have h2 : (e : Int) ∈ M := hp.mem_iff.2 ((roomyL_mem g Z [] D e).2 ⟨e, he, rfl, by omega, by simp⟩)
        have h3 : (e : Int) ∉ M.take n := fun q => by
          obtain ⟨e', h4, h5⟩ := List.mem_map.1 (hL.mem_iff.2 q)
          have : e' = e := by omega
          exact heL (this ▸ h4)
        have h4 : (e : Int) ∈ M.drop n := by
          have := h2
          rw [← List.take_append_drop n M] at this
          exact (List.mem_append.1 this).resolve_left h3
        have h5 : ltF (frF g D Z) d e := by
          have := ha
          rw [← List.take_append_drop n M] at this
          exact (List.pairwise_append.1 this).2.2 _ h1 _ h4
        unfold ltF frF at h5
        rw [freeOn_nat g (hmem d hd).1, freeOn_nat g he] at h5
        unfold frN
        omega
    have hfr : ∀ d, d < D → frN g Z d = frN g' Z d + inL L d := fun d _ => by
      rw [hg']
      exact takeAll_free Z d L g hnd (fun e he => (hmem e he).2)
    have hgr : ∀ k, feas (frN g Z) D n (k + 1) ↔ feas (frN g' Z) D n k := fun k => feas_greedy hnd (fun d hd => (hmem d hd).1) hLn (fun d hd => (hmem d hd).2) hmost hfr
    obtain ⟨a, b⟩ := setsN_spec g D Z n hn.1
    have h1 : setsN g' D Z n = setsN g D Z n - 1 := by
      refine setsN_eq hn.1 ((hgr _).1 (by rw [show setsN g D Z n - 1 + 1 = setsN g D Z n by omega]; exact a)) fun q => b ?_
      have := (hgr (setsN g D Z n - 1 + 1)).2 q
      rwa [show setsN g D Z n - 1 + 1 + 1 = setsN g D Z n + 1 by omega] at this
    omega
theorem took_none {g g' : St} {D Z n : Nat} {us : List (Int × Int)} {e : Int} (hn : 1 ≤ n ∧ n ≤ 32) (h : Took g D Z n [] us e g') (hs : setsN g D Z n = 0) : e = 5 ∧ us = [] ∧ g' = g := by
  have hno : ¬ n ≤ (roomyL g Z [] D).length := fun q => by
    have := (setsN_spec g D Z n hn.1).2
    rw [hs] at this
    exact this ((feas_one g Z D n).2 q)
  rcases h with ⟨h, _⟩ | ⟨_, M, hp, ha, ⟨hlt, h1, h2, h3⟩ | ⟨hle, _⟩⟩
  · omega
  · exact ⟨h2, h1, h3⟩
  · have := hp.length_eq; omega
end Go.Proofs.Ytffmipmkbbholaa
