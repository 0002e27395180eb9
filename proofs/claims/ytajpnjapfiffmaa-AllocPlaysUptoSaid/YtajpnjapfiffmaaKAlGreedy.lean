/-
  Plain: taking one unit on each of the n drives that have the most, again and again, goes as often as can be.
-/
import Derived.Test.YtajpnjapfiffmaaKAlCmp
namespace Go.Proofs.Ytajpnjapfiffmaa
open Go.RowKit Go.Maps Go.Shelf Go.Lib Go.Sort

/-- k sets are there -/
def feas (f : Nat → Nat) (D n k : Nat) : Prop := n * k ≤ sumN (fun d => min (f d) k) D
theorem feas_zero (f : Nat → Nat) (D n : Nat) : feas f D n 0 := by unfold feas; omega
theorem feas_down {f : Nat → Nat} {D n k : Nat} (h : feas f D n (k + 1)) : feas f D n k := by
  unfold feas at *
  have h2 : sumN (fun d => min (f d) (k + 1)) D * k ≤ sumN (fun d => min (f d) k) D * (k + 1) := by
    rw [Nat.mul_comm _ k, Nat.mul_comm _ (k + 1), ← sumN_mul, ← sumN_mul]
    refine sumN_le D fun d _ => ?_
    rcases Nat.le_total (f d) k with h | h
    · rw [Nat.min_eq_left (by omega), Nat.min_eq_left h]
      exact Nat.mul_le_mul_right _ (by omega)
    · rw [Nat.min_eq_right h, Nat.mul_comm (k + 1) k]
      exact Nat.mul_le_mul_left _ (Nat.min_le_right _ _)
  have h3 : n * (k + 1) * k ≤ sumN (fun d => min (f d) (k + 1)) D * k := Nat.mul_le_mul_right _ h
  have h4 : n * k * (k + 1) ≤ sumN (fun d => min (f d) k) D * (k + 1) := by
    have e : n * k * (k + 1) = n * (k + 1) * k := by rw [Nat.mul_assoc, Nat.mul_comm k, ← Nat.mul_assoc]
    omega
  exact Nat.le_of_mul_le_mul_right h4 (by omega)
theorem feas_le {f : Nat → Nat} {D n k j : Nat} (h : feas f D n k) (hj : j ≤ k) : feas f D n j := by
  obtain ⟨e, rfl⟩ : ∃ e, k = j + e := ⟨k - j, by omega⟩
  clear hj
  induction e with
  | zero => exact h
  | succ e ih => exact ih (feas_down h)
theorem feas_top {f : Nat → Nat} {D n k : Nat} (h : feas f D n k) : n * k ≤ sumN f D := Nat.le_trans h (sumN_le D fun d _ => Nat.min_le_left _ _)
theorem antitone_count (p : Nat → Bool) (hp : ∀ i, p (i + 1) = true → p i = true) : ∀ m, ∃ K, K ≤ m ∧ (∀ i, i < K → p i = true) ∧ (∀ i, K ≤ i → i < m → p i = false)
  | 0 => ⟨0, Nat.le_refl _, fun i h => by omega, fun i _ h => by omega⟩
  | m + 1 => by
    obtain ⟨K, h1, h2, h3⟩ := antitone_count p hp m
    cases hm : p m with
    | false => exact ⟨K, by omega, h2, fun i hi1 hi2 => by
        by_cases e : i = m
        · subst e; exact hm
        · exact h3 i hi1 (by omega)⟩
    | true =>
      have all : ∀ j, j ≤ m → p (m - j) = true := by
        intro j
        induction j with
        | zero => intro _; exact hm
        | succ j ih => intro hj; exact hp _ (by rw [show m - (j + 1) + 1 = m - j by omega]; exact ih (by omega))
      exact ⟨m + 1, Nat.le_refl _, fun i hi => by have := all (m - i) (by omega); rwa [show m - (m - i) = i by omega] at this, fun i hi1 hi2 => by omega⟩
theorem countP_lt (p : Nat → Bool) : ∀ (m K : Nat), K ≤ m → (∀ i, i < K → p i = true) → (∀ i, K ≤ i → i < m → p i = false) → (List.range m).countP p = K
  | 0, K, h, _, _ => by simp; omega
  | m + 1, K, h, h1, h2 => by
    rw [List.range_succ, List.countP_append]
    by_cases e : K = m + 1
    · subst e
      rw [countP_lt p m m (Nat.le_refl _) (fun i hi => h1 i (by omega)) (fun i _ _ => by omega)]
      simp [h1 m (by omega)]
    · rw [countP_lt p m K (by omega) h1 (fun i hi1 hi2 => h2 i hi1 (by omega))]
      simp [h2 m (by omega) (by omega)]
/-- how many are free -/
def frN (g : St) (Z : Nat) : Nat → Nat := fun d => cnt (g d) 0 Z
theorem noMore_feas (g : St) (D Z n i : Nat) : (!noMore g Z D n i) = true ↔ feas (frN g Z) D n (i + 1) := by
  unfold noMore feas minSum frN
  simp
/-- Sets, as the greatest number -/
theorem setsN_spec (g : St) (D Z n : Nat) (hn : 1 ≤ n) : feas (frN g Z) D n (setsN g D Z n) ∧ ¬ feas (frN g Z) D n (setsN g D Z n + 1) := by
  obtain ⟨K, h1, h2, h3⟩ := antitone_count (fun i => !noMore g Z D n i) (fun i h => (noMore_feas g D Z n i).2 (feas_down ((noMore_feas g D Z n (i + 1)).1 h))) (sumN (fun d => cnt (g d) 0 Z) D / n)
  have e : setsN g D Z n = K := countP_lt _ _ K h1 h2 h3
  rw [e]
  constructor
  · cases K with
    | zero => exact feas_zero _ _ _
    | succ K => exact (noMore_feas g D Z n K).1 (h2 K (by omega))
  · intro hf
    have h4 : K < sumN (fun d => cnt (g d) 0 Z) D / n := by
      have := feas_top hf
      rw [Nat.lt_div_iff_mul_lt (by omega)]
      have h5 : n * (K + 1) ≤ sumN (fun d => cnt (g d) 0 Z) D := this
      rw [Nat.mul_add, Nat.mul_comm n K] at h5
      omega
    have h5 := h3 K (Nat.le_refl _) h4
    have h6 := (noMore_feas g D Z n K).2 hf
    rw [h5] at h6
    cases h6
theorem setsN_eq {g : St} {D Z n K : Nat} (hn : 1 ≤ n) (h1 : feas (frN g Z) D n K) (h2 : ¬ feas (frN g Z) D n (K + 1)) : setsN g D Z n = K := by
  obtain ⟨a, b⟩ := setsN_spec g D Z n hn
  rcases Nat.lt_trichotomy (setsN g D Z n) K with h | h | h
  · exact absurd (feas_le h1 h) b
  · exact h
  · exact absurd (feas_le a h) h2
/-- in a list -/
def inL (L : List Nat) (d : Nat) : Nat := if d ∈ L then 1 else 0
theorem sum_inL : ∀ (L : List Nat) (D : Nat), L.Nodup → (∀ d ∈ L, d < D) → sumN (inL L) D = L.length
  | [], D, _, _ => by
    have : inL [] = fun _ => 0 := by funext d; simp [inL]
    rw [this, sumN_const]; simp
  | d :: L, D, hn, hb => by
    have hd := List.nodup_cons.1 hn
    have ih := sum_inL L D hd.2 (fun e he => hb e (by simp [he]))
    have hdD : d < D := hb d (by simp)
    have h := sumN_set (h := inL L) (k := inL (d :: L)) (d := d) D (fun y hy => by simp [inL, hy]) hdD
    have e1 : inL L d = 0 := by simp [inL, hd.1]
    have e2 : inL (d :: L) d = 1 := by simp [inL]
    rw [e1, e2, ih] at h
    simp only [List.length_cons]
    omega
/-- THE n WITH THE MOST HAVE ONE LESS: one set less is there -/
theorem feas_greedy {f f' : Nat → Nat} {D n k : Nat} {L : List Nat} (hL : L.Nodup) (hb : ∀ d ∈ L, d < D) (hn : L.length = n) (hpos : ∀ d ∈ L, 0 < f d) (hmost : ∀ d ∈ L, ∀ e, e < D → e ∉ L → f e ≤ f d) (hf : ∀ d, d < D → f d = f' d + inL L d) :
    feas f D n (k + 1) ↔ feas f' D n k := by
  have hs := sum_inL L D hL hb
  rw [hn] at hs
  constructor
  · intro h
    unfold feas at *
    by_cases hB : ∃ e, e < D ∧ e ∉ L ∧ k + 1 ≤ f e
    · obtain ⟨e, he1, he2, he3⟩ := hB
      have : sumN (fun d => k * inL L d) D ≤ sumN (fun d => min (f' d) k) D := sumN_le D fun d hd => by
        by_cases q : d ∈ L
        · have h1 := hmost d q e he1 he2
          have h2 := hf d hd
          have e1 : inL L d = 1 := by simp [inL, q]
          rw [e1] at h2 ⊢
          omega
        · have e1 : inL L d = 0 := by simp [inL, q]
          rw [e1]; omega
      rw [sumN_mul, hs, Nat.mul_comm] at this
      exact this
    · have : sumN (fun d => min (f d) (k + 1)) D ≤ sumN (fun d => min (f' d) k + inL L d) D := sumN_le D fun d hd => by
        have h2 := hf d hd
        by_cases q : d ∈ L
        · have e1 : inL L d = 1 := by simp [inL, q]
          rw [e1] at h2 ⊢
          omega
        · have e1 : inL L d = 0 := by simp [inL, q]
          have h3 : ¬ k + 1 ≤ f d := fun q' => hB ⟨d, hd, q, q'⟩
          rw [e1] at h2 ⊢
          omega
      rw [sumN_add, hs] at this
      rw [Nat.mul_add] at h
      omega
  · intro h
    unfold feas at *
    have : sumN (fun d => min (f' d) k + inL L d) D ≤ sumN (fun d => min (f d) (k + 1)) D := sumN_le D fun d hd => by
      have h2 := hf d hd
      by_cases q : d ∈ L
      · have e1 : inL L d = 1 := by simp [inL, q]
        rw [e1] at h2 ⊢
        omega
      · have e1 : inL L d = 0 := by simp [inL, q]
        rw [e1] at h2 ⊢
        omega
    rw [sumN_add, hs] at this
    rw [Nat.mul_add]
    omega
theorem takeAll_free (Z d : Nat) : ∀ (L : List Nat) (g : St), L.Nodup → (∀ e ∈ L, 0 < cnt (g e) 0 Z) → cnt (g d) 0 Z = cnt (takeAll g Z L d) 0 Z + inL L d
  | [], g, _, _ => by simp [takeAll, inL]
  | e :: L, g, hn, hp => by
    have hd := List.nodup_cons.1 hn
    have ih := takeAll_free Z d L (takeU g Z e) hd.2 (fun e' he' => by
      have : e' ≠ e := fun q => hd.1 (q ▸ he')
      show 0 < cnt (upd g e _ 1 e') 0 Z
      rw [upd_row g 1 this]
      exact hp e' (by simp [he']))
    show cnt (g d) 0 Z = cnt (takeAll (takeU g Z e) Z L d) 0 Z + inL (e :: L) d
    by_cases q : d = e
    · subst q
      have h1 : inL L d = 0 := by simp [inL, hd.1]
      have h2 : inL (d :: L) d = 1 := by simp [inL]
      have hlow : low (g d) Z < Z := (low_free (g d) Z).2 (hp d (by simp))
      have h3 := cnt_upd g (d := d) (z := low (g d) Z) (k := 1) (j := 0) (n := Z) hlow
      rw [low_at _ _ hlow] at h3
      simp only [b2n] at h3
      simp at h3
      rw [h1] at ih
      rw [h2]
      have h4 : cnt (takeU g Z d d) 0 Z + 1 = cnt (g d) 0 Z := h3
      omega
    · have h2 : inL (e :: L) d = inL L d := by simp [inL, q]
      rw [h2]
      have h3 : takeU g Z e d = g d := upd_row g 1 q
      rw [h3] at ih
      exact ih
theorem roomyL_length (g : St) (Z : Nat) : ∀ i, (roomyL g Z [] i).length = sumN (fun d => min (frN g Z d) 1) i
  | 0 => rfl
  | i + 1 => by
    show (if _ then _ else _ : List Int).length = sumN _ i + min (frN g Z i) 1
    rw [← roomyL_length g Z i]
    by_cases q : 0 < cnt (g i) 0 Z
    · rw [if_pos ⟨q, by simp⟩, List.length_append, List.length_singleton]
      unfold frN
      omega
    · rw [if_neg (fun h => q h.1)]
      unfold frN
      omega
theorem feas_one (g : St) (Z D n : Nat) : feas (frN g Z) D n 1 ↔ n ≤ (roomyL g Z [] D).length := by
  rw [roomyL_length]
  unfold feas
  rw [Nat.mul_one]
/-- what Take does, where sets are there, and where none is -/
theorem took_some {g g' : St} {D Z n : Nat} {us : List (Int × Int)} {e : Int} (hn : 1 ≤ n ∧ n ≤ 32) (h : Took g D Z n [] us e g') (hs : 0 < setsN g D Z n) :
    e = 0 ∧ ∃ L : List Nat, L.length = n ∧ L.Pairwise (· < ·) ∧ (∀ d ∈ L, d < D ∧ 0 < cnt (g d) 0 Z) ∧ us = tookU g Z L ∧ g' = takeAll g Z L ∧ setsN g' D Z n + 1 = setsN g D Z n := by
  have hf1 : feas (frN g Z) D n 1 := feas_le (setsN_spec g D Z n hn.1).1 (by omega)
  have hge := (feas_one g Z D n).1 hf1
  rcases h with ⟨h, _⟩ | ⟨_, M, hp, ha, ⟨hlt, _⟩ | ⟨_, L, hL, hasc, hus, he, hg'⟩⟩
  · omega
  · have := hp.length_eq; omega
  · rw [Int.toNat_natCast] at hL
    have hMl := hp.length_eq
    have hLn : L.length = n := by
      have := hL.length_eq
      simp at this
      omega
    have hmem : ∀ d ∈ L, d < D ∧ 0 < cnt (g d) 0 Z := fun d hd => by
      have h1 : (d : Int) ∈ M := List.mem_of_mem_take (hL.mem_iff.1 (List.mem_map.2 ⟨d, hd, rfl⟩))
      obtain ⟨d', h2, h3, h4, _⟩ := (roomyL_mem g Z [] D d).1 (hp.mem_iff.1 h1)
      obtain rfl : d = d' := by omega
      exact ⟨h2, h4⟩
    have hnd : L.Nodup := hasc.imp fun h => by omega
    refine ⟨he, L, hLn, hasc, hmem, hus, hg', ?_⟩
    have hmost : ∀ d ∈ L, ∀ e, e < D → e ∉ L → frN g Z e ≤ frN g Z d := by
      intro d hd e he heL
      by_cases h0 : cnt (g e) 0 Z = 0
      · unfold frN; omega
      · have h1 : (d : Int) ∈ M.take n := hL.mem_iff.1 (List.mem_map.2 ⟨d, hd, rfl⟩)
        have h2 : (e : Int) ∈ M := hp.mem_iff.2 ((roomyL_mem g Z [] D e).2 ⟨e, he, rfl, by omega, by simp⟩)
        have h3 : (e : Int) ∉ M.take n := fun q => by
          obtain ⟨e', h4, h5⟩ := List.mem_map.1 (hL.mem_iff.2 q)
          have : e' = e := by omega
          exact heL (this ▸ h4)
        have h4 : (e : Int) ∈ M.drop n := by
          have := h2
          rw [← List.take_append_drop n M] at this
          exact (List.mem_append.1 this).resolve_left h3
        have h5 : ltF (frF g D Z) d e := by
          have := ha
          rw [← List.take_append_drop n M] at this
          exact (List.pairwise_append.1 this).2.2 _ h1 _ h4
        unfold ltF frF at h5
        rw [freeOn_nat g (hmem d hd).1, freeOn_nat g he] at h5
        unfold frN
        omega
    have hfr : ∀ d, d < D → frN g Z d = frN g' Z d + inL L d := fun d _ => by
      rw [hg']
      exact takeAll_free Z d L g hnd (fun e he => (hmem e he).2)
    have hgr : ∀ k, feas (frN g Z) D n (k + 1) ↔ feas (frN g' Z) D n k := fun k => feas_greedy hnd (fun d hd => (hmem d hd).1) hLn (fun d hd => (hmem d hd).2) hmost hfr
    obtain ⟨a, b⟩ := setsN_spec g D Z n hn.1
    have h1 : setsN g' D Z n = setsN g D Z n - 1 := by
      refine setsN_eq hn.1 ((hgr _).1 (by rw [show setsN g D Z n - 1 + 1 = setsN g D Z n by omega]; exact a)) fun q => b ?_
      have := (hgr (setsN g D Z n - 1 + 1)).2 q
      rwa [show setsN g D Z n - 1 + 1 + 1 = setsN g D Z n + 1 by omega] at this
    omega
theorem took_none {g g' : St} {D Z n : Nat} {us : List (Int × Int)} {e : Int} (hn : 1 ≤ n ∧ n ≤ 32) (h : Took g D Z n [] us e g') (hs : setsN g D Z n = 0) : e = 5 ∧ us = [] ∧ g' = g := by
  have hno : ¬ n ≤ (roomyL g Z [] D).length := fun q => by
    have := (setsN_spec g D Z n hn.1).2
    rw [hs] at this
    exact this ((feas_one g Z D n).2 q)
  rcases h with ⟨h, _⟩ | ⟨_, M, hp, ha, ⟨hlt, h1, h2, h3⟩ | ⟨hle, _⟩⟩
  · omega
  · exact ⟨h2, h1, h3⟩
  · have := hp.length_eq; omega
end Go.Proofs.Ytajpnjapfiffmaa

/-
  The chapter's example (the laws' known).
-/
namespace Go.Proofs.Ytajpnjapfiffmaa
open Go.RowKit Go.Maps Go.Shelf Go.Lib Go.Sort

section
variable {F : Int → Nat}
theorem asc_unique {M C : List Int} (hp : M.Perm C) (h1 : Asc F M) (h2 : Asc F C) : M = C :=
  hp.eq_of_pairwise (fun a b _ _ h h' => absurd (h.trans h') (fun q => q.irr)) h1 h2
theorem lt_unique {M C : List Nat} (hp : M.Perm C) (h1 : M.Pairwise (· < ·)) (h2 : C.Pairwise (· < ·)) : M = C :=
  hp.eq_of_pairwise (fun a b _ _ h h' => by omega) h1 h2
end
theorem map_perm {M C : List Nat} (h : (M.map fun (d : Nat) => (d : Int)).Perm (C.map fun (d : Nat) => (d : Int))) : M.Perm C := by
  have h1 := h.map Int.toNat
  rw [List.map_map, List.map_map] at h1
  have e : (Int.toNat ∘ fun (d : Nat) => (d : Int)) = id := by funext d; simp
  rw [e] at h1
  simpa using h1
/-- Take's answer, where the order of the drives is known -/
theorem took_is {g g' : St} {D Z n : Nat} {wo : List Int} {us : List (Int × Int)} {e : Int} (h : Took g D Z n wo us e g') (hn : 1 ≤ n ∧ n ≤ 32) (C : List Int) (hC : C.Perm (roomyL g Z wo D)) (hA : Asc (frF g D Z) C) (hl : n ≤ C.length) (L : List Nat) (hL : (L.map fun (d : Nat) => (d : Int)).Perm (C.take n)) (hLs : L.Pairwise (· < ·)) :
    us = tookU g Z L ∧ e = 0 ∧ g' = takeAll g Z L := by
  rcases h with ⟨h, _⟩ | ⟨_, M, hp, ha, ⟨hlt, _⟩ | ⟨_, L', hL', hasc, hus, he, hg'⟩⟩
  · omega
  · have := hp.length_eq; have := hC.length_eq; omega
  · rw [Int.toNat_natCast, asc_unique (hp.trans hC.symm) ha hA] at hL'
    rw [lt_unique (map_perm (hL'.trans hL.symm)) hasc hLs] at hus hg'
    exact ⟨hus, he, hg'⟩
def g0 : St := fun _ _ => 0
def g1 : St := takeAll g0 2 [0, 1]
def g2 : St := takeAll g1 2 [0, 2]
theorem known1 {us : List (Int × Int)} {e : Int} {g' : St} (h : Took g0 3 2 (2 : Nat) [] us e g') : us = [(0, 0), (1, 0)] ∧ e = 0 ∧ g' = g1 :=
  took_is h (by omega) [0, 1, 2] (by decide) (by decide) (by decide) [0, 1] (by decide) (by decide)
theorem known2 {us : List (Int × Int)} {e : Int} {g' : St} (h : Took g1 3 2 (2 : Nat) [] us e g') : us = [(0, 1), (2, 0)] ∧ e = 0 ∧ g' = g2 :=
  took_is h (by omega) [2, 0, 1] (by decide) (by decide) (by decide) [0, 2] (by decide) (by decide)
theorem known3 : setsN g2 3 2 2 = 1 := by decide
/-- an owned slice of units that holds some -/
theorem OwnU.flat {w : World} {base : Nat} {v : Value} {us : List (Int × Int)} (h : OwnU w base v us) (h0 : us ≠ []) : ∃ gb c, v = .slice (some ⟨gb, 0, none⟩) us.length c ∧ us.length ≤ c ∧ base ≤ gb ∧ gb < w.heap.size ∧ ∀ k u, us[k]? = some u → w.cell? ⟨gb, k * 2, none⟩ = some (.int .i64 u.1) ∧ w.cell? ⟨gb, k * 2 + 1, none⟩ = some (.int .i64 u.2) := by
  rcases h.2 with ⟨rfl, h1⟩ | ⟨g, cap, cur, rfl, hb, hg, hn, hm, hs, ht⟩
  · exact absurd (List.eq_nil_of_length_eq_zero h1) h0
  · refine ⟨g, cap, rfl, hn, hb, (Array.getElem?_eq_some_iff.1 hg).1, fun k u hu => ⟨?_, ?_⟩⟩
    · have := World.ownsRow.cells (e := 24) (size := 2) h rfl (k * 2) _ (cellsU_get us k u hu).1
      rw [add_flat, Nat.zero_add] at this
      exact this
    · have := World.ownsRow.cells (e := 24) (size := 2) h rfl (k * 2 + 1) _ (cellsU_get us k u hu).2
      rw [add_flat, Nat.zero_add] at this
      exact this
section
set_option maxRecDepth 100000
set_option maxHeartbeats 4000000
theorem known_any (w : World) : Calls Try.prog 6 #[] w fun e w' => e = .returned (.bool true) ∧ Below w.heap.size w w' := by
  have Hn := Lib.hid (new_any 3 2 (by omega) (by omega) w)
  go_enter Try.func6, Try.ntmps6
  go_wp2_with fail
  refine Hn.out.mono ?_
  rintro e w1 ⟨tb, db, mb, cap, rfl, h1, hb1, n0, n1, n2⟩
  have Ht1 := Lib.hid (take_call none 0 0 (2 : Nat) [] rfl (by omega) (RI.nil w1 _ _) h1)
  have H1 := Lib.hid (And.intro h1 hb1)
  have HN : Hid (w.heap.size ≤ db ∧ w.heap.size ≤ mb) := ⟨n1, n2⟩
  clear h1 hb1 Hn n0 n1 n2
  go_wp2_with fail
  refine Ht1.out.mono ?_
  rintro e w2 ⟨va, ua, ea, ga, rfl, hT1, h2, hk2, ho2⟩
  obtain ⟨rfl, rfl, rfl⟩ := known1 hT1
  obtain ⟨ba, ca, rfl, hca, hba, hla, hcell⟩ := ho2.flat (by simp)
  have a0 := (hcell 1 _ rfl).1
  have a1 := (hcell 1 _ rfl).2
  have Ht2 := Lib.hid (take_call none 0 0 (2 : Nat) [] rfl (by omega) (RI.nil w2 _ _) h2)
  have H2 : Hid (Kept (fun x => x ≠ db ∧ x ≠ mb) w1 w2 ∧ ba ≠ db ∧ ba ≠ mb ∧ ba < w2.heap.size) := ⟨hk2, by have := H1.out.1.dc.lt; omega, by have := H1.out.1.mc.lt; omega, hla⟩
  have hla' : ([((0 : Int), (0 : Int)), (1, 0)] : List (Int × Int)).length = 2 := rfl
  rw [hla']
  clear hT1 h2 hk2 ho2 hcell hba hla hca hla' Ht1
  go_wp2_with fail
  refine Ht2.out.mono ?_
  rintro e w3 ⟨vb, ub, eb, gb, rfl, hT2, h3, hk3, ho3⟩
  obtain ⟨rfl, rfl, rfl⟩ := known2 hT2
  obtain ⟨bb, cb, rfl, hcb, hbb, hlb, hcell⟩ := ho3.flat (by simp)
  have b0 := (hcell 0 _ rfl).1
  have b1 := (hcell 0 _ rfl).2
  have b2 := (hcell 1 _ rfl).1
  have b3 := (hcell 1 _ rfl).2
  have a0' : w3.cell? ⟨ba, 2, none⟩ = some (.int .i64 1) := (World.cell?_of_block (w := w2) (hk3.block ba H2.out.2.2.2 ⟨H2.out.2.1, H2.out.2.2.1⟩)).trans a0
  have a1' : w3.cell? ⟨ba, 3, none⟩ = some (.int .i64 0) := (World.cell?_of_block (w := w2) (hk3.block ba H2.out.2.2.2 ⟨H2.out.2.1, H2.out.2.2.1⟩)).trans a1
  have Hs := Lib.hid (sets_any (2 : Int) h3)
  have hv : setsV g2 3 2 2 = 1 := known3
  rw [hv] at Hs
  have Hend : Hid (Below w.heap.size w w3) := by
    have hb := H1.out.2
    have n1 := HN.out
    have k := (H2.out.1.trans hk3)
    exact hb.trans (k.to_below (fun x hx => ⟨by omega, by omega⟩) hb.size)
  have eg := Try.eqGuardType24
  have q1 := eql_unit w3 1 0 1 0
  have q2 := eql_unit w3 0 1 0 1
  have q3 := eql_unit w3 2 0 2 0
  have hlb' : ([((0 : Int), (1 : Int)), (2, 0)] : List (Int × Int)).length = 2 := rfl
  rw [hlb']
  clear hT2 h3 hk3 ho3 hcell hbb hlb hcb hlb' Ht2 a0 a1 H2 H1 hv
  go_wp2_with fail
  refine Hs.out.mono ?_
  rintro e w4 ⟨rfl, hb4⟩
  have Hb4 : Hid (Below w.heap.size w w4) := Hend.out.trans (hb4.mono Hend.out.size)
  clear hb4 Hs Hend
  go_wp2_with fail
  go_ret
  exact ⟨by simp, Hb4.out⟩
end
end Go.Proofs.Ytajpnjapfiffmaa

/-
  byPlace, cmp.Or: units by drive, then zone; SortFunc over it.
-/
namespace Go.Proofs.Ytajpnjapfiffmaa
open Go.RowKit Go.Maps Go.Shelf Go.Lib Go.Sort

/-- the first that is not 0 -/
def orV (x y : Int) : Int := if x = 0 then y else x
/-- units by drive, then zone -/
def cfU (a b : Int × Int) : Int := orV (cmpI a.1 b.1) (cmpI a.2 b.2)
theorem cmpI_zero {a b : Int} : cmpI a b = 0 ↔ a = b := by unfold cmpI; (repeat' split) <;> omega
theorem cfU_neg {a b : Int × Int} : cfU a b < 0 ↔ a.1 < b.1 ∨ (a.1 = b.1 ∧ a.2 < b.2) := by
  unfold cfU orV
  by_cases h : cmpI a.1 b.1 = 0
  · rw [if_pos h, cmpI_neg]
    have := cmpI_zero.1 h
    omega
  · rw [if_neg h, cmpI_neg]
    have : a.1 ≠ b.1 := fun e => h (cmpI_zero.2 e)
    omega
def encU (u : Int × Int) : List Value := [.int .i64 u.1, .int .i64 u.2]
theorem cfU_swo : SWO (ltOf cfU) where
  irrefl x := decide_eq_false fun h => by have := cfU_neg.1 h; omega
  trans x y z h1 h2 := decide_eq_true (cfU_neg.2 (by have := cfU_neg.1 (of_decide_eq_true h1); have := cfU_neg.1 (of_decide_eq_true h2); omega))
  ntrans x y z h1 h2 := decide_eq_false fun h => by
    have a := fun q => (of_decide_eq_false h1) (cfU_neg.2 q)
    have b := fun q => (of_decide_eq_false h2) (cfU_neg.2 q)
    have c := cfU_neg.1 h
    by_cases q1 : x.1 < y.1
    · exact a (.inl q1)
    by_cases q2 : y.1 < z.1
    · exact b (.inl q2)
    have e1 : x.1 = y.1 := by omega
    have e2 : y.1 = z.1 := by omega
    by_cases q3 : x.2 < y.2
    · exact a (.inr ⟨e1, q3⟩)
    by_cases q4 : y.2 < z.2
    · exact b (.inr ⟨e2, q4⟩)
    omega
section
set_option maxRecDepth 100000
set_option maxHeartbeats 4000000
theorem or_any (b c : Nat) (x y : Int) (w : World) (h0 : w.cell? ⟨b, 0, none⟩ = some (.int .i64 x)) (h1 : w.cell? ⟨b, 1, none⟩ = some (.int .i64 y)) :
    Calls Try.prog 55 #[.slice (some ⟨b, 0, none⟩) 2 c] w fun e w' => e = .returned (.int .i64 (orV x y)) ∧ w' = w := by
  unfold orV
  by_cases hx : x = 0
  · rw [if_pos hx]
    by_cases hy : y = 0
    · subst hx; subst hy
      go_enter Try.func55, Try.ntmps55
      go_wp2_with fail
      refine wp_loop_rounds 3 ?_
      rw [rounds_succ]
      go_wp2_with fail
      rw [rounds_succ]
      go_wp2_with fail
      rw [rounds_succ]
      go_wp2_with fail
      go_ret
      exact ⟨rfl, rfl⟩
    · subst hx
      go_enter Try.func55, Try.ntmps55
      go_wp2_with fail
      refine wp_loop_rounds 2 ?_
      rw [rounds_succ]
      go_wp2_with fail
      rw [rounds_succ]
      go_wp2_with fail
      go_ret
      exact ⟨rfl, rfl⟩
  · rw [if_neg hx]
    go_enter Try.func55, Try.ntmps55
    go_wp2_with fail
    refine wp_loop_rounds 1 ?_
    rw [rounds_succ]
    go_wp2_with fail
    go_ret
    exact ⟨rfl, rfl⟩
theorem byPlace_any (a b : Int × Int) (w : World) : Calls Try.prog 41 #[.agg #[.int .i64 a.1, .int .i64 a.2], .agg #[.int .i64 b.1, .int .i64 b.2]] w fun e w' => e = .returned (.int .i64 (cfU a b)) ∧ ∃ q os, w' = grow (w.drewN q) os := by
  obtain ⟨a1, a2⟩ := a
  obtain ⟨b1, b2⟩ := b
  obtain ⟨W, hW⟩ : ∃ W, W = (w.alloc (.cells #[.int .i64 a1, .int .i64 a2] 24)).alloc (.cells #[.int .i64 b1, .int .i64 b2] 24) := ⟨_, rfl⟩
  have e1 : (w.alloc (.cells #[.int .i64 a1, .int .i64 a2] 24)).heap.size = w.heap.size + 1 := by simp
  have ka : Cells W w.heap.size 24 [.int .i64 a1, .int .i64 a2] := by rw [hW]; exact (Cells.new w _ _).alloc _
  have kb : Cells W (w.heap.size + 1) 24 [.int .i64 b1, .int .i64 b2] := by rw [hW, ← e1]; exact Cells.new _ _ _
  have p0 : W.cell? ⟨w.heap.size, 0, none⟩ = some (.int .i64 a1) := ka.cell rfl
  have p1 : W.cell? ⟨w.heap.size, 1, none⟩ = some (.int .i64 a2) := ka.cell rfl
  have p2 : W.cell? ⟨w.heap.size + 1, 0, none⟩ = some (.int .i64 b1) := kb.cell rfl
  have p3 : W.cell? ⟨w.heap.size + 1, 1, none⟩ = some (.int .i64 b2) := kb.cell rfl
  have Hc := Lib.hid fun (x y : Int) w => compare_any x y w
  have Ho : Hid (∀ x y, Calls Try.prog 55 #[.slice (some ⟨W.heap.size, 0, none⟩) 2 2] (W.drew.alloc (.cells #[.int .i64 x, .int .i64 y] 3)) fun e w' => e = .returned (.int .i64 (orV x y)) ∧ w' = W.drew.alloc (.cells #[.int .i64 x, .int .i64 y] 3)) :=
    fun x y => or_any W.heap.size 2 x y _ ((Cells.new W.drew _ _).cell rfl) ((Cells.new W.drew _ _).cell rfl)
  have Hend : Hid (∀ x y, ∃ q os, W.drew.alloc (.cells #[.int .i64 x, .int .i64 y] 3) = grow (w.drewN q) os) := fun x y => by
    rw [hW]
    refine ⟨1, #[.cells #[.int .i64 a1, .int .i64 a2] 24, .cells #[.int .i64 b1, .int .i64 b2] 24, .cells #[.int .i64 x, .int .i64 y] 3], ?_⟩
    have e : ∀ (u : World) (o1 o2 o3 : Obj), ((u.alloc o1).alloc o2).drew.alloc o3 = (((u.drewN 1).alloc o1).alloc o2).alloc o3 := fun _ _ _ _ => rfl
    rw [e, alloc_eq_grow, alloc_eq_grow, alloc_eq_grow, grow_grow, grow_grow]
    rfl
  have pB : ∀ o : Obj, (W.alloc o).drew.cell? ⟨w.heap.size, 0, none⟩ = some (.int .i64 a1) ∧ (W.alloc o).drew.cell? ⟨w.heap.size, 1, none⟩ = some (.int .i64 a2) ∧ (W.alloc o).drew.cell? ⟨w.heap.size + 1, 0, none⟩ = some (.int .i64 b1) ∧ (W.alloc o).drew.cell? ⟨w.heap.size + 1, 1, none⟩ = some (.int .i64 b2) := fun o => ⟨(ka.alloc o).drew.cell rfl, (ka.alloc o).drew.cell rfl, (kb.alloc o).drew.cell rfl, (kb.alloc o).drew.cell rfl⟩
  have Hw : Hid (W.drew.heap.size = W.heap.size) := (rfl : W.drew.heap.size = W.heap.size)
  clear ka kb e1
  go_enter Try.func41, Try.ntmps41
  go_wp2_with fail
  rw [← hW]
  clear hW
  go_region_held3 (fun X => X.cell? ⟨w.heap.size, 0, none⟩ = some (.int .i64 a1) ∧ X.cell? ⟨w.heap.size, 1, none⟩ = some (.int .i64 a2) ∧ X.cell? ⟨w.heap.size + 1, 0, none⟩ = some (.int .i64 b1) ∧ X.cell? ⟨w.heap.size + 1, 1, none⟩ = some (.int .i64 b2)) (first | exact ⟨p0, p1, p2, p3⟩ | exact pB _) (first
    | (go_at_call 49; refine (Hc.out _ _ _).mono ?_; rintro e w2 ⟨rfl, rfl⟩)
    | (go_at_call 55; refine (Ho.out _ _).mono ?_; rintro e w2 ⟨rfl, rfl⟩))
  all_goals
    go_wp2_with fail
    go_ret
    exact ⟨rfl, Hend.out _ _⟩
end
end Go.Proofs.Ytajpnjapfiffmaa

/-
  SortFunc of units by byPlace.
-/
namespace Go.Proofs.Ytajpnjapfiffmaa
open Go.RowKit Go.Maps Go.Shelf Go.Lib Go.Sort

/-- BLOCK gb HOLDS the units us -/
def HoldsU (w : World) (gb : Nat) (us : List (Int × Int)) : Prop := ∀ k u, us[k]? = some u → w.cell? ⟨gb, k * 2, none⟩ = some (.int .i64 u.1) ∧ w.cell? ⟨gb, k * 2 + 1, none⟩ = some (.int .i64 u.2)
theorem encU_len (u : Int × Int) : (encU u).length = 2 := rfl
theorem OwnU.frozen {w : World} {base gb n c : Nat} {us : List (Int × Int)} (h : OwnU w base (.slice (some ⟨gb, 0, none⟩) n c) us) (i : Nat) : w.frozen? ⟨gb, i, none⟩ = false := by
  rcases h.2 with ⟨h1, _⟩ | ⟨g, cap, cur, hv, hb, hg, _⟩
  · cases h1
  · cases hv
    simp [World.frozen?, hg]
section
variable {w w' : World} {gb : Nat} {us : List (Int × Int)}
theorem holdsU_to (h : HoldsU w gb us) (hf : ∀ i, w.frozen? ⟨gb, i, none⟩ = false) : HoldsK encU 2 w gb 0 us.toArray := by
  intro j hj
  have hj2 : j < us.length * 2 := by simpa using hj
  have hk : j / 2 < us.length := by omega
  have e : (flatK encU 2 us.toArray)[j]! = (encU us[j / 2])[j % 2]! := by
    rw [get_flatK _ _ _ _ (by simpa using hj2), getElem!_pos us.toArray (j / 2) (by simpa using hk)]
    simp
  obtain ⟨h0, h1⟩ := h (j / 2) _ (List.getElem?_eq_getElem hk)
  refine ⟨?_, hf _⟩
  rw [e, Nat.zero_add]
  rcases Nat.mod_two_eq_zero_or_one j with q | q
  · rw [q]
    rw [show j / 2 * 2 = j by omega] at h0
    exact h0
  · rw [q]
    rw [show j / 2 * 2 + 1 = j by omega] at h1
    exact h1
theorem holdsU_from {d : Array (Int × Int)} (h : HoldsK encU 2 w gb 0 d) : HoldsU w gb d.toList := by
  intro k u hu
  have hk : k < d.size := by simpa using (List.getElem?_eq_some_iff.1 hu).1
  have hg : d[k]! = u := by
    rw [getElem!_pos d k hk]
    rw [List.getElem?_eq_getElem (by simpa using hk)] at hu
    simpa using hu
  have h0 := (h (k * 2) (by simp; omega)).1
  have h1 := (h (k * 2 + 1) (by simp; omega)).1
  rw [get_flatK _ _ _ _ (by omega), show k * 2 / 2 = k by omega, show k * 2 % 2 = 0 by omega, hg, Nat.zero_add] at h0
  rw [get_flatK _ _ _ _ (by omega), show (k * 2 + 1) / 2 = k by omega, show (k * 2 + 1) % 2 = 1 by omega, hg, Nat.zero_add] at h1
  exact ⟨h0, h1⟩
theorem sortWorldK_block {blk off m k : Nat} {dk : Array (Int × Int)} {os : Array Obj} (hk : k < w.heap.size) (hne : k ≠ blk) : (sortWorldK encU 2 w blk off m dk os).heap[k]? = w.heap[k]? := by
  unfold sortWorldK putRowK putRow mapBlock grow Sort.ahead
  simp only []
  rw [Array.getElem?_append_left (by simpa using hk), Array.getElem?_modify]
  rw [if_neg (fun e => hne e.symm)]
set_option maxRecDepth 100000 in
theorem sortU_any (cap n : Nat) (hn : n = us.length) (h : HoldsU w gb us) (hf : ∀ i, w.frozen? ⟨gb, i, none⟩ = false) (hb : gb < w.heap.size) (hsz : n ≤ 1000000) :
    Calls Try.prog 40 #[.slice (some ⟨gb, 0, none⟩) n cap, .func (.func 41) #[] #[]] w fun e w' => e = .returned (.tuple #[]) ∧ ∃ us', us'.Perm us ∧ us'.Pairwise (fun a b => ¬ cfU b a < 0) ∧ HoldsU w' gb us' ∧ Kept (fun x => x ≠ gb) w w' := by
  have hs : us.toArray.size = n := by simpa using hn.symm
  have hH := holdsU_to h hf
  have hc := AnyQ.slices_SortFunc (ρ := laySortU_ren) laySortU 2 Try.isAgg24 Try.sizeOf24 encU encU_len (fun x v hv => by simp only [encU, List.mem_cons, List.not_mem_nil, or_false] at hv; rcases hv with rfl | rfl <;> rfl) cfU cfU_swo 41 #[] gb 0 cap us.toArray w (fun args w => rfl) (fun m os dk _ x y => byPlace_any x y _) hH hb (by omega)
  rw [hs] at hc
  refine hc.mono ?_
  rintro e w' ⟨he, d', m, os, hp, hso, rfl⟩
  have hd' : d'.size = n := by rw [hp.1, hs]
  refine ⟨he, d'.toList, ?_, ?_, holdsU_from (holdsK_sortWorldK_c encU 2 w gb 0 us.toArray d' m os hH hb (by rw [hd', hs])), ⟨rfl, rfl, rfl, size_sortWorldK_c encU 2 w gb 0 m d' os, fun k hk hne => sortWorldK_block hk hne⟩⟩
  · have := hp.2.2
    have e1 : d'.extract 0 n = d' := by rw [← hd']; exact Array.extract_size
    have e2 : us.toArray.extract 0 n = us.toArray := by rw [← hs]; exact Array.extract_size
    rw [e1, e2] at this
    simpa using this
  · refine List.pairwise_iff_getElem.2 fun i j hi hj hij => ?_
    have h1 := hso i j (Nat.zero_le _) hij (by simpa [hd'] using hj)
    rw [getElem!_pos d' j (by simpa using hj), getElem!_pos d' i (by simpa using hi)] at h1
    have := of_decide_eq_false h1
    simpa using this
end
end Go.Proofs.Ytajpnjapfiffmaa

/-
  Release: the map is ranged over in whatever order; the held ones, sorted, are set free.
-/
namespace Go.Proofs.Ytajpnjapfiffmaa
open Go.RowKit Go.Maps Go.Shelf Go.Lib Go.Sort

/-- just those held ones that are no more to come -/
def HeldSo (g : St) (D Z : Nat) (left : Lit → Bool) (us : List (Int × Int)) : Prop := us.Nodup ∧ us.length ≤ D * Z ∧ ∀ u, u ∈ us ↔ ∃ d z : Nat, d < D ∧ z < Z ∧ u = ((d : Int), (z : Int)) ∧ g d z = 2 ∧ left (uk d z) = false
/-- a list of unlike units of a table is no longer than the table -/
theorem units_len {D Z : Nat} (hZ : 0 < Z) : ∀ (us : List (Int × Int)), us.Nodup → (∀ u ∈ us, ∃ d z : Nat, d < D ∧ z < Z ∧ u = ((d : Int), (z : Int))) → us.length ≤ D * Z := by
  intro us hn hm
  have h1 : (us.map fun u => u.1.toNat * Z + u.2.toNat).Nodup := by
    refine List.pairwise_map.2 (hn.imp_of_mem ?_)
    intro a b ha hb hne e
    obtain ⟨d, z, hd, hz, rfl⟩ := hm a ha
    obtain ⟨d', z', hd', hz', rfl⟩ := hm b hb
    simp only [Int.toNat_natCast] at e
    have e1 : (d * Z + z) / Z = (d' * Z + z') / Z := by rw [e]
    rw [Nat.mul_comm d, Nat.mul_comm d', Nat.mul_add_div hZ, Nat.mul_add_div hZ, Nat.div_eq_of_lt hz, Nat.div_eq_of_lt hz'] at e1
    have e2 : d = d' := by omega
    subst e2
    have e3 : z = z' := by omega
    subst e3
    exact hne rfl
  have h2 : ∀ k ∈ (us.map fun u => u.1.toNat * Z + u.2.toNat), k < D * Z := by
    intro k hk
    obtain ⟨u, hu, rfl⟩ := List.mem_map.1 hk
    obtain ⟨d, z, hd, hz, rfl⟩ := hm u hu
    simp only [Int.toNat_natCast]
    have h1 : (d + 1) * Z ≤ D * Z := Nat.mul_le_mul_right Z (by omega)
    rw [Nat.add_mul, Nat.one_mul] at h1
    omega
  have h3 := sum_inL _ (D * Z) h1 h2
  have h4 : sumN (inL (us.map fun u => u.1.toNat * Z + u.2.toNat)) (D * Z) ≤ sumN (fun _ => 1) (D * Z) := sumN_le _ fun k _ => by unfold inL; split <;> omega
  rw [sumN_const, h3, List.length_map] at h4
  omega
section
variable {g : St} {D Z : Nat} {left : Lit → Bool} {us : List (Int × Int)}
theorem left_struck {d z d' z' : Nat} (hd : d < 1000000) (hz : z < 1000000) (hd' : d' < 1000000) (hz' : z' < 1000000) :
    (left (uk d' z') && !(uk d' z').sameKey (uk d z)) = false ↔ (left (uk d' z') = false ∨ (d' = d ∧ z' = z)) := by
  by_cases q : d' = d ∧ z' = z
  · obtain ⟨rfl, rfl⟩ := q
    rw [WideAt.sameKey_self (keyLit hd hz)]
    simp
  · have : (uk d' z').sameKey (uk d z) = false := by
      cases h : (uk d' z').sameKey (uk d z) with
      | false => rfl
      | true => exact absurd (WideAt.sameKey_eq h) (uk_ne hd hz hd' hz' q)
    rw [this]
    simp [q]
theorem HeldSo.stay (h : HeldSo g D Z left us) {d z : Nat} (hd : d < 1000000) (hz : z < 1000000) (hD : D ≤ 1000) (hZ : Z ≤ 10000) (hg : g d z ≠ 2) : HeldSo g D Z (fun k => left k && !k.sameKey (uk d z)) us := by
  refine ⟨h.1, h.2.1, fun u => (h.2.2 u).trans ⟨?_, ?_⟩⟩
  · rintro ⟨d', z', h1, h2, h3, h4, h5⟩
    exact ⟨d', z', h1, h2, h3, h4, (left_struck hd hz (by omega) (by omega)).2 (.inl h5)⟩
  · rintro ⟨d', z', h1, h2, h3, h4, h5⟩
    refine ⟨d', z', h1, h2, h3, h4, ?_⟩
    rcases (left_struck hd hz (by omega) (by omega)).1 h5 with h | ⟨rfl, rfl⟩
    · exact h
    · exact absurd h4 hg
theorem HeldSo.put (h : HeldSo g D Z left us) {d z : Nat} (hd : d < D) (hz : z < Z) (hD : D ≤ 1000) (hZ : Z ≤ 10000) (hg : g d z = 2) (hl : left (uk d z) = true) : HeldSo g D Z (fun k => left k && !k.sameKey (uk d z)) (us ++ [((d : Int), (z : Int))]) := by
  have hnot : ((d : Int), (z : Int)) ∉ us := fun q => by
    obtain ⟨d', z', h1, h2, h3, h4, h5⟩ := (h.2.2 _).1 q
    have e1 : d = d' := by have := congrArg Prod.fst h3; simp at this; omega
    have e2 : z = z' := by have := congrArg Prod.snd h3; simp at this; omega
    subst e1; subst e2
    rw [hl] at h5
    cases h5
  have hm : ∀ u, u ∈ us ++ [((d : Int), (z : Int))] ↔ ∃ d' z' : Nat, d' < D ∧ z' < Z ∧ u = ((d' : Int), (z' : Int)) ∧ g d' z' = 2 ∧ (left (uk d' z') && !(uk d' z').sameKey (uk d z)) = false := fun u => by
    rw [List.mem_append, h.2.2 u]
    constructor
    · rintro (⟨d', z', h1, h2, h3, h4, h5⟩ | h6)
      · exact ⟨d', z', h1, h2, h3, h4, (left_struck (by omega) (by omega) (by omega) (by omega)).2 (.inl h5)⟩
      · exact ⟨d, z, hd, hz, by simpa using h6, hg, (left_struck (by omega) (by omega) (by omega) (by omega)).2 (.inr ⟨rfl, rfl⟩)⟩
    · rintro ⟨d', z', h1, h2, h3, h4, h5⟩
      rcases (left_struck (by omega) (by omega) (by omega) (by omega)).1 h5 with h | ⟨rfl, rfl⟩
      · exact .inl ⟨d', z', h1, h2, h3, h4, h⟩
      · exact .inr (by simp [h3])
  have hn : (us ++ [((d : Int), (z : Int))]).Nodup := by
    rw [List.nodup_append]
    refine ⟨h.1, by simp, fun a ha b hb e => ?_⟩
    simp at hb
    subst hb
    exact hnot (e ▸ ha)
  exact ⟨hn, units_len (by omega) _ hn (fun u hu => by obtain ⟨d', z', h1, h2, h3, _⟩ := (hm u).1 hu; exact ⟨d', z', h1, h2, h3⟩), hm⟩
end

/-- sorted -/
def SortedU (us : List (Int × Int)) : Prop := us.Pairwise (fun a b => ¬ cfU b a < 0)
/-- the range is under way -/
structure RelSt (w wr : World) (mb D Z : Nat) (g : St) (Dm : DataW Unit) (left : Lit → Bool) (cnt : Nat) (v : Value) (us : List (Int × Int)) : Prop where
  rg : wr.ranges Try.prog 24 (plainElem Try.prog 3) mb w.heap.size (Maps.size Dm) Dm left cnt
  own : OwnU wr (w.heap.size + 1) v us
  bel : Below w.heap.size w wr
  held : HeldSo g D Z left us
  sub : ∀ kl, left kl = true → Maps.has Dm kl = true
section
set_option maxRecDepth 100000
set_option maxHeartbeats 8000000
variable {w : World} {tb db mb cap D Z : Nat} {g : St}
theorem sortV_any {base : Nat} {us : List (Int × Int)} (A : Option Addr) (c n : Nat) (hn : n = us.length) (h : OwnU w base (.slice A n c) us) (hsz : n ≤ 1000000) :
    Calls Try.prog 40 #[.slice A n c, .func (.func 41) #[] #[]] w fun e w' => e = .returned (.tuple #[]) ∧ ∃ us', us'.Perm us ∧ SortedU us' ∧ RU w' w'.heap.size A us' ∧ (∀ b o, A = some ⟨b, o, none⟩ → us' ≠ [] → base ≤ b) ∧ Below base w w' := by
  by_cases h0 : us = []
  · subst h0
    simp at hn
    subst hn
    refine (AnyF.slices_SortFunc_none (ρ := laySortU_ren) laySortU A c _ w).mono ?_
    rintro e w' ⟨he, rfl⟩
    exact ⟨he, [], List.Perm.refl _, List.Pairwise.nil, fun k u hu => by simp at hu, fun b o _ q => absurd rfl q, Below.refl _ _⟩
  · obtain ⟨gb, c', hv, hc, hb, hlt, hcell⟩ := h.flat h0
    cases hv
    refine (sortU_any c us.length rfl hcell (fun i => OwnU.frozen h i) hlt hsz).mono ?_
    rintro e w' ⟨he, us', hp, hs, hh, hk⟩
    have hle : base ≤ w.heap.size := by omega
    refine ⟨he, us', hp, hs, fun k u hu => ⟨gb, 0, rfl, by have := hk.size; omega, ?_, ?_⟩, fun b o q _ => by cases q; exact hb, hk.to_below (fun k hk' e => by omega) hle⟩
    · rw [Nat.zero_add]; exact (hh k u hu).1
    · rw [Nat.zero_add]; exact (hh k u hu).2
theorem release_any (h : TabAt w tb db mb cap D Z g) :
    Calls Try.prog 17 #[.pointer (some ⟨tb, 0, none⟩)] w fun e w' => ∃ (A : Option Addr) (c : Nat) (us : List (Int × Int)), e = .returned (.slice A us.length c) ∧ HeldSo g D Z (fun _ => false) us ∧ SortedU us ∧ TabAt w' tb db mb cap D Z (setAll g 0 us) ∧ Kept (fun x => x ≠ db ∧ x ≠ mb) w w' ∧ RU w' w'.heap.size A us ∧ (∀ b o, A = some ⟨b, o, none⟩ → us ≠ [] → w.heap.size ≤ b) := by
  obtain ⟨Dm, hown, hv⟩ := h.mc
  have m2 := h.m2
  have hD : D ≤ 1000 := by have := h.d2; omega
  have hZ : Z ≤ 10000 := by have := h.z2; omega
  have H0 := Lib.hid h
  have Hv := Lib.hid hv
  clear h hv
  go_enter Try.func17, Try.ntmps17
  go_wp2_with (at_range; refine wpList_range_own _ rfl _ 58 rfl 24 3 keyLaw Try.underlying58 _ mb _ Dm rfl hown ?_; intro w0 hrg0 hg0 hs0; clear hown)
  go_frame
  have Hst : Hid (RelSt w w0 mb D Z g Dm (Maps.has Dm) (Maps.size Dm) (.slice none 0 0) []) := by
    refine ⟨hrg0, OwnU.nil _ _, (Below.refl _ _).grown hg0 (Nat.le_refl _) (fun k hk => by cases hk), ⟨List.Pairwise.nil, by simp, fun u => ⟨fun q => by simp at q, ?_⟩⟩, fun _ h => h⟩
    rintro ⟨d, z, h1, h2, h3, h4, h5⟩
    rw [Hv.out.has d z (by omega) (by omega)] at h5
    simp [stU, h4] at h5
  clear hrg0 hg0 hs0
  go_loopw [3] (fun sv wr => ∃ (left : Lit → Bool) (cnt : Nat) (us : List (Int × Int)), Hid (RelSt w wr mb D Z g Dm left cnt sv us)) (fun _ wr => wr.rangeLeft mb w.heap.size)
  case atStart => exact ⟨_, _, _, Hst.out⟩
  case round =>
    obtain ⟨left, cnt, us, hS⟩ := hrel
    obtain ⟨v, hv⟩ : ∃ v, v = u3 := ⟨_, rfl⟩
    rw [← hv] at hS ⊢
    clear hv Hst
    go_wp2_with (at_next; refine wpList_next_ranges _ rfl _ rfl 24 keyLaw (plainElem Try.prog 3) (fun x : Value => x) (Value.int .i64) (fun key kl _ => ⟨key, rfl⟩) (fun v y hv => by obtain ⟨c, rfl, _⟩ := plainElem_int_inv Try.underlying3 hv; exact ⟨c, rfl⟩) mb w.heap.size _ Dm left cnt rfl hS.out.rg ?_ ?_)
    · as_aux_lemma =>
      intro _ hl0
      have hheld : HeldSo g D Z (fun _ => false) us := by
        have h := hS.out.held
        have e : left = fun _ => false := funext hl0
        rw [e] at h
        exact h
      obtain ⟨A, c, hvA, hc, _, _⟩ := hS.out.own.rd
      have hDZ : D * Z ≤ 32 * 4096 := Nat.mul_le_mul H0.out.d2 H0.out.z2
      have hus := hheld.2.1
      obtain ⟨n, hn⟩ : ∃ n, n = us.length := ⟨_, rfl⟩
      rw [← hn] at hvA
      have hown := hS.out.own
      rw [hvA] at hown
      have Hsr := Lib.hid (sortV_any A c n hn hown (by omega))
      have hn1 : (n : Int) ≤ 131072 := by omega
      have Hh := Lib.hid hheld
      have Hb := Lib.hid hS.out.bel
      have Hn := Lib.hid hn
      subst hvA
      clear hS hheld hown hc hus hn hDZ hl0
      go_wp2_with fail
      refine Hsr.out.mono ?_
      rintro e w3 ⟨rfl, us', hp, hs, hr, hA, hb3⟩
      have hb : Below w.heap.size w w3 := Hb.out.trans (hb3.mono (Nat.le_succ _))
      have hpl := hp.length_eq
      have Hu : Hid (∀ (i : Nat) u, us'[i]? = some u → ∃ d z : Nat, u = ((d : Int), (z : Int)) ∧ d < D ∧ z < Z) := fun i u hu => by
        obtain ⟨d, z, h1, h2, h3, _⟩ := (Hh.out.2.2 u).1 (hp.mem_iff.1 (List.mem_of_getElem? hu))
        exact ⟨d, z, h3, h1, h2⟩
      have Hheld : Hid (HeldSo g D Z (fun _ => false) us' ∧ SortedU us') := ⟨⟨hp.nodup_iff.2 Hh.out.1, by have := Hh.out.2.1; omega, fun u => (hp.mem_iff).trans (Hh.out.2.2 u)⟩, hs⟩
      have hn' : n = us'.length := by have := Hn.out; omega
      have H3 : Hid (TabAt w3 tb db mb cap D Z (setAll g 0 (us'.take 0)) ∧ Kept (fun x => x ≠ db ∧ x ≠ mb) w w3) := ⟨H0.out.below hb, (Kept.refl _ _).below hb⟩
      have Hr := Lib.hid hr
      have HA : Hid (∀ b o, A = some ⟨b, o, none⟩ → us' ≠ [] → w.heap.size + 1 ≤ b) := hA
      have Hn2 := Lib.hid hn'
      have Hsz : Hid (w.heap.size ≤ w3.heap.size ∧ db < w.heap.size ∧ mb < w.heap.size) := ⟨hb.size, H0.out.dc.lt, H0.out.mc.lt⟩
      clear hp hs hr hA hb3 hb hpl hn' Hsr Hh Hb Hn
      go_wp2_with fail
      go_loopw [28] (fun iv wr => ∃ i : Nat, iv = .int .i64 (i : Int) ∧ i ≤ n ∧ Hid (TabAt wr tb db mb cap D Z (setAll g 0 (us'.take i)) ∧ Kept (fun x => x ≠ db ∧ x ≠ mb) w wr ∧ Kept (fun x => x ≠ db ∧ x ≠ mb) w3 wr)) (fun iv _ => n - (intOf iv).toNat)
      case atStart => exact ⟨0, rfl, Nat.zero_le _, H3.out.1, H3.out.2, Kept.refl _ _⟩
      case round =>
        clear H3
        obtain ⟨i, rfl, hi, hS⟩ := hrel
        by_cases hlt : i < n
        · have hil : i < us'.length := by have := Hn2.out; omega
          obtain ⟨u, hu⟩ : ∃ u, us'[i]? = some u := ⟨_, List.getElem?_eq_getElem hil⟩
          obtain ⟨d, z, rfl, hd, hz⟩ := Hu.out i u hu
          obtain ⟨b, o, rfl, hblt, c0, c1⟩ := (Hr.out.move (w' := wr) (fun b o e => hS.out.2.2.block b (by
            obtain ⟨b', o', e', hlt', _⟩ := Hr.out i _ hu
            rw [e'] at e; cases e; exact hlt') (by
            have := HA.out b o e (by intro q; rw [q] at hu; simp at hu)
            have := Hsz.out
            exact ⟨by omega, by omega⟩))) i _ hu
          simp only [] at c0 c1
          have hlt' : (i : Int) < (n : Int) := by omega
          have Hput := Lib.hid fun o => put_any d z 0 hd hz (by omega) (hS.out.1.alloc o)
          unfold uV at Hput
          have Hnx : Hid (upd (setAll g 0 (us'.take i)) d z 0 = setAll g 0 (us'.take (i + 1))) := by
            rw [List.take_add_one, hu]
            show _ = setAll g 0 (us'.take i ++ [((d : Int), (z : Int))])
            rw [setAll_snoc]
            simp
          have Hkp := Lib.hid hS.out.2
          clear hu hlt hS hil hblt
          go_wp2_with fail
          refine (Hput.out _).mono ?_
          rintro e w4 ⟨rfl, h4⟩
          have H4 : Hid (TabAt w4 tb db mb cap D Z (setAll g 0 (us'.take (i + 1))) ∧ Kept (fun y => y ≠ db ∧ y ≠ mb) w w4 ∧ Kept (fun y => y ≠ db ∧ y ≠ mb) w3 w4) := ⟨Hnx.out ▸ h4.1, (Hkp.out.1.alloc _).trans h4.2, (Hkp.out.2.alloc _).trans h4.2⟩
          clear h4 Hkp Hput c0 c1
          go_wp2_with fail
          go_roundw
          case rel => exact ⟨i + 1, by go_num, by omega, H4.out⟩
          case measure => simp [intOf]; omega
        · obtain rfl : i = n := by omega
          have Hfin : Hid (∃ (A' : Option Addr) (c' : Nat) (us : List (Int × Int)), Ending.returned (.slice A i c) = .returned (.slice A' us.length c') ∧ HeldSo g D Z (fun _ => false) us ∧ SortedU us ∧ TabAt wr tb db mb cap D Z (setAll g 0 us) ∧ Kept (fun x => x ≠ db ∧ x ≠ mb) w wr ∧ RU wr wr.heap.size A' us ∧ (∀ b o, A' = some ⟨b, o, none⟩ → us ≠ [] → w.heap.size ≤ b)) := by
            refine ⟨A, c, us', by rw [Hn2.out], Hheld.out.1, Hheld.out.2, ?_, hS.out.2.1, ?_, fun b o e q => by have := HA.out b o e q; omega⟩
            · have := hS.out.1
              rw [List.take_of_length_le (by have := Hn2.out; omega)] at this
              exact this
            · intro k u hu
              obtain ⟨b, o, rfl, hblt, c0, c1⟩ := Hr.out k u hu
              have hne := HA.out b o rfl (by intro q; rw [q] at hu; simp at hu)
              have hk := hS.out.2.2.block b hblt (by have := Hsz.out; exact ⟨by omega, by omega⟩)
              exact ⟨b, o, rfl, by have := hS.out.2.2.size; omega, (World.cell?_of_block hk).trans c0, (World.cell?_of_block hk).trans c1⟩
          clear hS hlt
          go_wp2_with fail
          go_ret
          exact Hfin.out
    · as_aux_lemma =>
      intro x c kl y ps w1 cnt1 hkey hlk hR hat hrg1 hlt hg1 hs1 hen
      obtain ⟨d, z, hd, hz, rfl⟩ := Hv.out.only kl (hS.out.sub kl hlk)
      obtain rfl : x = uV d z := keyLaw.inj hkey (keyN (by omega) (by omega))
      obtain ⟨c', hc', hy, _⟩ := plainElem_int_inv Try.underlying3 hR
      cases hc'
      have hcz : c = (g d z : Nat) := by
        have h1 := hS.out.sub _ hlk
        rw [Hv.out.has d z (by omega) (by omega)] at h1
        have h2 := hat (.lit (.int .i64 0))
        rw [Hv.out.atk d z (by omega) (by omega), (Prod.mk.inj hy).1] at h2
        rw [stU_get] at h2
        simp at h2
        omega
      have hD32 : d ≤ 1000 := by omega
      have Hdz := Lib.hid (And.intro hd hz)
      have hcv : c = ((g d z : Nat) : Int) := hcz
      have hown1 : OwnU w1 (w.heap.size + 1) v us := hS.out.own.move (fun k hk => hg1.block k (hS.out.own.ge k hk).2 (fun e => by have := (hS.out.own.ge k hk).1; cases e; omega))
      have hbel1 : Below w.heap.size w w1 := hS.out.bel.grown hg1 hS.out.bel.size (fun k hk => by cases hk; exact Nat.le_refl _)
      have hsub1 : ∀ k, (left k && !k.sameKey (uk d z)) = true → Maps.has Dm k = true := fun k hk => hS.out.sub k (by simp at hk; exact hk.1)
      have hrlt := hrg1.lt
      by_cases h2 : g d z = 2
      · obtain rfl : c = 2 := by omega
        have Hn : Hid (∀ w2 w3 v3, w2 = w1.alloc (.cells #[.int .i64 (d : Int), .int .i64 (z : Int)] 24) → OwnU w3 (w.heap.size + 1) v3 (us ++ [((d : Int), (z : Int))]) → (w2.alloc (.cells #[.int .i64 (d : Int), .int .i64 (z : Int)] 24)).grownBy w3 v.ownBlock → RelSt w w3 mb D Z g Dm (fun q => left q && !q.sameKey (uk d z)) cnt1 v3 (us ++ [((d : Int), (z : Int))])) := by
          intro w2 w3 v3 e ho hg
          subst e
          have hb2 : Below w.heap.size w ((w1.alloc (.cells #[.int .i64 (d : Int), .int .i64 (z : Int)] 24)).alloc (.cells #[.int .i64 (d : Int), .int .i64 (z : Int)] 24)) := (hbel1.alloc hbel1.size _).alloc (hbel1.alloc hbel1.size _).size _
          refine ⟨((hrg1.alloc _).alloc _).kept hg (fun e => ?_) (fun e => ?_), ho, hb2.grown hg hb2.size (fun k hk => by have := (hown1.ge k hk).1; omega), hS.out.held.put hd hz hD hZ h2 hlk, hsub1⟩
          · have := (hown1.ge mb e.symm).1
            have := H0.out.mc.lt
            omega
          · have := (hown1.ge w.heap.size e.symm).1
            omega
        have Hm : Hid (cnt1 < cnt ∧ wr.rangeLeft mb w.heap.size = cnt) := ⟨hlt, hS.out.rg.left_eq⟩
        have Ho : Hid (OwnU w1 (w.heap.size + 1) v us ∧ us.length ≤ 131072 ∧ w.heap.size + 1 ≤ w1.heap.size) := ⟨hown1, by
          have := hS.out.held.2.1
          have : D * Z ≤ 32 * 4096 := Nat.mul_le_mul H0.out.d2 H0.out.z2
          omega, by omega⟩
        clear hS hkey hlk hR hat hrg1 hlt hg1 hs1 hy hcz hcv hown1 hbel1 hsub1 hrlt hd hz h2
        unfold uV at hen ⊢
        have Kk : Hid (Cells ((w1.alloc (.cells #[.int .i64 (d : Int), .int .i64 (z : Int)] 24)).alloc (.cells #[.int .i64 (d : Int), .int .i64 (z : Int)] 24)) (w1.heap.size + 1) 24 [.int .i64 (d : Int), .int .i64 (z : Int)]) := by
          have e1 : (w1.alloc (.cells #[.int .i64 (d : Int), .int .i64 (z : Int)] 24)).heap.size = w1.heap.size + 1 := by simp
          show Cells _ _ _ _
          rw [← e1]
          exact Cells.new _ _ _
        go_wp2_with (at_builtin; go_must (refine app_unit rfl (.tmp 20) (.tmp 22) rfl rfl (OwnU.alloc (OwnU.alloc Ho.out.1 _) _) (w1.heap.size + 1) 1 (d : Int) (z : Int) rfl (Kk.out.cell rfl) (Kk.out.cell rfl) (by have := Ho.out.2.1; omega) (by have := Ho.out.2.2; simp; omega) ?_); intro v3 w3 ho3 hg3 _; have H3 := Lib.hid (Hn.out _ w3 v3 rfl ho3 hg3); clear ho3 hg3 Hn)
        go_roundw
        case rel => exact ⟨_, cnt1, _, H3.out⟩
        case measure => rw [H3.out.rg.left_eq, Hm.out.2]; exact Hm.out.1
      · have hc2 : ¬ ((g d z : Nat) : Int) = 2 := by omega
        have Hn : Hid (RelSt w (w1.alloc (.cells #[.int .i64 (d : Int), .int .i64 (z : Int)] 24)) mb D Z g Dm (fun q => left q && !q.sameKey (uk d z)) cnt1 v us) :=
          ⟨hrg1.alloc _, hown1.alloc _, hbel1.alloc hbel1.size _, hS.out.held.stay (by omega) (by omega) hD hZ h2, hsub1⟩
        have Hm : Hid (cnt1 < cnt ∧ wr.rangeLeft mb w.heap.size = cnt) := ⟨hlt, hS.out.rg.left_eq⟩
        subst hcv
        clear hS hkey hlk hR hat hrg1 hlt hg1 hs1 hy hcz hown1 hbel1 hsub1 hrlt hd hz h2
        generalize g d z = s at *
        unfold uV at hen ⊢
        go_wp2_with fail
        go_roundw
        case rel => exact ⟨_, cnt1, us, Hn.out⟩
        case measure => rw [Hn.out.rg.left_eq, Hm.out.2]; exact Hm.out.1
end
end Go.Proofs.Ytajpnjapfiffmaa
