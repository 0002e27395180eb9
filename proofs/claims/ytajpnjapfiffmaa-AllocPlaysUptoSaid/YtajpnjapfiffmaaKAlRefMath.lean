/-
  Plain data of the second saying: counts by state, what is held in order, the first of the most.
-/
import Derived.Test.YtajpnjapfiffmaaKAlRead
import Derived.Test.YtajpnjapfiffmaaKAlGreedy
import Derived.Test.YtajpnjapfiffmaaKAlRef1
import Derived.StillTailTactics
namespace Go.Proofs.Ytajpnjapfiffmaa
open Go.RowKit Go.Maps

/-! what is held, in order -/
def heldK (g : St) (i : Nat) : Nat → List (Int × Int)
  | 0 => []
  | k + 1 => if g i k = 2 then heldK g i k ++ [((i : Int), (k : Int))] else heldK g i k
def heldR (g : St) (Z : Nat) : Nat → List (Int × Int)
  | 0 => []
  | i + 1 => heldR g Z i ++ heldK g i Z
/-- the held ones ahead of i, k are free -/
def relG (g : St) (i k : Nat) : St := fun d z => if (d < i ∨ (d = i ∧ z < k)) ∧ g d z = 2 then 0 else g d z
theorem relG_zero (g : St) : relG g 0 0 = g := by
  funext d z
  unfold relG
  rw [if_neg (by omega)]
theorem relG_at (g : St) (i k : Nat) : relG g i k i k = g i k := by
  unfold relG
  rw [if_neg (by omega)]
theorem relG_held {g : St} {i k : Nat} (h : g i k = 2) : relG g i (k + 1) = upd (relG g i k) i k 0 := by
  funext d z
  unfold relG upd
  by_cases q : d = i ∧ z = k
  · obtain ⟨rfl, rfl⟩ := q
    rw [if_pos ⟨by omega, h⟩, if_pos ⟨rfl, rfl⟩]
  · rw [if_neg q]
    show (if (d < i ∨ (d = i ∧ z < k + 1)) ∧ g d z = 2 then 0 else g d z) = (if (d < i ∨ (d = i ∧ z < k)) ∧ g d z = 2 then 0 else g d z)
    by_cases q2 : (d < i ∨ (d = i ∧ z < k)) ∧ g d z = 2
    · rw [if_pos q2, if_pos ⟨by omega, q2.2⟩]
    · rw [if_neg q2, if_neg (fun q3 => q2 ⟨by omega, q3.2⟩)]
theorem relG_not {g : St} {i k : Nat} (h : g i k ≠ 2) : relG g i (k + 1) = relG g i k := by
  funext d z
  unfold relG
  by_cases q2 : (d < i ∨ (d = i ∧ z < k)) ∧ g d z = 2
  · rw [if_pos q2, if_pos ⟨by omega, q2.2⟩]
  · rw [if_neg q2, if_neg (fun q3 => q2 ⟨?_, q3.2⟩)]
    by_cases q : d = i ∧ z = k
    · obtain ⟨rfl, rfl⟩ := q
      exact absurd q3.2 h
    · omega
theorem relG_row {g : St} {i Z : Nat} (h : ∀ z, Z ≤ z → g i z ≠ 2) : relG g i Z = relG g (i + 1) 0 := by
  funext d z
  unfold relG
  by_cases q2 : (d < i ∨ (d = i ∧ z < Z)) ∧ g d z = 2
  · rw [if_pos q2, if_pos ⟨by omega, q2.2⟩]
  · rw [if_neg q2, if_neg (fun q3 => q2 ⟨?_, q3.2⟩)]
    by_cases q : d = i
    · subst q
      by_cases q4 : z < Z
      · omega
      · exact absurd q3.2 (h z (by omega))
    · omega
theorem relG_le {g : St} (h : ∀ d z, g d z ≤ 3) (i k d z : Nat) : relG g i k d z ≤ 3 := by
  unfold relG
  split
  · omega
  · exact h d z
theorem heldK_mem (g : St) (i : Nat) (u : Int × Int) : ∀ k, u ∈ heldK g i k ↔ ∃ z : Nat, z < k ∧ u = ((i : Int), (z : Int)) ∧ g i z = 2
  | 0 => by simp [heldK]
  | k + 1 => by
    unfold heldK
    constructor
    · intro h
      by_cases q : g i k = 2
      · rw [if_pos q] at h
        rcases List.mem_append.1 h with h | h
        · obtain ⟨z, h1, h2⟩ := (heldK_mem g i u k).1 h
          exact ⟨z, by omega, h2⟩
        · exact ⟨k, by omega, by simpa using h, q⟩
      · rw [if_neg q] at h
        obtain ⟨z, h1, h2⟩ := (heldK_mem g i u k).1 h
        exact ⟨z, by omega, h2⟩
    · rintro ⟨z, h1, rfl, h2⟩
      by_cases e : z = k
      · subst e
        rw [if_pos h2]
        simp
      · have := (heldK_mem g i ((i : Int), (z : Int)) k).2 ⟨z, by omega, rfl, h2⟩
        split
        · exact List.mem_append_left _ this
        · exact this
theorem heldR_mem (g : St) (Z : Nat) (u : Int × Int) : ∀ i, u ∈ heldR g Z i ↔ ∃ d z : Nat, d < i ∧ z < Z ∧ u = ((d : Int), (z : Int)) ∧ g d z = 2
  | 0 => by simp [heldR]
  | i + 1 => by
    unfold heldR
    rw [List.mem_append, heldR_mem g Z u i, heldK_mem]
    constructor
    · rintro (⟨d, z, h1, h2⟩ | ⟨z, h1, h2⟩)
      · exact ⟨d, z, by omega, h2⟩
      · exact ⟨i, z, by omega, h1, h2⟩
    · rintro ⟨d, z, h1, h2, h3, h4⟩
      by_cases e : d = i
      · subst e; exact .inr ⟨z, h2, h3, h4⟩
      · exact .inl ⟨d, z, by omega, h2, h3, h4⟩
theorem heldK_sorted (g : St) (i : Nat) : ∀ k, (heldK g i k).Pairwise (fun a b => cfU a b < 0)
  | 0 => by simp [heldK]
  | k + 1 => by
    unfold heldK
    split
    · refine List.pairwise_append.2 ⟨heldK_sorted g i k, by simp, fun x hx y hy => ?_⟩
      obtain ⟨z, h1, rfl, _⟩ := (heldK_mem g i x k).1 hx
      simp at hy
      subst hy
      rw [cfU_neg]
      exact .inr ⟨rfl, by simp; omega⟩
    · exact heldK_sorted g i k
theorem heldR_sorted (g : St) (Z : Nat) : ∀ i, (heldR g Z i).Pairwise (fun a b => cfU a b < 0)
  | 0 => by simp [heldR]
  | i + 1 => by
    unfold heldR
    refine List.pairwise_append.2 ⟨heldR_sorted g Z i, heldK_sorted g i Z, fun x hx y hy => ?_⟩
    obtain ⟨d, z, h1, _, rfl, _⟩ := (heldR_mem g Z x i).1 hx
    obtain ⟨z', _, rfl, _⟩ := (heldK_mem g i y Z).1 hy
    rw [cfU_neg]
    exact .inl (by simp; omega)
theorem cfU_asymm {a b : Int × Int} (h : cfU a b < 0) : ¬ cfU b a < 0 := fun q => by
  rw [cfU_neg] at h q
  omega
/-- WHAT Release TELLS is what is held, in order -/
theorem held_is {g : St} {D Z : Nat} {us : List (Int × Int)} (h : HeldSo g D Z (fun _ => false) us) (hs : SortedU us) : us = heldR g Z D := by
  have hn2 : (heldR g Z D).Nodup := (heldR_sorted g Z D).imp fun {a b} h e => by
    subst e
    exact cfU_asymm h h
  have hp : us.Perm (heldR g Z D) := (List.perm_ext_iff_of_nodup h.1 hn2).2 fun u => by
    rw [h.2.2 u, heldR_mem]
    constructor
    · rintro ⟨d, z, h1, h2, h3, h4, _⟩; exact ⟨d, z, h1, h2, h3, h4⟩
    · rintro ⟨d, z, h1, h2, h3, h4⟩; exact ⟨d, z, h1, h2, h3, h4, rfl⟩
  refine hp.eq_of_pairwise (le := fun a b => ¬ cfU b a < 0) (fun a b _ _ h1 h2 => ?_) hs ((heldR_sorted g Z D).imp fun h => cfU_asymm h)
  rw [cfU_neg] at h1 h2
  exact Prod.ext (by omega) (by omega)
theorem setAll_append (k : Nat) : ∀ (l1 l2 : List (Int × Int)) (g : St), setAll g k (l1 ++ l2) = setAll (setAll g k l1) k l2
  | [], _, _ => rfl
  | _ :: l1, l2, _ => setAll_append k l1 l2 _
theorem setAll_heldK (g g' : St) (i : Nat) (h : g' = relG g i 0) : ∀ k, setAll g' 0 (heldK g i k) = relG g i k
  | 0 => h
  | k + 1 => by
    unfold heldK
    by_cases q : g i k = 2
    · rw [if_pos q, setAll_snoc, setAll_heldK g g' i h k, relG_held q]
      simp
    · rw [if_neg q, setAll_heldK g g' i h k, relG_not q]
theorem setAll_heldR {g : St} {Z : Nat} (h : ∀ d z, Z ≤ z → g d z ≠ 2) : ∀ i, setAll g 0 (heldR g Z i) = relG g i 0
  | 0 => (relG_zero g).symm
  | i + 1 => by
    unfold heldR
    rw [setAll_append, setAll_heldK g _ i (setAll_heldR h i), relG_row (h i)]

/-! the first of the most -/
/-- among the first i that p lets: the first one for which f is the greatest; -1, if p lets none -/
def bestK (p : Nat → Bool) (f : Nat → Nat) : Nat → Int
  | 0 => -1
  | i + 1 => if p i = true ∧ (bestK p f i < 0 ∨ f (bestK p f i).toNat < f i) then (i : Int) else bestK p f i
theorem bestK_spec (p : Nat → Bool) (f : Nat → Nat) : ∀ i, (bestK p f i = -1 ∧ ∀ d, d < i → p d = false) ∨ ∃ b : Nat, b < i ∧ bestK p f i = (b : Int) ∧ p b = true ∧ ∀ d, d < i → p d = true → f d < f b ∨ (f d = f b ∧ b ≤ d)
  | 0 => .inl ⟨rfl, fun d hd => by omega⟩
  | i + 1 => by
    unfold bestK
    by_cases hp : p i = true
    · rcases bestK_spec p f i with ⟨h1, h2⟩ | ⟨b, h1, h2, h3, h4⟩
      · rw [if_pos ⟨hp, .inl (by omega)⟩]
        refine .inr ⟨i, by omega, rfl, hp, fun d hd hpd => ?_⟩
        by_cases e : d = i
        · subst e; exact .inr ⟨rfl, Nat.le_refl _⟩
        · rw [h2 d (by omega)] at hpd; cases hpd
      · by_cases hf : f b < f i
        · rw [if_pos ⟨hp, .inr (by rw [h2]; simpa using hf)⟩]
          refine .inr ⟨i, by omega, rfl, hp, fun d hd hpd => ?_⟩
          by_cases e : d = i
          · subst e; exact .inr ⟨rfl, Nat.le_refl _⟩
          · have := h4 d (by omega) hpd; exact .inl (by omega)
        · rw [if_neg (fun q => by
            rcases q.2 with q | q
            · omega
            · rw [h2] at q; simp at q; omega)]
          refine .inr ⟨b, by omega, h2, h3, fun d hd hpd => ?_⟩
          by_cases e : d = i
          · subst e; omega
          · exact h4 d (by omega) hpd
    · rw [if_neg (fun q => hp q.1)]
      rw [Bool.not_eq_true] at hp
      rcases bestK_spec p f i with ⟨h1, h2⟩ | ⟨b, h1, h2, h3, h4⟩
      · refine .inl ⟨h1, fun d hd => ?_⟩
        by_cases e : d = i
        · subst e; exact hp
        · exact h2 d (by omega)
      · refine .inr ⟨b, by omega, h2, h3, fun d hd hpd => ?_⟩
        by_cases e : d = i
        · subst e; rw [hp] at hpd; cases hpd
        · exact h4 d (by omega) hpd
theorem bestK_range (p : Nat → Bool) (f : Nat → Nat) (i : Nat) : -1 ≤ bestK p f i ∧ bestK p f i < (i : Int) ∨ bestK p f i = -1 := by
  rcases bestK_spec p f i with ⟨h, _⟩ | ⟨b, h1, h2, _⟩
  · exact .inr h
  · exact .inl ⟨by omega, by omega⟩
/-- may drive d be taken next, W being chosen? -/
def candB (g : St) (Z : Nat) (wo W : List Int) (d : Nat) : Bool := decide ((d : Int) ∉ wo ∧ (d : Int) ∉ W ∧ 0 < cnt (g d) 0 Z)
/-- the next of the order -/
theorem best_next {g : St} {D Z : Nat} {wo M : List Int} (hp : M.Perm (roomyL g Z wo D)) (ha : Asc (frF g D Z) M) (j : Nat) :
    (M.length ≤ j → bestK (candB g Z wo (M.take j)) (fun d => cnt (g d) 0 Z) D = -1) ∧ ∀ (h : j < M.length), bestK (candB g Z wo (M.take j)) (fun d => cnt (g d) 0 Z) D = M[j] := by
  have hnd : M.Nodup := ha.imp fun h e => by subst e; exact h.irr
  have hmem : ∀ d : Nat, d < D → ((candB g Z wo (M.take j) d = true) ↔ (d : Int) ∈ M.drop j) := fun d hd => by
    have h1 : (d : Int) ∈ M ↔ (d : Int) ∉ wo ∧ 0 < cnt (g d) 0 Z := by
      rw [hp.mem_iff, roomyL_mem]
      constructor
      · rintro ⟨d', h1, h2, h3, h4⟩
        obtain rfl : d = d' := by omega
        exact ⟨h4, h3⟩
      · rintro ⟨h1, h2⟩; exact ⟨d, hd, rfl, h2, h1⟩
    unfold candB
    rw [decide_eq_true_iff]
    have hsplit : (d : Int) ∈ M ↔ (d : Int) ∈ M.take j ∨ (d : Int) ∈ M.drop j := by
      rw [← List.mem_append, List.take_append_drop]
    have hex : (d : Int) ∈ M.take j → ¬ (d : Int) ∈ M.drop j := fun h2 h3 => by
      have := hnd
      rw [← List.take_append_drop j M] at this
      exact (List.pairwise_append.1 this).2.2 _ h2 _ h3 rfl
    constructor
    · rintro ⟨q1, q2, q3⟩
      rcases hsplit.1 (h1.2 ⟨q1, q3⟩) with q | q
      · exact absurd q q2
      · exact q
    · intro q
      obtain ⟨q1, q2⟩ := h1.1 (hsplit.2 (.inr q))
      exact ⟨q1, fun q3 => hex q3 q, q2⟩
  refine ⟨fun hj => ?_, fun hj => ?_⟩
  · rcases bestK_spec (candB g Z wo (M.take j)) (fun d => cnt (g d) 0 Z) D with ⟨h1, _⟩ | ⟨b, h1, h2, h3, _⟩
    · exact h1
    · have := (hmem b h1).1 h3
      rw [List.drop_eq_nil_of_le hj] at this
      simp at this
  · have hdrop : M.drop j = M[j] :: M.drop (j + 1) := List.drop_eq_getElem_cons hj
    obtain ⟨m, hm1, hm2, _⟩ : ∃ m : Nat, m < D ∧ M[j] = (m : Int) ∧ True := by
      obtain ⟨d, h1, h2, _⟩ := (roomyL_mem g Z wo D M[j]).1 (hp.mem_iff.1 (List.getElem_mem hj))
      exact ⟨d, h1, h2, trivial⟩
    have hcm : candB g Z wo (M.take j) m = true := (hmem m hm1).2 (by rw [hdrop, hm2]; simp)
    rcases bestK_spec (candB g Z wo (M.take j)) (fun d => cnt (g d) 0 Z) D with ⟨_, h2⟩ | ⟨b, h1, h2, h3, h4⟩
    · rw [h2 m hm1] at hcm; cases hcm
    · rw [h2, hm2]
      have hb := (hmem b h1).1 h3
      rw [hdrop] at hb
      rcases List.mem_cons.1 hb with hb | hb
      · omega
      · have hlt : ltF (frF g D Z) M[j] b := by
          have := ha
          rw [← List.take_append_drop j M, hdrop] at this
          exact (List.pairwise_cons.1 (List.pairwise_append.1 this).2.1).1 _ hb
        rw [hm2] at hlt
        unfold ltF frF at hlt
        rw [freeOn_nat g h1, freeOn_nat g hm1] at hlt
        have := h4 m hm1 hcm
        omega
/-- an ascending list, up to i -/
theorem filter_succ {L : List Nat} (h : L.Pairwise (· < ·)) (i : Nat) : L.filter (fun d => decide (d < i + 1)) = L.filter (fun d => decide (d < i)) ++ (if i ∈ L then [i] else []) := by
  induction L with
  | nil => simp
  | cons x L ih =>
    have hx := List.pairwise_cons.1 h
    have ih := ih hx.2
    by_cases h1 : x < i
    · have e : (i ∈ x :: L) ↔ i ∈ L := by simp; omega
      rw [List.filter_cons_of_pos (by simp; omega), List.filter_cons_of_pos (by simpa using h1), ih]
      simp only [e, List.cons_append]
    · have hnone : L.filter (fun d => decide (d < i)) = [] := by
        rw [List.filter_eq_nil_iff]
        intro a ha
        have := hx.1 a ha
        simp; omega
      by_cases h2 : x = i
      · subst h2
        have hnone2 : L.filter (fun d => decide (d < x + 1)) = [] := by
          rw [List.filter_eq_nil_iff]
          intro a ha
          have := hx.1 a ha
          simp; omega
        rw [List.filter_cons_of_pos (by simp), List.filter_cons_of_neg (by simp), hnone2, hnone]
        simp
      · have hnone2 : L.filter (fun d => decide (d < i + 1)) = [] := by
          rw [List.filter_eq_nil_iff]
          intro a ha
          have := hx.1 a ha
          simp; omega
        have hni : i ∉ x :: L := fun q => by
          rcases List.mem_cons.1 q with q | q
          · omega
          · have := hx.1 i q; omega
        rw [List.filter_cons_of_neg (by simp; omega), List.filter_cons_of_neg (by simp; omega), hnone2, hnone, if_neg hni]
        simp
theorem filter_all {L : List Nat} {D : Nat} (h : ∀ d ∈ L, d < D) : L.filter (fun d => decide (d < D)) = L := List.filter_eq_self.2 fun d hd => by simpa using h d hd
theorem filter_none (L : List Nat) : L.filter (fun d => decide (d < 0)) = [] := by simp

/-! sets, by how many are free -/
/-- the set under way: W is chosen -/
structure SetSt (f : Nat → Nat) (D m : Nat) (W : List Nat) : Prop where
  nd : W.Nodup
  len : W.length = m
  lt : ∀ d ∈ W, d < D
  pos : ∀ d ∈ W, 0 < f d
  most : ∀ d ∈ W, ∀ e, e < D → e ∉ W → f e ≤ f d
theorem SetSt.nil (f : Nat → Nat) (D : Nat) : SetSt f D 0 [] := ⟨List.nodup_nil, rfl, fun d h => by simp at h, fun d h => by simp at h, fun d h => by simp at h⟩
/-- may d be chosen? -/
def freeB (f : Nat → Nat) (W : List Nat) (d : Nat) : Bool := !decide (d ∈ W) && decide (0 < f d)
theorem SetSt.next {f : Nat → Nat} {D m : Nat} {W : List Nat} (h : SetSt f D m W) {b : Nat} (hb : bestK (freeB f W) f D = (b : Int)) : b < D ∧ SetSt f D (m + 1) (b :: W) := by
  rcases bestK_spec (freeB f W) f D with ⟨h1, _⟩ | ⟨b', h1, h2, h3, h4⟩
  · omega
  obtain rfl : b = b' := by omega
  have h3' : b ∉ W ∧ 0 < f b := by simpa [freeB] using h3
  refine ⟨h1, List.nodup_cons.2 ⟨h3'.1, h.nd⟩, by simp [h.len], fun d hd => ?_, fun d hd => ?_, fun d hd e he hne => ?_⟩
  · rcases List.mem_cons.1 hd with rfl | hd
    · exact h1
    · exact h.lt d hd
  · rcases List.mem_cons.1 hd with rfl | hd
    · exact h3'.2
    · exact h.pos d hd
  · have hne' : e ≠ b ∧ e ∉ W := by simpa using hne
    rcases List.mem_cons.1 hd with rfl | hd
    · by_cases h0 : f e = 0
      · omega
      · have := h4 e he (by simp [freeB, hne'.2]; omega)
        omega
    · exact h.most d hd e he hne'.2
/-- no more to choose: no set more -/
theorem SetSt.stop {f : Nat → Nat} {D m n : Nat} {W : List Nat} (h : SetSt f D m W) (hm : m < n) (hb : bestK (freeB f W) f D = -1) : ¬ feas f D n 1 := fun q => by
  rcases bestK_spec (freeB f W) f D with ⟨_, h2⟩ | ⟨b', h1, h2, h3, h4⟩
  · unfold feas at q
    have : sumN (fun d => min (f d) 1) D ≤ sumN (inL W) D := sumN_le D fun d hd => by
      have := h2 d hd
      by_cases e : d ∈ W
      · simp only [inL, e, if_true]; omega
      · have : ¬ 0 < f d := by simpa [freeB, e] using this
        omega
    rw [sum_inL W D h.nd h.lt, h.len] at this
    omega
  · omega
/-- one set is gone -/
theorem SetSt.go {f f' : Nat → Nat} {D n : Nat} {W : List Nat} (h : SetSt f D n W) (hf : ∀ d, d < D → f' d = f d - inL W d) (j : Nat) : feas f D n (j + 1) ↔ feas f' D n j :=
  feas_greedy h.nd h.lt h.len h.pos h.most fun d hd => by
    have h1 := hf d hd
    by_cases q : d ∈ W
    · have := h.pos d q
      have e1 : inL W d = 1 := by simp [inL, q]
      omega
    · have e1 : inL W d = 0 := by simp [inL, q]
      omega
theorem SetSt.less {f f' : Nat → Nat} {D n : Nat} {W : List Nat} (h : SetSt f D n W) (hf : ∀ d, d < D → f' d = f d - inL W d) : sumN f' D + n = sumN f D := by
  have h1 : sumN f D = sumN (fun d => f' d + inL W d) D := sumN_congr D fun d hd => by
    have h1 := hf d hd
    by_cases q : d ∈ W
    · have := h.pos d q
      have e1 : inL W d = 1 := by simp [inL, q]
      show f d = f' d + inL W d
      omega
    · have e1 : inL W d = 0 := by simp [inL, q]
      show f d = f' d + inL W d
      omega
  rw [h1, sumN_add, sum_inL W D h.nd h.lt, h.len]
end Go.Proofs.Ytajpnjapfiffmaa

/-
  The second saying's table: Set, Release.
-/
namespace Go.Proofs.Ytajpnjapfiffmaa
open Go.RowKit Go.Maps
section
set_option maxRecDepth 20000
set_option maxHeartbeats 800000
variable {w w' : World} {rb lb cap D Z : Nat} {R : Nat → Nat} {g : St}
theorem RefT.keptR {W : World} {g' : St} (h : RefT W rb lb cap D Z R g') (hk : Kept (NotR D R) w W) {d : Nat} (hd : d < D) (i : Nat) (v : Value) : Kept (NotR D R) w (W.setCell ⟨R d, i, none⟩ v) :=
  hk.setCell (p := ⟨R d, i, none⟩) (fun q => q d hd rfl) _
theorem rset_any (x : Int) (A : Option Addr) (c : Nat) (us : List (Int × Int)) (hl : us.length ≤ 1099511627776) (hr : RU w w.heap.size A us) (hA : ∀ b o, A = some ⟨b, o, none⟩ → us ≠ [] → NotR D R b) (h : RefT w rb lb cap D Z R g) :
    Calls Try.prog 16 #[.pointer (some ⟨rb, 0, none⟩), .int .i64 x, .slice A us.length c] w fun e w' => e = .returned (.int .i64 (setE D Z x us)) ∧ RefT w' rb lb cap D Z R (setG g D Z x us) ∧ Kept (NotR D R) w w' := by
  have H0 := Lib.hid h
  by_cases hx : 0 ≤ x ∧ x ≤ 3
  case neg =>
    have Hf : Hid (setE D Z x us = 1 ∧ setG g D Z x us = g) := ⟨if_neg (fun q => hx q.1), if_neg (fun q => hx q.1)⟩
    have hx2 : x < 0 ∨ (0 ≤ x ∧ 3 < x) := by omega
    clear hr h hx hA
    rcases hx2 with h0 | ⟨h0, h1⟩
    all_goals
      go_enter Try.func16, Try.ntmps16
      go_wp2_with fail
      go_ret
      exact ⟨by rw [Hf.out.1]; rfl, by rw [Hf.out.2]; exact H0.out, Kept.refl _ _⟩
  obtain ⟨k, rfl⟩ : ∃ k : Nat, x = (k : Int) := ⟨x.toNat, by omega⟩
  have hk : k ≤ 3 := by omega
  have hkn : ¬ 3 < k := by omega
  have Hr := Lib.hid hr
  have HA := Lib.hid hA
  have hl' : ((us.length : Nat) : Int) ≤ 1099511627776 := by omega
  have Hlen : Hid (∀ k : Nat, k < us.length → ∃ u, us[k]? = some u) := fun k hk => ⟨_, List.getElem?_eq_getElem hk⟩
  obtain ⟨n, hn⟩ : ∃ n, n = us.length := ⟨_, rfl⟩
  rw [← hn] at hl' Hlen ⊢
  have Hn := Lib.hid hn
  have Hf : Hid ((allUnits D Z us = false → setE D Z k us = 1 ∧ setG g D Z k us = g) ∧ (allUnits D Z us = true → setE D Z k us = 0 ∧ setG g D Z k us = setAll g k us)) := by
    refine ⟨fun q => ⟨if_neg (fun q2 => by rw [q] at q2; cases q2.2), if_neg (fun q2 => by rw [q] at q2; cases q2.2)⟩, fun q => ⟨if_pos ⟨hx, q⟩, ?_⟩⟩
    unfold setG
    rw [if_pos ⟨hx, q⟩]; simp
  clear h hr hl hn hA hx
  go_enter Try.func16, Try.ntmps16
  go_wp2_with fail
  go_loopw [7] (fun iv wr => ∃ i : Nat, iv = .int .i64 (i : Int) ∧ i ≤ n ∧ Hid (allUnits D Z (us.take i) = true) ∧ Hid (Below w.heap.size w wr)) (fun iv _ => n - (intOf iv).toNat)
  case atStart => exact ⟨0, rfl, Nat.zero_le _, rfl, Below.refl _ _⟩
  case round =>
    obtain ⟨i, rfl, hi, hall, hb⟩ := hrel
    by_cases hlt : i < n
    · obtain ⟨u, hu⟩ := Hlen.out i hlt
      obtain ⟨b, o, rfl, hblt, c0, c1⟩ := (Hr.out.below hb.out) i u hu
      have hlt' : (i : Int) < (n : Int) := by omega
      have Hlk := Lib.hid (ris_any u.1 u.2 (H0.out.below hb.out))
      unfold uV at Hlk
      have Hall : Hid (isUnit D Z u.1 u.2 = true → allUnits D Z (us.take (i + 1)) = true) := fun hq => by
        rw [List.take_add_one, hu]
        unfold allUnits
        rw [List.all_append]
        have := hall.out
        unfold allUnits at this
        rw [this]
        simp [hq]
      have Hno : Hid (isUnit D Z u.1 u.2 = false → allUnits D Z us = false) := fun hq => by
        unfold allUnits
        rw [List.all_eq_false]
        exact ⟨u, List.mem_of_getElem? hu, by simp [hq]⟩
      have Hb := hb
      generalize u.1 = x at *
      generalize u.2 = y at *
      clear hu hall hb hlt Hlen
      by_cases hq : isUnit D Z x y = true
      · rw [hq] at Hlk
        have Ha := Lib.hid (Hall.out hq)
        clear hq Hall Hno
        go_wp2_with fail
        refine Hlk.out.mono ?_
        rintro e w1 ⟨rfl, hw1⟩
        have Hb3 : Hid (Below w.heap.size w w1) := Hb.out.trans (hw1.mono Hb.out.size)
        clear hw1 Hlk c0 c1
        go_wp2_with fail
        go_roundw
        case rel => exact ⟨i + 1, by go_num, by omega, Ha.out, Hb3.out⟩
        case measure => simp [intOf]; omega
      · rw [Bool.not_eq_true] at hq
        rw [hq] at Hlk
        have Ha := Lib.hid (Hf.out.1 (Hno.out hq))
        clear hq Hall Hno
        go_wp2_with fail
        refine Hlk.out.mono ?_
        rintro e w1 ⟨rfl, hw1⟩
        have Hb3 : Hid (Below w.heap.size w w1) := Hb.out.trans (hw1.mono Hb.out.size)
        clear hw1 Hlk c0 c1
        go_wp2_with fail
        go_ret
        exact ⟨by rw [Ha.out.1]; rfl, by rw [Ha.out.2]; exact H0.out.below Hb3.out, (Kept.refl _ w).below Hb3.out⟩
    · obtain rfl : i = n := by omega
      have Ha : Hid (allUnits D Z us = true) := by
        have := hall.out
        rw [Hn.out, List.take_of_length_le (Nat.le_refl _)] at this
        exact this
      have Hb := hb
      have H2 := Lib.hid (H0.out.below hb.out)
      have Hall : Hid (∀ (i : Nat) u, us[i]? = some u → ∃ d z : Nat, u = ((d : Int), (z : Int)) ∧ d < D ∧ z < Z) := by
        intro i u hu
        have := List.all_eq_true.1 Ha.out u (List.mem_of_getElem? hu)
        have hq := of_decide_eq_true this
        exact ⟨u.1.toNat, u.2.toNat, by ext <;> simp <;> omega, by omega, by omega⟩
      have Hfin := Lib.hid (Hf.out.2 Ha.out)
      have Hk2 : Hid (Kept (NotR D R) w wr) := (Kept.refl _ w).below hb.out
      clear hall hb hlt hi
      generalize wr = W1 at *
      go_wp2_with fail
      go_loopw [8] (fun iv wr => ∃ j : Nat, iv = .int .i64 (j : Int) ∧ j ≤ i ∧ Hid (RefT wr rb lb cap D Z R (setAll g k (us.take j))) ∧ Hid (Kept (NotR D R) w wr)) (fun iv _ => i - (intOf iv).toNat)
      case atStart => exact ⟨0, rfl, Nat.zero_le _, H2.out, Hk2.out⟩
      case round =>
        obtain ⟨j, rfl, hj, ht, hkp⟩ := hrel
        by_cases hlt : j < i
        · obtain ⟨u, hu⟩ := Hlen.out j hlt
          obtain ⟨d, z, rfl, hd, hz⟩ := Hall.out j u hu
          obtain ⟨b, o, rfl, hblt, c0, c1⟩ := (Hr.out.move (w' := wr) (fun b o e => hkp.out.block b (by
            obtain ⟨b', o', e', hlt', _⟩ := Hr.out j _ hu
            rw [e'] at e; cases e; exact hlt') (HA.out b o e (by intro q; rw [q] at hu; simp at hu)))) j _ hu
          simp only [] at c0 c1
          have hlt' : (j : Int) < (i : Int) := by omega
          have hd' : (d : Int) < (D : Int) := by omega
          have hz' : (z : Int) < (Z : Int) := by omega
          have t0 := ht.out.c0
          have t1 := ht.out.c1 hd
          have t2 := ht.out.c2 hd hz
          have t3 : wr.drew.frozen? ⟨R d, z, none⟩ = false := ht.out.f2 hd z
          have t4 : wr.drew.cell? ⟨R d, z, none⟩ = _ := ht.out.c2 hd hz
          have hZ : (Z : Int) ≤ 4096 := by have := H0.out.z2; omega
          have hD : (D : Int) ≤ 32 := by have := H0.out.d2; omega
          have Hnx : Hid (RefT (wr.drew.setCell ⟨R d, z, none⟩ (.int .i64 (k : Int))) rb lb cap D Z R (setAll g k (us.take (j + 1))) ∧ Kept (NotR D R) w (wr.drew.setCell ⟨R d, z, none⟩ (.int .i64 (k : Int)))) := by
            refine ⟨?_, (ht.out.drewN 1).keptR hkp.out.drew hd _ _⟩
            rw [List.take_add_one, hu]
            show RefT _ _ _ _ _ _ _ (setAll g k (us.take j ++ [((d : Int), (z : Int))]))
            rw [setAll_snoc]
            have e : RefT (wr.drew.setCell ⟨R d, z, none⟩ (.int .i64 (k : Int))) rb lb cap D Z R (upd (setAll g k (us.take j)) d z k) := (ht.out.drewN 1).set hd hk
            simpa using e
          generalize setAll g k (us.take j) d z = S at *
          clear hu hlt Hlen ht
          go_wp2_with fail
          refine wp_region_still_tail 18 (by kernel_rfl) (by kernel_rfl) ?_
          simp only [List.take_succ_cons, List.take_zero, List.drop_succ_cons, List.drop_zero]
          repeat still_step
          try refine wpStill_nil ?_
          change wpList _ _ _ _ _ wr.drew
          go_wp2_with fail
          go_roundw
          case rel => exact ⟨j + 1, by go_num, by omega, Hnx.out.1, Hnx.out.2⟩
          case measure => simp [intOf]; omega
        · obtain rfl : j = i := by omega
          have Hfin2 : Hid (RefT wr rb lb cap D Z R (setG g D Z k us) ∧ Kept (NotR D R) w wr) := by
            have := ht.out
            rw [Hn.out, List.take_of_length_le (Nat.le_refl _), ← Hfin.out.2] at this
            exact ⟨this, hkp.out⟩
          clear ht hkp hlt
          go_wp2_with fail
          go_ret
          exact ⟨by rw [Hfin.out.1]; rfl, Hfin2.out⟩
end
end Go.Proofs.Ytajpnjapfiffmaa

/-
  The second saying's table: Release.
-/
namespace Go.Proofs.Ytajpnjapfiffmaa
open Go.RowKit Go.Maps
/-- the walk is under way -/
structure RelR (w wr : World) (rb lb cap D Z : Nat) (R : Nat → Nat) (g : St) (i k : Nat) (v : Value) (us : List (Int × Int)) : Prop where
  tab : RefT wr rb lb cap D Z R (relG g i k)
  own : OwnU wr w.heap.size v us
  kept : Kept (NotR D R) w wr
  list : us = heldR g Z i ++ heldK g i k
section
set_option maxRecDepth 20000
set_option maxHeartbeats 800000
variable {w w' : World} {rb lb cap D Z : Nat} {R : Nat → Nat} {g : St}
theorem held_len {g : St} {D Z : Nat} (hZ : 0 < Z) {i k : Nat} (hi : i < D) (hk : k ≤ Z) (hD : D ≤ 32) (hZ2 : Z ≤ 4096) : (heldR g Z i ++ heldK g i k).length + 1 ≤ 1000000 := by
  have hn : (heldR g Z i ++ heldK g i k).Nodup := by
    have h1 : (heldR g Z i ++ heldK g i k).Pairwise (fun a b => cfU a b < 0) := List.pairwise_append.2 ⟨heldR_sorted g Z i, heldK_sorted g i k, fun x hx y hy => by
      obtain ⟨d, z, h1, _, rfl, _⟩ := (heldR_mem g Z x i).1 hx
      obtain ⟨z', _, rfl, _⟩ := (heldK_mem g i y k).1 hy
      rw [cfU_neg]
      exact .inl (by simp; omega)⟩
    exact h1.imp fun {a b} h e => by
      subst e
      exact cfU_asymm h h
  have h2 := units_len (D := D) hZ _ hn (fun u hu => by
    rcases List.mem_append.1 hu with hu | hu
    · obtain ⟨d, z, h1, h2, h3, _⟩ := (heldR_mem g Z u i).1 hu; exact ⟨d, z, by omega, h2, h3⟩
    · obtain ⟨z, h1, h2, _⟩ := (heldK_mem g i u k).1 hu; exact ⟨i, z, hi, by omega, h2⟩)
  have h3 : D * Z ≤ 32 * 4096 := Nat.mul_le_mul hD hZ2
  omega
theorem RelR.mid {wr : World} {i k : Nat} {v : Value} {us : List (Int × Int)} (h0 : RefT w rb lb cap D Z R g) (h : RelR w wr rb lb cap D Z R g i k v us) (hi : i < D) (hk : k < Z) (hy : g i k = 2) :
    OwnU (wr.setCell ⟨R i, k, none⟩ (.int .i64 0)) w.heap.size v us ∧ w.heap.size ≤ (wr.setCell ⟨R i, k, none⟩ (.int .i64 0)).heap.size ∧
    (∀ x y t, Cells ((wr.setCell ⟨R i, k, none⟩ (.int .i64 0)).alloc (.cells #[x, y] t)) wr.heap.size t [x, y]) ∧
    ∀ (o : Obj) (w3 : World) (v3 : Value), OwnU w3 w.heap.size v3 (us ++ [((i : Int), (k : Int))]) → ((wr.setCell ⟨R i, k, none⟩ (.int .i64 0)).alloc o).grownBy w3 v.ownBlock → RelR w w3 rb lb cap D Z R g i (k + 1) v3 (us ++ [((i : Int), (k : Int))]) := by
  have hT : RefT (wr.setCell ⟨R i, k, none⟩ (.int .i64 ((0 : Nat) : Int))) rb lb cap D Z R (upd (relG g i k) i k 0) := h.tab.set hi (by omega)
  have hlt0 : ∀ d, d < D → R d < w.heap.size := fun d hd => (h0.rows d hd).lt
  have hrb := h0.tc.lt
  have hlb := h0.lb_lt
  have hK := h.tab.keptR h.kept hi k (.int .i64 ((0 : Nat) : Int))
  have hO : OwnU (wr.setCell ⟨R i, k, none⟩ (.int .i64 0)) w.heap.size v us := h.own.move fun b hb => set_other _ _ (by have := (h.own.ge b hb).1; have := hlt0 i hi; omega)
  refine ⟨hO, hK.size, fun x y t => by simpa [World.setCell] using Cells.new (wr.setCell ⟨R i, k, none⟩ (.int .i64 0)) #[x, y] t, fun o w3 v3 ho hg => ⟨?_, ho, ?_, ?_⟩⟩
  · rw [relG_held hy]
    refine (hT.alloc o).move (hg.block _ (hT.alloc o).tc.lt ?_) (hg.block _ (hT.alloc o).lb_lt ?_) (fun d hd => hg.block _ ((hT.alloc o).rows d hd).lt ?_)
    · intro e; have := (h.own.ge _ e.symm).1; omega
    · intro e; have := (h.own.ge _ e.symm).1; omega
    · intro e; have := (h.own.ge _ e.symm).1; have := hlt0 d hd; omega
  · have k2 := hK.alloc o
    exact ⟨hg.os.trans k2.os, hg.tape.trans k2.tape, hg.output.trans k2.output, Nat.le_trans k2.size hg.size, fun b hb hq => (hg.block b (Nat.lt_of_lt_of_le hb k2.size) (fun e => by have := (h.own.ge _ e.symm).1; omega)).trans (k2.block b hb hq)⟩
  · have e : heldK g i (k + 1) = heldK g i k ++ [((i : Int), (k : Int))] := by show (if g i k = 2 then _ else _) = _; rw [if_pos hy]
    rw [e, ← List.append_assoc, ← h.list]
theorem rrelease_any (h : RefT w rb lb cap D Z R g) (hZ : 0 < Z) (hout : ∀ d z, Z ≤ z → g d z ≠ 2) :
    Calls Try.prog 18 #[.pointer (some ⟨rb, 0, none⟩)] w fun e w' => ∃ v, e = .returned v ∧ RefT w' rb lb cap D Z R (relG g D 0) ∧ Kept (NotR D R) w w' ∧ OwnU w' w.heap.size v (heldR g Z D) := by
  have H := Lib.hid h
  have hZ2 : (Z : Int) ≤ 4096 := by have := h.z2; omega
  have hD2 : (D : Int) ≤ 32 := by have := h.d2; omega
  have Hlen : Hid (∀ i k, i < D → k < Z → (heldR g Z i ++ heldK g i k).length + 1 ≤ 1000000) := fun i k hi hk => held_len hZ hi (Nat.le_of_lt hk) h.d2 h.z2
  have H0 : Hid (RelR w w rb lb cap D Z R g 0 0 (.slice none 0 0) []) := ⟨by rw [relG_zero]; exact h, OwnU.nil _ _, Kept.refl _ _, rfl⟩
  have Ho := Lib.hid hout
  clear h hout hZ
  go_enter Try.func18, Try.ntmps18
  go_wp2_with fail
  go_loopw [3, 4] (fun ov iv wr => ∃ (i : Nat) (us : List (Int × Int)) (v : Value), v = ov ∧ iv = .int .i64 (i : Int) ∧ i ≤ D ∧ Hid (RelR w wr rb lb cap D Z R g i 0 v us)) (fun _ iv _ => D - (intOf iv).toNat)
  case atStart => exact ⟨0, [], _, rfl, rfl, Nat.zero_le _, H0.out⟩
  case round =>
    obtain ⟨i, us, ov, rfl, rfl, hi, hst⟩ := hrel
    have c0 := hst.out.tab.c0
    by_cases hlt : i < D
    · have hlt' : (i : Int) < (D : Int) := by omega
      have Hlt := Lib.hid hlt
      have Hst := hst
      clear hlt hst
      generalize wr = W1 at *
      go_wp2_with fail
      go_loopw [3, 5] (fun ov kv wr => ∃ (k : Nat) (us : List (Int × Int)) (v : Value), v = ov ∧ kv = .int .i64 (k : Int) ∧ k ≤ Z ∧ Hid (RelR w wr rb lb cap D Z R g i k v us)) (fun _ kv _ => Z - (intOf kv).toNat)
      case atStart => exact ⟨0, us, _, rfl, rfl, Nat.zero_le _, Hst.out⟩
      case round =>
        obtain ⟨k, us2, ov2, rfl, rfl, hk, hst⟩ := hrel
        have d0 := hst.out.tab.c0
        have d1 := hst.out.tab.c1 Hlt.out
        by_cases hkz : k < Z
        · have hkz' : (k : Int) < (Z : Int) := by omega
          have d2 := hst.out.tab.c2 Hlt.out hkz
          rw [relG_at] at d2
          have Hkz := Lib.hid hkz
          have Hst2 := hst
          by_cases hy : g i k = 2
          · have hy' : ((g i k : Nat) : Int) = 2 := by omega
            have d3 : wr.frozen? ⟨R i, k, none⟩ = false := hst.out.tab.f2 Hlt.out k
            have Hw := Lib.hid (RelR.mid H.out hst.out Hlt.out Hkz.out hy)
            have Hln := Lib.hid (Hlen.out i k Hlt.out hkz)
            have hlist := hst.out.list
            rw [← hlist] at Hln
            clear hlist hst Hst2 hkz hy
            generalize g i k = y at *
            go_wp2_with (at_builtin; go_must (refine app_unit rfl (.tmp 47) (.tmp 51) rfl rfl (Hw.out.1.alloc _) wr.heap.size 1 (i : Int) (k : Int) rfl ((Hw.out.2.2.1 _ _ _).cell rfl) ((Hw.out.2.2.1 _ _ _).cell rfl) Hln.out (by have := Hw.out.2.1; simp at this ⊢; omega) ?_); intro v3 w3 ho3 hg3 _; have H3 := Lib.hid (Hw.out.2.2.2 _ w3 v3 ho3 hg3); clear ho3 hg3 Hw)
            go_roundw
            case rel => exact ⟨k + 1, _, _, rfl, by go_num, by omega, H3.out⟩
            case measure => simp [intOf]; omega
          · have hy' : ¬ ((g i k : Nat) : Int) = 2 := by omega
            have Hn : Hid (RelR w wr rb lb cap D Z R g i (k + 1) ov2 us2) := ⟨by rw [relG_not hy]; exact hst.out.tab, hst.out.own, hst.out.kept, by unfold heldK; rw [if_neg hy]; exact hst.out.list⟩
            generalize g i k = y at *
            clear hst hkz Hst2 hy
            go_wp2_with fail
            go_roundw
            case rel => exact ⟨k + 1, us2, _, rfl, by go_num, by omega, Hn.out⟩
            case measure => simp [intOf]; omega
        · obtain rfl : k = Z := by omega
          have Hn : Hid (RelR w wr rb lb cap D k R g (i + 1) 0 ov2 us2) := ⟨by rw [← relG_row (fun z hz => Ho.out i z hz)]; exact hst.out.tab, hst.out.own, hst.out.kept, by rw [hst.out.list]; show _ = (heldR g k i ++ heldK g i k) ++ []; simp⟩
          clear hst hkz
          go_wp2_with fail
          go_roundw
          case rel => exact ⟨i + 1, us2, _, rfl, by go_num, by omega, Hn.out⟩
          case measure => simp [intOf]; omega
    · obtain rfl : i = D := by omega
      have Hst : Hid (RefT wr rb lb cap i Z R (relG g i 0) ∧ Kept (NotR i R) w wr ∧ OwnU wr w.heap.size ov (heldR g Z i)) := by
        refine ⟨hst.out.tab, hst.out.kept, ?_⟩
        have := hst.out.own
        rw [hst.out.list] at this
        simpa [heldK] using this
      clear hlt hst
      go_wp2_with fail
      go_ret
      exact ⟨_, rfl, Hst.out⟩
end
end Go.Proofs.Ytajpnjapfiffmaa
