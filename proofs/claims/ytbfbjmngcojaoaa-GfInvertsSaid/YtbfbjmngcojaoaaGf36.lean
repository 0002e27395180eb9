/-
  Mathematics of GfInverts: unit's rows and the pairs' two below, any two left out.
-/
import Derived.Test.YtbfbjmngcojaoaaGf35
namespace Go.Proofs.Ytbfbjmngcojaoaa
open Go.RowKit

set_option maxRecDepth 20000
def allM (k : Nat) : Mtx := unitM k ++ pairsM k
theorem allM_length (k : Nat) : (allM k).length = k + 2 := by simp [allM, unitM, pairsM]
theorem allM_unit (k i : Nat) (h : i < k) : (allM k).getD i [] = (List.replicate k 0).set i 1 := by
  unfold allM
  rw [List.getD_eq_getElem?_getD, List.getElem?_append_left (by simp [unitM]; exact h), ← List.getD_eq_getElem?_getD]
  exact unit_getD k i h
theorem allM_ones (k : Nat) : (allM k).getD k [] = List.replicate k 1 := by
  unfold allM
  rw [List.getD_eq_getElem?_getD, List.getElem?_append_right (by simp [unitM])]
  simp [unitM, pairsM]
theorem allM_pows (k : Nat) : (allM k).getD (k + 1) [] = (List.range k).map pwr := by
  unfold allM
  rw [List.getD_eq_getElem?_getD, List.getElem?_append_right (by simp [unitM])]
  simp [unitM, pairsM]
theorem allM_row (k : Nat) (i : Nat) (l : List UInt8) (h : (allM k)[i]? = some l) : l.length = k := by
  have hi := (List.getElem?_eq_some_iff.1 h).1
  rw [allM_length] at hi
  have e := getD_of h
  by_cases h1 : i < k
  · rw [allM_unit k i h1] at e
    rw [← e]; simp
  · by_cases h2 : i = k
    · rw [h2, allM_ones] at e
      rw [← e]; simp
    · rw [show i = k + 1 by omega, allM_pows] at e
      rw [← e]; simp
theorem pwr_ne (j : Nat) (h : j < 255) : pwr j ≠ 0 := fun e => by
  have h1 := congrArg UInt8.toNat e
  rw [pwr_nat] at h1
  have h2 := lg_ex (i := j) h
  have h3 := (lg_ex' ⟨j, h⟩).2
  rw [← ex_tab j h] at h3
  exact h3 h1
theorem pwr_inj {a b : Nat} (ha : a < 255) (hb : b < 255) (h : pwr a = pwr b) : a = b := by
  have h1 := congrArg UInt8.toNat h
  rw [pwr_nat, pwr_nat] at h1
  rw [← lg_ex ha, ← lg_ex hb, h1]
/-- a product with a vector that has something in two places alone -/
theorem dotK_two (r u : List UInt8) (a b : Nat) (hab : a ≠ b) (h : ∀ j, j ≠ a → j ≠ b → u.getD j 0 = 0) : ∀ m, dotK r u m = (if a < m then bm (r.getD a 0) (u.getD a 0) else 0) ^^^ (if b < m then bm (r.getD b 0) (u.getD b 0) else 0)
  | 0 => by rw [if_neg (by omega), if_neg (by omega)]; rfl
  | m + 1 => by
    show dotK r u m ^^^ bm _ _ = _
    rw [dotK_two r u a b hab h m]
    by_cases e1 : m = a
    · subst e1
      rw [if_neg (show ¬ m < m by omega), if_pos (show m < m + 1 by omega), zero_bx]
      by_cases e2 : b < m
      · rw [if_pos e2, if_pos (show b < m + 1 by omega)]; exact bx_comm _ _
      · rw [if_neg e2, if_neg (show ¬ b < m + 1 by omega)]; exact bx_comm _ _
    · by_cases e2 : m = b
      · subst e2
        rw [if_neg (show ¬ m < m by omega), if_pos (show m < m + 1 by omega), bx_zero]
        by_cases e3 : a < m
        · rw [if_pos e3, if_pos (show a < m + 1 by omega)]
        · rw [if_neg e3, if_neg (show ¬ a < m + 1 by omega)]
      · rw [h m e1 e2, bm_zero', bx_zero]
        by_cases e3 : a < m
        · rw [if_pos e3, if_pos (show a < m + 1 by omega)]
          by_cases e4 : b < m
          · rw [if_pos e4, if_pos (show b < m + 1 by omega)]
          · rw [if_neg e4, if_neg (show ¬ b < m + 1 by omega)]
        · rw [if_neg e3, if_neg (show ¬ a < m + 1 by omega)]
          by_cases e4 : b < m
          · rw [if_pos e4, if_pos (show b < m + 1 by omega)]
          · rw [if_neg e4, if_neg (show ¬ b < m + 1 by omega)]
theorem ones_get (k a : Nat) (h : a < k) : (List.replicate k (1 : UInt8)).getD a 0 = 1 := by
  rw [List.getD_eq_getElem?_getD, List.getElem?_replicate, if_pos h]; rfl
theorem pows_get (k a : Nat) (h : a < k) : ((List.range k).map pwr).getD a 0 = pwr a := by
  rw [List.getD_eq_getElem?_getD, List.getElem?_map, List.getElem?_range h]; rfl
/-- what k of the rows hold to 0 is 0 -/
theorem all_kern {k a b : Nat} {u : List UInt8} (hk : k ≤ 253) (hab : a ≠ b) (ha : a < k + 2) (hb : b < k + 2) (hl : u.length = k) (h : ∀ i, i < k + 2 → i ≠ a → i ≠ b → dot ((allM k).getD i []) u = 0) : u = zeros k := by
  have hsup : ∀ j, j ≠ a → j ≠ b → u.getD j 0 = 0 := fun j h1 h2 => by
    by_cases hj : j < k
    · have := h j (by omega) h1 h2
      rw [allM_unit k j hj] at this
      unfold dot at this
      rw [dot_unit k j u hj, List.length_set, List.length_replicate, if_pos hj] at this
      exact this
    · rw [List.getD_eq_getElem?_getD, List.getElem?_eq_none (by omega)]; rfl
  have ones : k ≠ a → k ≠ b → (if a < k then u.getD a 0 else 0) ^^^ (if b < k then u.getD b 0 else 0) = 0 := fun h1 h2 => by
    have := h k (by omega) h1 h2
    rw [allM_ones] at this
    unfold dot at this
    rw [List.length_replicate, dotK_two _ u a b hab hsup k] at this
    by_cases e1 : a < k
    · rw [if_pos e1, ones_get k a e1, bm_one] at this
      rw [if_pos e1]
      by_cases e2 : b < k
      · rw [if_pos e2, ones_get k b e2, bm_one] at this
        rw [if_pos e2]; exact this
      · rw [if_neg e2] at this ⊢
        exact this
    · rw [if_neg e1] at this ⊢
      by_cases e2 : b < k
      · rw [if_pos e2, ones_get k b e2, bm_one] at this
        rw [if_pos e2]; exact this
      · rw [if_neg e2]; exact bx_self _
  have pows : k + 1 ≠ a → k + 1 ≠ b → (if a < k then bm (pwr a) (u.getD a 0) else 0) ^^^ (if b < k then bm (pwr b) (u.getD b 0) else 0) = 0 := fun h1 h2 => by
    have := h (k + 1) (by omega) h1 h2
    rw [allM_pows] at this
    unfold dot at this
    rw [List.length_map, List.length_range, dotK_two _ u a b hab hsup k] at this
    by_cases e1 : a < k
    · rw [if_pos e1, pows_get k a e1] at this
      rw [if_pos e1]
      by_cases e2 : b < k
      · rw [if_pos e2, pows_get k b e2] at this
        rw [if_pos e2]; exact this
      · rw [if_neg e2] at this ⊢
        exact this
    · rw [if_neg e1] at this ⊢
      by_cases e2 : b < k
      · rw [if_pos e2, pows_get k b e2] at this
        rw [if_pos e2]; exact this
      · rw [if_neg e2]; exact bx_self _
  have main : (a < k → u.getD a 0 = 0) ∧ (b < k → u.getD b 0 = 0) := by
    by_cases e1 : a < k
    · by_cases e2 : b < k
      · have o := ones (by omega) (by omega)
        have p := pows (by omega) (by omega)
        rw [if_pos e1, if_pos e2] at o p
        have ho := bx_eq o
        rw [← ho, ← bm_add, bm_comm] at p
        have hne : pwr a ^^^ pwr b ≠ 0 := fun e => hab (pwr_inj (by omega) (by omega) (bx_eq e))
        rw [bm_comm] at p
        have hz := bm_cancel p hne
        exact ⟨fun _ => hz, fun _ => by rw [← ho]; exact hz⟩
      · refine ⟨fun _ => ?_, fun q => absurd q e2⟩
        by_cases e3 : b = k
        · have p := pows (by omega) (by omega)
          rw [if_pos e1, if_neg e2, bx_zero] at p
          exact bm_cancel p (pwr_ne a (by omega))
        · have o := ones (by omega) (fun q => e3 q.symm)
          rw [if_pos e1, if_neg e2, bx_zero] at o
          exact o
    · refine ⟨fun q => absurd q e1, fun e2 => ?_⟩
      by_cases e3 : a = k
      · have p := pows (by omega) (by omega)
        rw [if_neg e1, if_pos e2, zero_bx] at p
        exact bm_cancel p (pwr_ne b (by omega))
      · have o := ones (fun q => e3 q.symm) (by omega)
        rw [if_neg e1, if_pos e2, zero_bx] at o
        exact o
  refine zeros_ext hl fun j hj => ?_
  by_cases h1 : j = a
  · rw [h1]; exact main.1 (by omega)
  · by_cases h2 : j = b
    · rw [h2]; exact main.2 (by omega)
    · exact hsup j h1 h2
/-- the numbers below i that are kept -/
def keep (a b i : Nat) : List Int := List.map (fun x : Nat => (x : Int)) ((List.range i).filter fun x => decide (x ≠ a) && decide (x ≠ b))
theorem keep_yes {a b i : Nat} (h1 : i ≠ a) (h2 : i ≠ b) : keep a b (i + 1) = keep a b i ++ [(i : Int)] := by
  unfold keep
  rw [List.range_succ, List.filter_append, List.map_append]
  congr 1
  simp [h1, h2]
theorem keep_no {a b i : Nat} (h : i = a ∨ i = b) : keep a b (i + 1) = keep a b i := by
  unfold keep
  rw [List.range_succ, List.filter_append, List.map_append]
  rcases h with h | h <;> simp [h]
theorem keep_length {a b : Nat} (hab : a ≠ b) : ∀ i, (keep a b i).length + (if a < i then 1 else 0) + (if b < i then 1 else 0) = i
  | 0 => rfl
  | i + 1 => by
    have ih := keep_length hab i
    by_cases h1 : i = a
    · rw [keep_no (.inl h1), if_pos (by omega)]
      rw [if_neg (by omega)] at ih
      by_cases h2 : b < i
      · rw [if_pos h2] at ih; rw [if_pos (by omega)]; omega
      · rw [if_neg h2] at ih; rw [if_neg (by omega)]; omega
    · by_cases h2 : i = b
      · rw [keep_no (.inr h2), if_pos (show b < i + 1 by omega)]
        rw [if_neg (show ¬ b < i by omega)] at ih
        by_cases h3 : a < i
        · rw [if_pos h3] at ih; rw [if_pos (by omega)]; omega
        · rw [if_neg h3] at ih; rw [if_neg (by omega)]; omega
      · rw [keep_yes h1 h2, List.length_append]
        have e1 : (if a < i + 1 then 1 else 0) = (if a < i then 1 else 0) := by
          by_cases h3 : a < i
          · rw [if_pos h3, if_pos (by omega)]
          · rw [if_neg h3, if_neg (by omega)]
        have e2 : (if b < i + 1 then 1 else 0) = (if b < i then 1 else 0) := by
          by_cases h3 : b < i
          · rw [if_pos h3, if_pos (by omega)]
          · rw [if_neg h3, if_neg (by omega)]
        rw [e1, e2, List.length_singleton]
        omega
theorem keep_mem {a b i : Nat} {x : Int} (h : x ∈ keep a b i) : ∃ n : Nat, x = (n : Int) ∧ n < i ∧ n ≠ a ∧ n ≠ b := by
  unfold keep at h
  obtain ⟨n, hn, rfl⟩ := List.mem_map.1 h
  obtain ⟨h1, h2⟩ := List.mem_filter.1 hn
  simp at h2
  exact ⟨n, rfl, List.mem_range.1 h1, h2.1, h2.2⟩
theorem mem_keep {a b i n : Nat} (hn : n < i) (h1 : n ≠ a) (h2 : n ≠ b) : (n : Int) ∈ keep a b i := by
  unfold keep
  refine List.mem_map.2 ⟨n, List.mem_filter.2 ⟨List.mem_range.2 hn, by simp [h1, h2]⟩, rfl⟩
/-- the rows that are kept: a square matrix, which has an inverse from both sides -/
theorem kept_dim {k a b : Nat} (hab : a ≠ b) (ha : a < k + 2) (hb : b < k + 2) : Dim (pick (allM k) (keep a b (k + 2))) k := by
  have hl := keep_length hab (k + 2)
  rw [if_pos ha, if_pos hb] at hl
  refine ⟨by unfold pick; rw [List.length_map]; omega, fun t l ht => ?_⟩
  unfold pick at ht
  rw [List.getElem?_map] at ht
  obtain ⟨x, hx, rfl⟩ := Option.map_eq_some_iff.1 ht
  obtain ⟨n, rfl, hn, _⟩ := keep_mem (List.mem_of_getElem? hx)
  rw [Int.toNat_natCast]
  obtain ⟨r, hr⟩ : ∃ r, (allM k)[n]? = some r := ⟨_, List.getElem?_eq_getElem (by rw [allM_length]; exact hn)⟩
  rw [getD_of hr]
  exact allM_row k n r hr
theorem kept_inv {k a b : Nat} (hk : k ≤ 253) (hab : a ≠ b) (ha : a < k + 2) (hb : b < k + 2) : ∃ S, invK k (pick (allM k) (keep a b (k + 2))) k = some S := by
  have hd := kept_dim (k := k) hab ha hb
  refine inv_some hd fun u hl hker => all_kern hk hab ha hb hl fun i hi h1 h2 => ?_
  obtain ⟨t, ht⟩ := List.getElem?_of_mem (mem_keep hi h1 h2)
  have hp : (pick (allM k) (keep a b (k + 2)))[t]? = some ((allM k).getD i []) := by
    unfold pick
    rw [List.getElem?_map, ht]
    show some ((allM k).getD (Int.toNat (i : Int)) []) = _
    rw [Int.toNat_natCast]
  have htk : t < k := by
    have := (List.getElem?_eq_some_iff.1 hp).1
    rw [hd.1] at this
    exact this
  have := hker t htk
  rw [getD_of hp] at this
  exact this
theorem kept_right {k a b : Nat} (hk1 : 1 ≤ k) (hk : k ≤ 253) (hab : a ≠ b) (ha : a < k + 2) (hb : b < k + 2) : rowsB (allM k) (keep a b (k + 2)) = true := by
  have hl := keep_length hab (k + 2)
  rw [if_pos ha, if_pos hb] at hl
  have h0 : (allM k).headD [] = (allM k).getD 0 [] := by
    have := head_get (M := allM k) (by rw [allM_length]; omega)
    exact (getD_of this).symm
  have hh : ((allM k).headD []).length = k := allM_row k 0 _ (head_get (by rw [allM_length]; omega))
  unfold rowsB rightB
  rw [Bool.and_eq_true]
  refine ⟨decide_eq_true ⟨by rw [allM_length]; omega, by rw [allM_length]; omega, by rw [hh]; exact hk1, by rw [hh]; omega, fun l hl' => ?_⟩, decide_eq_true ⟨by omega, by omega, fun x hx => ?_⟩⟩
  · obtain ⟨i, hi⟩ := List.getElem?_of_mem hl'
    rw [hh]
    exact allM_row k i l hi
  · obtain ⟨n, rfl, hn, _⟩ := keep_mem hx
    rw [allM_length]
    omega
end Go.Proofs.Ytbfbjmngcojaoaa
