/-
  slices' SortStableFunc at fewer than 40 ints that ascend: the most first, of several that have as many the lowest.
-/
import Derived.Test.YtffmipmkbbholaaAlMrg
import Derived.Test.YtffmipmkbbholaaAlLay
import Derived.Shelf.SlSortCmp.Insertion1
import Derived.Sort.LotA
namespace Go.Proofs.Ytffmipmkbbholaa
open Go.RowKit Go.Maps Go.Shelf Go.Lib Go.Sort

section
variable {F : Int → Nat}
instance (x y : Int) : Decidable (ltF F x y) := by unfold ltF; infer_instance
/-- the order as a test -/
def ltT (F : Int → Nat) (x y : Int) : Bool := decide (ltF F x y)
theorem ltT_swo : SWO (ltT F) where
  irrefl x := decide_eq_false fun h => h.irr
  trans x y z h1 h2 := decide_eq_true ((of_decide_eq_true h1).trans (of_decide_eq_true h2))
  ntrans x y z h1 h2 := by
    have a := of_decide_eq_false h1
    have b := of_decide_eq_false h2
    refine decide_eq_false fun h => ?_
    unfold ltF at a b h
    omega
theorem ltT_total {x y : Int} (h : ltT F y x = false) (hne : x ≠ y) : ltF F x y := by
  have a := of_decide_eq_false h
  unfold ltF at a ⊢
  omega
theorem cf_ltT {x y : Int} (h : y < x) : ltOf (cfF F) x y = ltT F x y := by
  unfold ltOf ltT
  by_cases q : ltF F x y
  · rw [decide_eq_true q, decide_eq_true ((cf_neg h).2 q)]
  · rw [decide_eq_false q, decide_eq_false (fun q' => q ((cf_neg h).1 q'))]

theorem swp_get (d : Array Int) (i j k : Nat) (hi : i < d.size) (hj : j < d.size) : (swp d i j)[k]! = if k = j then d[i]! else if k = i then d[j]! else d[k]! := by
  unfold swp
  by_cases q : k = j
  · subst q; rw [if_pos rfl, getElem!_set_same _ _ _ (by simpa using hj)]
  · rw [if_neg q, getElem!_set_other _ _ _ _ q]
    by_cases q' : k = i
    · subst q'; rw [if_pos rfl, getElem!_set_same _ _ _ hi]
    · rw [if_neg q', getElem!_set_other _ _ _ _ q']
/-- where the element that is put in is greater than all ahead of it, the two tests say the same -/
theorem insInner_eq (a : Nat) : ∀ (j : Nat) (d : Array Int), j < d.size → (∀ k, a ≤ k → k < j → d[k]! < d[j]!) → insInner (ltOf (cfF F)) a j d = insInner (ltT F) a j d
  | 0, d, _, _ => rfl
  | j + 1, d, hj, h => by
    unfold insInner
    by_cases q : a < j + 1
    · have h1 := h j (by omega) (by omega)
      rw [cf_ltT h1]
      split
      · refine insInner_eq a j _ (by rw [size_swp]; omega) fun k hk1 hk2 => ?_
        rw [swp_get _ _ _ _ hj (by omega), swp_get _ _ _ _ hj (by omega), if_neg (by omega), if_neg (by omega), if_pos rfl]
        exact h k hk1 (by omega)
      · rfl
    · have e : decide (j + 1 > a) = false := decide_eq_false (by omega)
      simp [e]
/-- what the inner loop leaves: the stretch permuted -/
theorem insInner_perm (lt : Int → Int → Bool) (a : Nat) : ∀ (j : Nat) (d : Array Int), j < d.size → a ≤ j → PermIn a (j + 1) d (insInner lt a j d)
  | 0, d, _, _ => permIn_refl _ _ _
  | j + 1, d, hj, ha => by
    unfold insInner
    split
    · rename_i q
      have q' : a < j + 1 := by simp at q; omega
      have h1 : PermIn a (j + 1 + 1) d (swp d (j + 1) j) := swp_permIn _ _ _ _ _ (by omega) (by omega) (by omega) (by omega) (by omega)
      have h2 := insInner_perm lt a j (swp d (j + 1) j) (by rw [size_swp]; omega) (by omega)
      exact permIn_trans _ _ _ _ _ h1 (permIn_mono _ _ _ _ _ _ (Nat.le_refl _) (by omega) (by rw [size_swp]; omega) h2)
    · exact permIn_refl _ _ _
theorem insOuter_eq (a b : Nat) : ∀ (n i : Nat) (d : Array Int), b - i ≤ n → b ≤ d.size → a < i → (∀ j, i ≤ j → j < b → ∀ k, a ≤ k → k < j → d[k]! < d[j]!) → insOuter (ltOf (cfF F)) a b i d = insOuter (ltT F) a b i d
  | n, i, d, hn, hb, hi, h => by
    by_cases q : i < b
    · rw [insOuter_go _ _ _ _ _ q, insOuter_go _ _ _ _ _ q, insInner_eq a i d (by omega) (h i (Nat.le_refl _) q)]
      have hp := insInner_perm (ltT F) a i d (by omega) (by omega)
      cases n with
      | zero => omega
      | succ n =>
        refine insOuter_eq a b n (i + 1) _ (by omega) (by rw [hp.1]; omega) (by omega) fun j hj1 hj2 k hk1 hk2 => ?_
        have ej : (insInner (ltT F) a i d)[j]! = d[j]! := hp.2.1 j (.inr (by omega))
        rw [ej]
        by_cases q2 : k < i + 1
        · exact permIn_all _ _ _ _ (fun x => x < d[j]!) (by omega) hp (fun k' h1 h2 => h j (by omega) hj2 k' h1 (by omega)) k hk1 q2
        · rw [hp.2.1 k (.inr (by omega))]
          exact h j (by omega) hj2 k (by omega) hk2
    · rw [insOuter_stop _ _ _ _ _ q, insOuter_stop _ _ _ _ _ q]
theorem insertion_eq (a b : Nat) (d : Array Int) (hb : b ≤ d.size) (h : ∀ j, a < j → j < b → ∀ k, a ≤ k → k < j → d[k]! < d[j]!) : Sort.insertionSort (ltOf (cfF F)) d a b = Sort.insertionSort (ltT F) d a b :=
  insOuter_eq a b _ (a + 1) d (Nat.le_refl _) hb (by omega) fun j h1 h2 k h3 h4 => h j (by omega) h2 k h3 h4

theorem extract_mid (p l q : List Int) : ((p ++ l ++ q).toArray.extract p.length (p.length + l.length)).toList = l := by
  simp [List.extract_eq_take_drop]
theorem split_at (l : List Int) (a b : Nat) (hab : a ≤ b) (hb : b ≤ l.length) : l = l.take a ++ (l.drop a).take (b - a) ++ l.drop b := by
  rw [List.append_assoc, show b = a + (b - a) by omega, ← List.drop_drop, show a + (b - a) - a = b - a by omega, List.take_append_drop, List.take_append_drop]
/-- the insertion sort of a stretch that ascends, as lists -/
theorem insertion_list (p l q : List Int) (h : l.Pairwise (· < ·)) :
    ∃ M, M.Perm l ∧ Asc F M ∧ Sort.insertionSort (ltOf (cfF F)) (p ++ l ++ q).toArray p.length (p.length + l.length) = (p ++ M ++ q).toArray := by
  have hsz : p.length + l.length ≤ (p ++ l ++ q).toArray.size := by simp
  have hg : ∀ k, k < l.length → (p ++ l ++ q).toArray[p.length + k]! = l[k]! := fun k hk => get_mid! p l q k hk
  rw [insertion_eq _ _ _ hsz fun j h1 h2 k h3 h4 => by
    obtain ⟨k', rfl⟩ : ∃ k', k = p.length + k' := ⟨k - p.length, by omega⟩
    obtain ⟨j', rfl⟩ : ∃ j', j = p.length + j' := ⟨j - p.length, by omega⟩
    rw [hg k' (by omega), hg j' (by omega), getElem!_pos l k' (by omega), getElem!_pos l j' (by omega)]
    exact List.pairwise_iff_getElem.1 h k' j' (by omega) (by omega) (by omega)]
  obtain ⟨hp, hs⟩ := insertionSort_holds (lt := ltT F) ltT_swo (p ++ l ++ q).toArray p.length (p.length + l.length) (by omega) hsz
  obtain ⟨D, hD⟩ : ∃ D, D = Sort.insertionSort (ltT F) (p ++ l ++ q).toArray p.length (p.length + l.length) := ⟨_, rfl⟩
  rw [← hD] at hp hs ⊢
  have hDs : D.toList.length = p.length + l.length + q.length := by have := hp.1; simp at this ⊢; omega
  have e := split_at D.toList p.length (p.length + l.length) (by omega) (by omega)
  have hDz : D.size = p.length + l.length + q.length := by simpa using hDs
  have e1 : D.toList.take p.length = p := by
    apply List.ext_getElem
    · simp; omega
    · intro i h1 h2
      have := hp.2.1 i (.inl h2)
      rw [getElem!_pos D i (by simpa using (by omega : i < D.toList.length)), getElem!_pos _ i (by simp; omega)] at this
      simp [List.getElem_append_left, h2] at this
      simpa using this
  have e3 : D.toList.drop (p.length + l.length) = q := by
    apply List.ext_getElem
    · simp at hDs ⊢; omega
    · intro i h1 h2
      have := hp.2.1 (p.length + l.length + i) (.inr (by omega))
      rw [getElem!_pos D _ (by simpa using (by omega : p.length + l.length + i < D.toList.length)), getElem!_pos _ _ (by simp; omega)] at this
      rw [List.getElem_drop]
      have e4 : (p ++ l ++ q)[p.length + l.length + i]'(by simp; omega) = q[i] := by
        rw [List.getElem_append_right (by simp)]
        simp
      simp only [Array.getElem_toList]
      rw [← e4]
      simpa using this
  refine ⟨(D.toList.drop p.length).take l.length, ?_, ?_, ?_⟩
  · have := hp.2.2
    rw [extract_mid] at this
    rw [show (D.extract p.length (p.length + l.length)).toList = (D.toList.drop p.length).take l.length from by simp [List.extract_eq_take_drop]] at this
    exact this
  · have hnd : l.Nodup := h.imp fun h => by omega
    have hperm : ((D.toList.drop p.length).take l.length).Perm l := by
      have := hp.2.2
      rw [extract_mid] at this
      rw [show (D.extract p.length (p.length + l.length)).toList = (D.toList.drop p.length).take l.length from by simp [List.extract_eq_take_drop]] at this
      exact this
    have hnd2 := hperm.nodup_iff.2 hnd
    refine List.pairwise_iff_getElem.2 fun i j hi hj hij => ?_
    have hj' : j < l.length := by simp at hj; omega
    have h1 := hs (p.length + i) (p.length + j) (by omega) (by omega) (by omega)
    rw [getElem!_pos D _ (by simpa using (by omega : p.length + j < D.toList.length)), getElem!_pos D _ (by simpa using (by omega : p.length + i < D.toList.length))] at h1
    refine ltT_total (by simpa using h1) fun e => ?_
    have := (List.pairwise_iff_getElem.1 hnd2 i j hi hj hij)
    exact this e
  · rw [e1, e3, Nat.add_sub_cancel_left] at e
    apply Array.ext'
    exact e
end

section
set_option maxRecDepth 100000
set_option maxHeartbeats 8000000
variable {F : Int → Nat}
theorem insInt_any (w0 W : World) (blk off cap a b z g : Nat) (cb : Array Value) (d0 : Array Int) (R0 : Row1 eI w0 blk off d0) (pre l post : List Int) (hz : z = d0.size) (hsz : d0.size ≤ 1000000) (hs : (pre ++ l ++ post).length = d0.size) (ha : a = pre.length) (hb : b = a + l.length)
    (eg : ∀ args w, (callFunc g args).run Try.prog w = .ok (.enter g args) w) (hcmp : CmpLays1 Try.prog g cb eI (cfF F) blk off d0.size w0) (hl : l.Pairwise (· < ·)) (S : SW eI w0 blk off (pre ++ l ++ post).toArray W) :
    Calls Try.prog 79 #[.slice (some ⟨blk, off, none⟩) z cap, .int .i64 (a : Int), .int .i64 (b : Int), .func (.func g) #[] cb] W fun e w' => e = .returned (.tuple #[]) ∧ ∃ M, M.Perm l ∧ Asc F M ∧ SW eI w0 blk off (pre ++ M ++ post).toArray w' := by
  have hs' : (pre ++ l ++ post).toArray.size = d0.size := by simpa using hs
  obtain ⟨M, h1, h2, h3⟩ := insertion_list (F := F) pre l post hl
  have h := Any.insertionSortCmpFunc_s (ρ := layInsI_ren) layInsI eI (cfF F) g cb blk off cap a b d0 (pre ++ l ++ post).toArray w0 W eg hcmp R0 hs'.symm S (by omega) (by rw [hs', ← hs]; simp; omega) (by omega)
  rw [hs', ← hz] at h
  refine h.mono ?_
  rintro e w' ⟨rfl, hw⟩
  refine ⟨rfl, M, h1, h2, ?_⟩
  rw [← h3, ← ha, ← hb]
  exact hw
end
end Go.Proofs.Ytffmipmkbbholaa
