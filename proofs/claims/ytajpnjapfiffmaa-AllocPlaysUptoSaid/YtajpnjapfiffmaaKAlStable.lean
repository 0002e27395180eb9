/-
  slices' SortStableFunc at fewer than 40 ints that ascend: the most first, of several that have as many the lowest.
-/
import Derived.Test.YtajpnjapfiffmaaAlMrg
import Derived.Test.YtajpnjapfiffmaaAlLay
import Derived.Shelf.SlSortCmp.Insertion1
import Derived.Sort.LotA
namespace Go.Proofs.Ytajpnjapfiffmaa
open Go.RowKit Go.Maps Go.Shelf Go.Lib Go.Sort

section
variable {F : Int → Nat}
instance (x y : Int) : Decidable (ltF F x y) := by unfold ltF; infer_instance
/-- the order as a test -/
def ltT (F : Int → Nat) (x y : Int) : Bool := decide (ltF F x y)
theorem ltT_swo : SWO (ltT F) where
  irrefl x := decide_eq_false fun h => h.irr
  trans x y z h1 h2 := decide_eq_true ((of_decide_eq_true h1).trans (of_decide_eq_true h2))
  ntrans x y z h1 h2 := by
    have a := of_decide_eq_false h1
    have b := of_decide_eq_false h2
    refine decide_eq_false fun h => ?_
    unfold ltF at a b h
    omega
theorem ltT_total {x y : Int} (h : ltT F y x = false) (hne : x ≠ y) : ltF F x y := by
  have a := of_decide_eq_false h
  unfold ltF at a ⊢
  omega
theorem cf_ltT {x y : Int} (h : y < x) : ltOf (cfF F) x y = ltT F x y := by
  unfold ltOf ltT
  by_cases q : ltF F x y
  · rw [decide_eq_true q, decide_eq_true ((cf_neg h).2 q)]
  · rw [decide_eq_false q, decide_eq_false (fun q' => q ((cf_neg h).1 q'))]

theorem swp_get (d : Array Int) (i j k : Nat) (hi : i < d.size) (hj : j < d.size) : (swp d i j)[k]! = if k = j then d[i]! else if k = i then d[j]! else d[k]! := by
  unfold swp
  by_cases q : k = j
  · subst q; rw [if_pos rfl, getElem!_set_same _ _ _ (by simpa using hj)]
  · rw [if_neg q, getElem!_set_other _ _ _ _ q]
    by_cases q' : k = i
    · subst q'; rw [if_pos rfl, getElem!_set_same _ _ _ hi]
    · rw [if_neg q', getElem!_set_other _ _ _ _ q']
/-- where the element that is put in is greater than all ahead of it, the two tests say the same -/
theorem insInner_eq (a : Nat) : ∀ (j : Nat) (d : Array Int), j < d.size → (∀ k, a ≤ k → k < j → d[k]! < d[j]!) → insInner (ltOf (cfF F)) a j d = insInner (ltT F) a j d
  | 0, d, _, _ => rfl
  | j + 1, d, hj, h => by
    unfold insInner
    by_cases q : a < j + 1
    · have h1 := h j (by omega) (by omega)
      rw [cf_ltT h1]
      split
      · refine insInner_eq a j _ (by rw [size_swp]; omega) fun k hk1 hk2 => ?_
        rw [swp_get _ _ _ _ hj (by omega), swp_get _ _ _ _ hj (by omega), if_neg (by omega), if_neg (by omega), if_pos rfl]
        exact h k hk1 (by omega)
      · rfl
    · have e : decide (j + 1 > a) = false := decide_eq_false (by omega)
      simp [e]
/-- what the inner loop leaves: the stretch permuted -/
theorem insInner_perm (lt : Int → Int → Bool) (a : Nat) : ∀ (j : Nat) (d : Array Int), j < d.size → a ≤ j → PermIn a (j + 1) d (insInner lt a j d)
  | 0, d, _, _ => permIn_refl _ _ _
  | j + 1, d, hj, ha => by
    unfold insInner
    split
    · rename_i q
      have q' : a < j + 1 := by simp at q; omega
      have h1 : PermIn a (j + 1 + 1) d (swp d (j + 1) j) := swp_permIn _ _ _ _ _ (by omega) (by omega) (by omega) (by omega) (by omega)
      have h2 := insInner_perm lt a j (swp d (j + 1) j) (by rw [size_swp]; omega) (by omega)
      exact permIn_trans _ _ _ _ _ h1 (permIn_mono _ _ _ _ _ _ (Nat.le_refl _) (by omega) (by rw [size_swp]; omega) h2)
    · exact permIn_refl _ _ _
theorem insOuter_eq (a b : Nat) : ∀ (n i : Nat) (d : Array Int), b - i ≤ n → b ≤ d.size → a < i → (∀ j, i ≤ j → j < b → ∀ k, a ≤ k → k < j → d[k]! < d[j]!) → insOuter (ltOf (cfF F)) a b i d = insOuter (ltT F) a b i d
  | n, i, d, hn, hb, hi, h => by
    by_cases q : i < b
    · rw [insOuter_go _ _ _ _ _ q, insOuter_go _ _ _ _ _ q, insInner_eq a i d (by omega) (h i (Nat.le_refl _) q)]
      have hp := insInner_perm (ltT F) a i d (by omega) (by omega)
      cases n with
      | zero => omega
      | succ n =>
        refine insOuter_eq a b n (i + 1) _ (by omega) (by rw [hp.1]; omega) (by omega) fun j hj1 hj2 k hk1 hk2 => ?_
        have ej : (insInner (ltT F) a i d)[j]! = d[j]! := hp.2.1 j (.inr (by omega))
        rw [ej]
        by_cases q2 : k < i + 1
        · exact permIn_all _ _ _ _ (fun x => x < d[j]!) (by omega) hp (fun k' h1 h2 => h j (by omega) hj2 k' h1 (by omega)) k hk1 q2
        · rw [hp.2.1 k (.inr (by omega))]
          exact h j (by omega) hj2 k (by omega) hk2
    · rw [insOuter_stop _ _ _ _ _ q, insOuter_stop _ _ _ _ _ q]
theorem insertion_eq (a b : Nat) (d : Array Int) (hb : b ≤ d.size) (h : ∀ j, a < j → j < b → ∀ k, a ≤ k → k < j → d[k]! < d[j]!) : Sort.insertionSort (ltOf (cfF F)) d a b = Sort.insertionSort (ltT F) d a b :=
  insOuter_eq a b _ (a + 1) d (Nat.le_refl _) hb (by omega) fun j h1 h2 k h3 h4 => h j (by omega) h2 k h3 h4

theorem extract_mid (p l q : List Int) : ((p ++ l ++ q).toArray.extract p.length (p.length + l.length)).toList = l := by
  simp [List.extract_eq_take_drop]
theorem split_at (l : List Int) (a b : Nat) (hab : a ≤ b) (hb : b ≤ l.length) : l = l.take a ++ (l.drop a).take (b - a) ++ l.drop b := by
  rw [List.append_assoc, show b = a + (b - a) by omega, ← List.drop_drop, show a + (b - a) - a = b - a by omega, List.take_append_drop, List.take_append_drop]
/-- the insertion sort of a stretch that ascends, as lists -/
theorem insertion_list (p l q : List Int) (h : l.Pairwise (· < ·)) :
    ∃ M, M.Perm l ∧ Asc F M ∧ Sort.insertionSort (ltOf (cfF F)) (p ++ l ++ q).toArray p.length (p.length + l.length) = (p ++ M ++ q).toArray := by
  have hsz : p.length + l.length ≤ (p ++ l ++ q).toArray.size := by simp
  have hg : ∀ k, k < l.length → (p ++ l ++ q).toArray[p.length + k]! = l[k]! := fun k hk => get_mid! p l q k hk
  rw [insertion_eq _ _ _ hsz fun j h1 h2 k h3 h4 => by
    obtain ⟨k', rfl⟩ : ∃ k', k = p.length + k' := ⟨k - p.length, by omega⟩
    obtain ⟨j', rfl⟩ : ∃ j', j = p.length + j' := ⟨j - p.length, by omega⟩
    rw [hg k' (by omega), hg j' (by omega), getElem!_pos l k' (by omega), getElem!_pos l j' (by omega)]
    exact List.pairwise_iff_getElem.1 h k' j' (by omega) (by omega) (by omega)]
  obtain ⟨hp, hs⟩ := insertionSort_holds (lt := ltT F) ltT_swo (p ++ l ++ q).toArray p.length (p.length + l.length) (by omega) hsz
  obtain ⟨D, hD⟩ : ∃ D, D = Sort.insertionSort (ltT F) (p ++ l ++ q).toArray p.length (p.length + l.length) := ⟨_, rfl⟩
  rw [← hD] at hp hs ⊢
  have hDs : D.toList.length = p.length + l.length + q.length := by have := hp.1; simp at this ⊢; omega
  have e := split_at D.toList p.length (p.length + l.length) (by omega) (by omega)
  have hDz : D.size = p.length + l.length + q.length := by simpa using hDs
  have e1 : D.toList.take p.length = p := by
    apply List.ext_getElem
    · simp; omega
    · intro i h1 h2
      have := hp.2.1 i (.inl h2)
      rw [getElem!_pos D i (by simpa using (by omega : i < D.toList.length)), getElem!_pos _ i (by simp; omega)] at this
      simp [List.getElem_append_left, h2] at this
      simpa using this
  have e3 : D.toList.drop (p.length + l.length) = q := by
    apply List.ext_getElem
    · simp at hDs ⊢; omega
    · intro i h1 h2
      have := hp.2.1 (p.length + l.length + i) (.inr (by omega))
      rw [getElem!_pos D _ (by simpa using (by omega : p.length + l.length + i < D.toList.length)), getElem!_pos _ _ (by simp; omega)] at this
      rw [List.getElem_drop]
      have e4 : (p ++ l ++ q)[p.length + l.length + i]'(by simp; omega) = q[i] := by
        rw [List.getElem_append_right (by simp)]
        simp
      simp only [Array.getElem_toList]
      rw [← e4]
      simpa using this
  refine ⟨(D.toList.drop p.length).take l.length, ?_, ?_, ?_⟩
  · have := hp.2.2
    rw [extract_mid] at this
    rw [show (D.extract p.length (p.length + l.length)).toList = (D.toList.drop p.length).take l.length from by simp [List.extract_eq_take_drop]] at this
    exact this
  · have hnd : l.Nodup := h.imp fun h => by omega
    have hperm : ((D.toList.drop p.length).take l.length).Perm l := by
      have := hp.2.2
      rw [extract_mid] at this
      rw [show (D.extract p.length (p.length + l.length)).toList = (D.toList.drop p.length).take l.length from by simp [List.extract_eq_take_drop]] at this
      exact this
    have hnd2 := hperm.nodup_iff.2 hnd
    refine List.pairwise_iff_getElem.2 fun i j hi hj hij => ?_
    have hj' : j < l.length := by simp at hj; omega
    have h1 := hs (p.length + i) (p.length + j) (by omega) (by omega) (by omega)
    rw [getElem!_pos D _ (by simpa using (by omega : p.length + j < D.toList.length)), getElem!_pos D _ (by simpa using (by omega : p.length + i < D.toList.length))] at h1
    refine ltT_total (by simpa using h1) fun e => ?_
    have := (List.pairwise_iff_getElem.1 hnd2 i j hi hj hij)
    exact this e
  · rw [e1, e3, Nat.add_sub_cancel_left] at e
    apply Array.ext'
    exact e
end

section
set_option maxRecDepth 100000
set_option maxHeartbeats 8000000
variable {F : Int → Nat}
theorem insInt_any (w0 W : World) (blk off cap a b z g : Nat) (cb : Array Value) (d0 : Array Int) (R0 : Row1 eI w0 blk off d0) (pre l post : List Int) (hz : z = d0.size) (hsz : d0.size ≤ 1000000) (hs : (pre ++ l ++ post).length = d0.size) (ha : a = pre.length) (hb : b = a + l.length)
    (eg : ∀ args w, (callFunc g args).run Try.prog w = .ok (.enter g args) w) (hcmp : CmpLays1 Try.prog g cb eI (cfF F) blk off d0.size w0) (hl : l.Pairwise (· < ·)) (S : SW eI w0 blk off (pre ++ l ++ post).toArray W) :
    Calls Try.prog 79 #[.slice (some ⟨blk, off, none⟩) z cap, .int .i64 (a : Int), .int .i64 (b : Int), .func (.func g) #[] cb] W fun e w' => e = .returned (.tuple #[]) ∧ ∃ M, M.Perm l ∧ Asc F M ∧ SW eI w0 blk off (pre ++ M ++ post).toArray w' := by
  have hs' : (pre ++ l ++ post).toArray.size = d0.size := by simpa using hs
  obtain ⟨M, h1, h2, h3⟩ := insertion_list (F := F) pre l post hl
  have h := Any.insertionSortCmpFunc_s (ρ := layInsI_ren) layInsI eI (cfF F) g cb blk off cap a b d0 (pre ++ l ++ post).toArray w0 W eg hcmp R0 hs'.symm S (by omega) (by rw [hs', ← hs]; simp; omega) (by omega)
  rw [hs', ← hz] at h
  refine h.mono ?_
  rintro e w' ⟨rfl, hw⟩
  refine ⟨rfl, M, h1, h2, ?_⟩
  rw [← h3, ← ha, ← hb]
  exact hw
end
end Go.Proofs.Ytajpnjapfiffmaa

/-
  slices' stableCmpFunc, SortStableFunc at fewer than 40 ints that ascend.
-/
namespace Go.Proofs.Ytajpnjapfiffmaa
open Go.RowKit Go.Maps Go.Shelf Go.Lib Go.Sort

section
set_option maxRecDepth 100000
set_option maxHeartbeats 8000000
variable {F : Int → Nat}
theorem stable_any (w0 : World) (blk off cap z g : Nat) (cb : Array Value) (l : List Int) (R0 : Row1 eI w0 blk off l.toArray) (hz : z = l.length) (hn : z < 40)
    (eg : ∀ args w, (callFunc g args).run Try.prog w = .ok (.enter g args) w) (hcmp : CmpLays1 Try.prog g cb eI (cfF F) blk off l.toArray.size w0) (hl : l.Pairwise (· < ·)) :
    Calls Try.prog 58 #[.slice (some ⟨blk, off, none⟩) z cap, .int .i64 (z : Int), .func (.func g) #[] cb] w0 fun e w' => e = .returned (.tuple #[]) ∧ ∃ M, M.Perm l ∧ Asc F M ∧ SW eI w0 blk off M.toArray w' := by
  have mixed : Try.prog.follows Departure.mixedOrders = true := by kernel_rfl
  have S0 : SW eI w0 blk off l.toArray w0 := SW.start R0.hH
  have hsz : l.toArray.size ≤ 1000000 := by simp; omega
  have hz' : z = l.toArray.size := by simpa using hz
  have Hins : Hid (∀ (W : World) (a b : Nat) (pre x post : List Int), (pre ++ x ++ post).length = l.toArray.size → a = pre.length → b = a + x.length → x.Pairwise (· < ·) → SW eI w0 blk off (pre ++ x ++ post).toArray W →
      Calls Try.prog 79 #[.slice (some ⟨blk, off, none⟩) z cap, .int .i64 (a : Int), .int .i64 (b : Int), .func (.func g) #[] cb] W fun e w' => e = .returned (.tuple #[]) ∧ ∃ M, M.Perm x ∧ Asc F M ∧ SW eI w0 blk off (pre ++ M ++ post).toArray w') :=
    fun W a b pre x post h1 h2 h3 h4 h5 => insInt_any w0 W blk off cap a b z g cb l.toArray R0 pre x post hz' hsz h1 h2 h3 eg hcmp h4 h5
  have Hsym := Lib.hid (sym_any w0 blk off cap z g cb l.toArray R0 hz' hsz eg hcmp)
  have Hz := Lib.hid hz
  have Hl := Lib.hid hl
  by_cases q1 : z < 20
  · have Hi : Hid (Calls Try.prog 79 #[.slice (some ⟨blk, off, none⟩) z cap, .int .i64 0, .int .i64 (z : Int), .func (.func g) #[] cb] w0 fun e w' => e = .returned (.tuple #[]) ∧ ∃ M, M.Perm l ∧ Asc F M ∧ SW eI w0 blk off M.toArray w') := by
      have h := Hins.out w0 0 z [] l [] (by simp) rfl (by simp [hz]) hl (by simpa using S0)
      exact (show Calls _ _ _ _ _ from by simpa using h)
    have c1 : ¬ (20 : Int) ≤ (z : Int) := by omega
    have c2 : ¬ (20 : Int) < (z : Int) := by omega
    clear S0 hsz hz' Hins Hsym hcmp R0 hz hl q1 hn
    go_enter Try.func58, Try.ntmps58
    go_wp2_with fail
    refine wp_loop_rounds 1 ?_
    rw [rounds_succ]
    go_wp2_with fail
    refine Hi.out.mono ?_
    rintro e w1 ⟨rfl, h1⟩
    have H1 := Lib.hid h1
    clear h1 Hi
    go_wp2_with fail
    refine wp_loop_rounds 1 ?_
    rw [rounds_succ]
    go_wp2_with fail
    go_end0
    exact ⟨rfl, H1.out⟩
  · have e20 : l = l.take 20 ++ l.drop 20 := (List.take_append_drop _ _).symm
    have n1 : (l.take 20).length = 20 := by simp; omega
    have n2 : (l.drop 20).length = z - 20 := by simp; omega
    have hl' := hl
    rw [e20] at hl'
    have hp := List.pairwise_append.1 hl'
    have Hi : Hid (Calls Try.prog 79 #[.slice (some ⟨blk, off, none⟩) z cap, .int .i64 0, .int .i64 20, .func (.func g) #[] cb] w0 fun e w' => e = .returned (.tuple #[]) ∧ ∃ M, M.Perm (l.take 20) ∧ Asc F M ∧ SW eI w0 blk off (M ++ l.drop 20).toArray w') := by
      have h := Hins.out w0 0 20 [] (l.take 20) (l.drop 20) (by simp) rfl (by simp; omega) hp.1 (by simpa using S0)
      exact (show Calls _ _ _ _ _ from by simpa using h)
    have Hi2 : Hid (∀ W M, M.Perm (l.take 20) → SW eI w0 blk off (M ++ l.drop 20).toArray W → Calls Try.prog 79 #[.slice (some ⟨blk, off, none⟩) z cap, .int .i64 20, .int .i64 (z : Int), .func (.func g) #[] cb] W fun e w' => e = .returned (.tuple #[]) ∧ ∃ M2, M2.Perm (l.drop 20) ∧ Asc F M2 ∧ SW eI w0 blk off (M ++ M2).toArray w') := by
      intro W M hM hS
      have hMl := hM.length_eq
      rw [n1] at hMl
      have h := Hins.out W 20 z M (l.drop 20) [] (by simp; omega) hMl.symm (by omega) hp.2.1 (by simpa using hS)
      simpa using h
    have Hm : Hid (∀ W M M2, 20 < z → M.Perm (l.take 20) → M2.Perm (l.drop 20) → Asc F M → Asc F M2 → SW eI w0 blk off (M ++ M2).toArray W → Calls Try.prog 80 #[.slice (some ⟨blk, off, none⟩) z cap, .int .i64 0, .int .i64 20, .int .i64 (z : Int), .func (.func g) #[] cb] W fun e w' => e = .returned (.tuple #[]) ∧ ∃ M3, M3.Perm l ∧ Asc F M3 ∧ SW eI w0 blk off M3.toArray w') := by
      intro W M M2 hzz hM hM2 a1 a2 hS
      have hMl := hM.length_eq
      have hMl2 := hM2.length_eq
      rw [n1] at hMl
      rw [n2] at hMl2
      have h := Hsym.out _ W 0 20 z [] M M2 [] rfl rfl (by omega) (by omega) (by omega) (by omega) (by simp; omega) a1 a2 (fun x hx y hy => hp.2.2 x (hM.mem_iff.1 hx) y (hM2.mem_iff.1 hy)) (by simpa using hS)
      refine h.mono ?_
      rintro e w' ⟨rfl, M3, h1, h2, h3⟩
      refine ⟨rfl, M3, ?_, h2, by simpa using h3⟩
      refine h1.trans ((hM.append hM2).trans ?_)
      rw [List.take_append_drop]
    have Hone : Hid (∀ W M M2, z = 20 → M.Perm (l.take 20) → M2.Perm (l.drop 20) → Asc F M → SW eI w0 blk off (M ++ M2).toArray W → ∃ M3, M3.Perm l ∧ Asc F M3 ∧ SW eI w0 blk off M3.toArray W) := by
      intro W M M2 hzz hM hM2 a1 hS
      have hMl2 := hM2.length_eq
      rw [n2] at hMl2
      have e0 : M2 = [] := List.length_eq_zero_iff.1 (by omega)
      refine ⟨M, ?_, a1, by rw [e0] at hS; simpa using hS⟩
      rw [List.take_of_length_le (by omega)] at hM
      exact hM
    have c1 : (20 : Int) ≤ (z : Int) := by omega
    have c2 : ¬ (40 : Int) ≤ (z : Int) := by omega
    have c4 : ¬ (40 : Int) < (z : Int) := by omega
    clear S0 hsz hz' Hins Hsym hcmp R0 hl hl' hp e20 n1 n2 hz q1
    by_cases q2 : z = 20
    · have c3 : ¬ (20 : Int) < (z : Int) := by omega
      have Q2 := Lib.hid q2
      clear Hm q2
      go_enter Try.func58, Try.ntmps58
      go_wp2_with fail
      refine wp_loop_rounds 2 ?_
      rw [rounds_succ]
      go_wp2_with fail
      refine Hi.out.mono ?_
      rintro e w1 ⟨rfl, M, p1, a1, h1⟩
      have H1 := Lib.hid (And.intro p1 (And.intro a1 h1))
      have Hi3 := Lib.hid (Hi2.out _ M p1 h1)
      clear p1 a1 h1 Hi Hi2
      go_wp2_with fail
      rw [rounds_succ]
      go_wp2_with fail
      refine Hi3.out.mono ?_
      rintro e w2 ⟨rfl, M2, p2, a2, h2⟩
      have H2 := Lib.hid (Hone.out w2 M M2 Q2.out H1.out.1 p2 H1.out.2.1 h2)
      clear p2 a2 h2 Hi3 H1
      go_wp2_with fail
      refine wp_loop_rounds 1 ?_
      rw [rounds_succ]
      go_wp2_with fail
      go_end0
      exact ⟨rfl, H2.out⟩
    · have c3 : (20 : Int) < (z : Int) := by omega
      have C5 : Hid (20 < z) := (show _ < _ from by omega)
      clear Hone q2
      go_enter Try.func58, Try.ntmps58
      go_wp2_with fail
      refine wp_loop_rounds 2 ?_
      rw [rounds_succ]
      go_wp2_with fail
      refine Hi.out.mono ?_
      rintro e w1 ⟨rfl, M, p1, a1, h1⟩
      have H1 := Lib.hid (And.intro p1 (And.intro a1 h1))
      have Hi3 := Lib.hid (Hi2.out _ M p1 h1)
      clear p1 a1 h1 Hi Hi2
      go_wp2_with fail
      rw [rounds_succ]
      go_wp2_with fail
      refine Hi3.out.mono ?_
      rintro e w2 ⟨rfl, M2, p2, a2, h2⟩
      have H2 := Lib.hid (Hm.out w2 M M2 C5.out H1.out.1 p2 H1.out.2.1 a2 h2)
      clear p2 a2 h2 Hi3 H1 Hm
      go_wp2_with fail
      refine wp_loop_rounds 2 ?_
      rw [rounds_succ]
      go_wp2_with fail
      refine wp_loop_rounds 1 ?_
      rw [rounds_succ]
      go_wp2_with fail
      refine H2.out.mono ?_
      rintro e w3 ⟨rfl, h3⟩
      have H3 := Lib.hid h3
      clear h3 H2
      go_wp2_with fail
      rw [rounds_succ]
      go_wp2_with fail
      go_end0
      exact ⟨rfl, H3.out⟩
theorem sortStable_any (w0 : World) (blk off cap z g : Nat) (cb : Array Value) (l : List Int) (R0 : Row1 eI w0 blk off l.toArray) (hz : z = l.length) (hn : z < 40)
    (eg : ∀ args w, (callFunc g args).run Try.prog w = .ok (.enter g args) w) (hcmp : CmpLays1 Try.prog g cb eI (cfF F) blk off l.toArray.size w0) (hl : l.Pairwise (· < ·)) :
    Calls Try.prog 47 #[.slice (some ⟨blk, off, none⟩) z cap, .func (.func g) #[] cb] w0 fun e w' => e = .returned (.tuple #[]) ∧ ∃ M, M.Perm l ∧ Asc F M ∧ SW eI w0 blk off M.toArray w' := by
  have H := Lib.hid (stable_any w0 blk off cap z g cb l R0 hz hn eg hcmp hl)
  clear R0 hz hcmp hl
  go_enter Try.func47, Try.ntmps47
  go_wp2_with fail
  refine H.out.mono ?_
  rintro e w1 ⟨rfl, h1⟩
  have H1 := Lib.hid h1
  clear h1 H
  go_wp2_with fail
  go_end0
  exact ⟨rfl, H1.out⟩
/-- .. of no element -/
theorem stable_none (w0 : World) (A : Option Addr) (cap : Nat) (fv : Value) :
    Calls Try.prog 58 #[.slice A 0 cap, .int .i64 0, fv] w0 fun e w' => e = .returned (.tuple #[]) ∧ w' = w0 := by
  have Hi := Lib.hid (AnyF.insertionSortCmpFunc_none (ρ := layInsI_ren) { layInsI with } A cap fv w0)
  go_enter Try.func58, Try.ntmps58
  go_wp2_with fail
  refine wp_loop_rounds 1 ?_
  rw [rounds_succ]
  go_wp2_with fail
  refine Calls.mono Hi.out ?_
  rintro e w1 ⟨rfl, rfl⟩
  go_wp2_with fail
  refine wp_loop_rounds 1 ?_
  rw [rounds_succ]
  go_wp2_with fail
  go_end0
  exact ⟨rfl, rfl⟩
theorem sortStable_none (w0 : World) (A : Option Addr) (cap : Nat) (fv : Value) :
    Calls Try.prog 47 #[.slice A 0 cap, fv] w0 fun e w' => e = .returned (.tuple #[]) ∧ w' = w0 := by
  have H := Lib.hid (stable_none w0 A cap fv)
  go_enter Try.func47, Try.ntmps47
  go_wp2_with fail
  refine H.out.mono ?_
  rintro e w1 ⟨rfl, rfl⟩
  go_wp2_with fail
  go_end0
  exact ⟨rfl, rfl⟩
end
end Go.Proofs.Ytajpnjapfiffmaa
