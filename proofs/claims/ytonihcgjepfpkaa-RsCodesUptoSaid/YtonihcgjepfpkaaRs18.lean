/-
  Whatever two are missing: Rebuild's sums are the shards again.
-/
import Derived.Test.YtonihcgjepfpkaaKRs16
namespace Go.Proofs.Ytonihcgjepfpkaa
open Go.RowKit

set_option maxRecDepth 20000
/-- the shards and their parity -/
def allD (k n : Nat) (D : Mtx) : Mtx := D ++ linM (pairsM k) D n
theorem allD_length {k n : Nat} {D : Mtx} (hD : D.length = k) : (allD k n D).length = k + 2 := by
  unfold allD
  rw [List.length_append, linM_length, hD]; rfl
/-- each is a row of allM times the shards -/
theorem allD_get {k n j : Nat} {D : Mtx} (hD : D.length = k) (hl : ∀ (i : Nat) (l : List UInt8), D[i]? = some l → l.length = n) (hj : j < k + 2) : (allD k n D)[j]? = some (lin ((allM k).getD j []) D n) := by
  unfold allD
  by_cases h : j < k
  · rw [List.getElem?_append_left (by omega), allM_unit k j h]
    have e := List.getElem?_eq_getElem (show j < D.length by omega)
    rw [e]
    congr 1
    refine bytes_ext (hl j _ e) (lin_length (by simp [hD]) hl) fun b hb => ?_
    rw [lin_get (by simp [hD]) hl b hb]
    unfold dot
    rw [dot_unit k j _ h, List.length_set, List.length_replicate, if_pos h, col_get e]
  · rw [List.getElem?_append_right (by omega), hD]
    by_cases h2 : j = k
    · subst h2
      rw [Nat.sub_self, allM_ones]; rfl
    · obtain rfl : j = k + 1 := by omega
      rw [show k + 1 - k = 1 by omega, allM_pows]; rfl
theorem allD_row {k n j : Nat} {D : Mtx} {l : List UInt8} (hD : D.length = k) (hl : ∀ (i : Nat) (l : List UInt8), D[i]? = some l → l.length = n) (h : (allD k n D)[j]? = some l) : l.length = n := by
  have hj : j < k + 2 := by rw [← allD_length (n := n) hD]; exact (List.getElem?_eq_some_iff.1 h).1
  rw [allD_get hD hl hj] at h
  cases h
  refine lin_length ?_ hl
  have := List.getElem?_eq_getElem (show j < (allM k).length by rw [allM_length]; exact hj)
  rw [getD_of this, allM_row k j _ this, hD]; exact Nat.le_refl _
/-- some struck out -/
def Sub (X S : Mtx) : Prop := S.length = X.length ∧ ∀ (j : Nat), j < X.length → S.getD j [] = X.getD j [] ∨ S.getD j [] = []
theorem Sub.refl (X : Mtx) : Sub X X := ⟨rfl, fun _ _ => .inl rfl⟩
theorem set_getD' {S : Mtx} {g j : Nat} {l : List UInt8} (hg : g < S.length) : (S.set g l).getD j [] = if j = g then l else S.getD j [] := set_getD hg
theorem Sub.strike {X S : Mtx} (h : Sub X S) (g : Nat) (hg : g < X.length) : Sub X (S.set g []) := by
  refine ⟨by rw [List.length_set]; exact h.1, fun j hj => ?_⟩
  rw [set_getD' (by rw [h.1]; exact hg)]
  split
  · exact .inr rfl
  · exact h.2 j hj
theorem missK_set {S : Mtx} {g : Nat} (hg : g < S.length) (h0 : (S.getD g []).length ≠ 0) : ∀ i, (missK (S.set g []) i).length = (missK S i).length + if g < i then 1 else 0
  | 0 => by rw [if_neg (by omega)]; rfl
  | i + 1 => by
    have ih := missK_set hg h0 i
    have e1 : missK (S.set g []) (i + 1) = if ((S.set g []).getD i []).length = 0 then missK (S.set g []) i ++ [(i : Int)] else missK (S.set g []) i := rfl
    have e2 : missK S (i + 1) = if (S.getD i []).length = 0 then missK S i ++ [(i : Int)] else missK S i := rfl
    rw [e1, e2, set_getD' hg]
    by_cases hi : i = g
    · subst hi
      rw [if_pos rfl, if_pos List.length_nil, if_neg h0, List.length_append, ih, if_neg (by omega), if_pos (by omega)]; rfl
    · rw [if_neg hi]
      by_cases h1 : (S.getD i []).length = 0
      · rw [if_pos h1, if_pos h1, List.length_append, List.length_append, ih]
        by_cases h2 : g < i
        · rw [if_pos h2, if_pos (by omega)]; omega
        · rw [if_neg h2, if_neg (by omega)]; omega
      · rw [if_neg h1, if_neg h1, ih]
        by_cases h2 : g < i
        · rw [if_pos h2, if_pos (by omega)]
        · rw [if_neg h2, if_neg (by omega)]
theorem missL_set {S : Mtx} {g : Nat} (hg : g < S.length) (h0 : (S.getD g []).length ≠ 0) : (missL (S.set g [])).length = (missL S).length + 1 := by
  unfold missL
  rw [List.length_set, missK_set hg h0, if_pos hg]
theorem missL_full {X : Mtx} (h : ∀ (i : Nat) (l : List UInt8), X[i]? = some l → l.length ≠ 0) : (missL X).length = 0 := by
  have hm : ∀ i, i ≤ X.length → missK X i = [] := fun i => by
    induction i with
    | zero => intro _; rfl
    | succ i ih =>
      intro hi
      have e := List.getElem?_eq_getElem (show i < X.length by omega)
      show (if (X.getD i []).length = 0 then missK X i ++ [(i : Int)] else missK X i) = []
      rw [if_neg (by rw [getD_of e]; exact h i _ e)]
      exact ih (by omega)
  unfold missL
  rw [hm _ (Nat.le_refl _)]; rfl
theorem sub_fit {k n : Nat} {D S : Mtx} (hD : D.length = k) (hl : ∀ (i : Nat) (l : List UInt8), D[i]? = some l → l.length = n) (hs : Sub (allD k n D) S) :
    fitB ((k : Int) + 2) S = true ∧ ∀ (i : Nat) (l : List UInt8), S[i]? = some l → l.length = 0 ∨ l.length = n := by
  have hS : S.length = k + 2 := by rw [hs.1, allD_length hD]
  have hrow : ∀ (i : Nat) (l : List UInt8), S[i]? = some l → l.length = 0 ∨ l.length = n := fun i l hi => by
    have hj : i < (allD k n D).length := by rw [← hs.1]; exact (List.getElem?_eq_some_iff.1 hi).1
    rcases hs.2 i hj with h | h
    · rw [getD_of hi] at h
      have e := List.getElem?_eq_getElem hj
      rw [getD_of e] at h
      rw [h]
      exact .inr (allD_row hD hl e)
    · rw [getD_of hi] at h
      rw [h]; exact .inl rfl
  refine ⟨?_, hrow⟩
  unfold fitB
  rw [decide_eq_true (by rw [hS]; omega)]
  rcases hq : fitS 0 S with _ | m
  · exact absurd (fun l hl => by
      obtain ⟨i, hi⟩ := List.getElem?_of_mem hl
      exact hrow i l hi) (fitS_none S 0 hq n (.inl rfl))
  · rfl
theorem any_lost {k n : Nat} {D S : Mtx} (hD : D.length = k) (hl : ∀ (i : Nat) (l : List UInt8), D[i]? = some l → l.length = n) (hs : Sub (allD k n D) S) (hm : 2 < (missL S).length) : rebL k S = [] ∧ rebE k S = 7 := by
  have hf := (sub_fit hD hl hs).1
  have hb : rebB k S = false := by unfold rebB; rw [hf, decide_eq_false (by omega)]; rfl
  constructor
  · unfold rebL; rw [hb]; rfl
  · unfold rebE; rw [if_pos hf, if_neg (by omega)]
theorem any_reb {k n : Nat} {D S : Mtx} (hk1 : 1 ≤ k) (hk2 : k ≤ 253) (hn : 1 ≤ n) (hD : D.length = k) (hl : ∀ (i : Nat) (l : List UInt8), D[i]? = some l → l.length = n) (hs : Sub (allD k n D) S) (hm : (missL S).length ≤ 2) : rebL k S = allD k n D ∧ rebE k S = 0 := by
  obtain ⟨hf, hrow⟩ := sub_fit hD hl hs
  have hb : rebB k S = true := by unfold rebB; rw [hf, decide_eq_true hm]; rfl
  obtain ⟨h1, h2, h3, h4, h5⟩ := lens_of hb hk1
  obtain ⟨V, hV⟩ := first_inv hk2 h1 h2
  have hd := first_dim h1 h5
  have hdV : Dim V.2 k := (invK_good hd k V (Nat.le_refl _) hV).d2
  have hX := allD_length (n := n) hD
  -- those that are there are the shards'
  have hthere : ∀ x ∈ (thereL S).take k, ∃ m : Nat, x = (m : Int) ∧ m < k + 2 ∧ S.getD m [] = lin ((allM k).getD m []) D n := fun x hx => by
    obtain ⟨m, rfl, hm1, hm2⟩ := (mem_there S.length).1 (List.mem_of_mem_take hx)
    refine ⟨m, rfl, by omega, ?_⟩
    rcases hs.2 m (by omega) with h | h
    · rw [h]
      exact getD_of (allD_get hD hl (by omega))
    · rw [h] at hm2; exact absurd rfl hm2
  have hlen : lenS S = n := by
    obtain ⟨x, hx⟩ : ∃ x, (thereL S)[0]? = some x := ⟨_, List.getElem?_eq_getElem (by omega)⟩
    obtain ⟨m, rfl, hm1, hm2⟩ := (mem_there S.length).1 (List.mem_of_getElem? hx)
    have e := List.getElem?_eq_getElem hm1
    rw [getD_of e] at hm2
    rcases h4 m _ e with q | q
    · exact absurd q hm2
    · rcases hrow m _ e with q2 | q2
      · exact absurd q2 hm2
      · omega
  have hpl : (pick S ((thereL S).take k)).length = k := by rw [pick_length, List.length_take]; omega
  have hfl := first_len (k := k) h4
  rw [hlen] at hfl
  have hcol : ∀ b, b < n → col (pick S ((thereL S).take k)) b = applyL (pick (allM k) ((thereL S).take k)) (col D b) := fun b hb9 => by
    unfold col pick applyL
    rw [List.map_map, List.map_map]
    apply List.map_congr_left
    intro x hx
    obtain ⟨m, rfl, hm1, hm2⟩ := hthere x hx
    show (S.getD (Int.toNat (m : Int)) []).getD b 0 = dot ((allM k).getD (Int.toNat (m : Int)) []) (col D b)
    rw [Int.toNat_natCast, hm2]
    refine lin_get ?_ hl b hb9
    have e := List.getElem?_eq_getElem (show m < (allM k).length by rw [allM_length]; exact hm1)
    rw [getD_of e, allM_row k m _ e, hD]; exact Nat.le_refl _
  have hVs : ∀ (i : Nat) (r : List UInt8), V.2[i]? = some r → r.length ≤ (pick S ((thereL S).take k)).length := fun i r hr => by rw [hdV.2 i r hr, hpl]; exact Nat.le_refl _
  -- the inverse's products are the shards
  have hdata : linM V.2 (pick S ((thereL S).take k)) n = D := by
    apply List.ext_getElem?
    intro j
    by_cases hj : j < k
    · have e := List.getElem?_eq_getElem (show j < D.length by omega)
      obtain ⟨vr, ev⟩ : ∃ vr, V.2[j]? = some vr := ⟨_, List.getElem?_eq_getElem (by rw [hdV.1]; exact hj)⟩
      rw [linM_get _ _ _ j _ ev, e]
      congr 1
      refine bytes_ext (lin_length (hVs j _ ev) hfl) (hl j _ e) fun b hb9 => ?_
      rw [lin_get (hVs j _ ev) hfl b hb9, hcol b hb9]
      have hu := inv_undoes hd hV (col D b) (by rw [col_length, hD])
      have := congrArg (fun l => l.getD j 0) hu
      unfold applyL at this
      rw [show (List.map (fun r => dot r (List.map (fun r => dot r (col D b)) (pick (allM k) ((thereL S).take k)))) V.2).getD j 0 = dot vr (applyL (pick (allM k) ((thereL S).take k)) (col D b)) from map_getD _ ev] at this
      rw [this, col_get e]
    · rw [List.getElem?_eq_none (by rw [linM_length, hdV.1]; omega), List.getElem?_eq_none (by omega)]
  constructor
  · apply List.ext_getElem?
    intro j
    by_cases hj : j < k + 2
    · rw [reb_get hb hk1 hk2 hV hj, allD_get hD hl hj]
      congr 1
      by_cases h0 : (S.getD j []).length = 0
      · rw [if_pos h0, hlen, hdata]
      · rw [if_neg h0]
        rcases hs.2 j (by omega) with h | h
        · rw [h]; exact getD_of (allD_get hD hl hj)
        · rw [h] at h0; exact absurd rfl h0
    · rw [List.getElem?_eq_none (by unfold rebL; rw [if_pos hb, setK_length]; omega), List.getElem?_eq_none (by omega)]
  · unfold rebE
    rw [if_pos hf, if_pos hm]
/-! headers that are read -/
theorem rm_rows {w : World} {B b o : Nat} {M : Mtx} (h : RM w B (some ⟨b, o, none⟩) M) : ∃ rows : List Value, rows.length = M.length ∧ (∀ (i : Nat) (r : Value), rows[i]? = some r → w.cell? ⟨b, o + i, none⟩ = some r) ∧
    ∀ (i : Nat) (r : Value) (l : List UInt8), rows[i]? = some r → M[i]? = some l → ∃ A c, r = .slice A l.length c ∧ RB w B A l ∧ l.length ≤ c := by
  have hget : ∀ (i : Nat) (r : Value), ((List.range M.length).map fun i => (w.cell? ⟨b, o + i, none⟩).getD undef)[i]? = some r → i < M.length ∧ r = (w.cell? ⟨b, o + i, none⟩).getD undef := fun i r hr => by
    have hi := (List.getElem?_eq_some_iff.1 hr).1
    rw [List.length_map, List.length_range] at hi
    rw [List.getElem?_map, List.getElem?_range hi] at hr
    exact ⟨hi, (Option.some.inj hr).symm⟩
  refine ⟨(List.range M.length).map fun i => (w.cell? ⟨b, o + i, none⟩).getD undef, by simp, fun i r hr => ?_, fun i r l hr hl => ?_⟩
  · obtain ⟨hi, rfl⟩ := hget i r hr
    obtain ⟨A', c', hc, _⟩ := h.row (List.getElem?_eq_getElem hi)
    rw [hc]; rfl
  · obtain ⟨hi, rfl⟩ := hget i r hr
    obtain ⟨A', c', hc, hr2, hcap⟩ := h.row hl
    rw [hc]
    exact ⟨A', c', rfl, hr2, hcap⟩
theorem ListR.set {w wr : World} {g n c i : Nat} {rows : List Value} {M : Mtx} (h : ListR w (.slice (some ⟨g, 0, none⟩) n c) rows M wr) (hi : i < M.length) :
    (∃ u, wr.cell? ⟨g, i, none⟩ = some u) ∧ wr.frozen? ⟨g, i, none⟩ = false ∧ ListR w (.slice (some ⟨g, 0, none⟩) n c) (rows.set i (.slice none 0 0)) (M.set i []) (wr.setCell ⟨g, i, none⟩ (.slice none 0 0)) := by
  have hg := (h.head.ge g rfl).1
  have hil : i < rows.length := by rw [h.len]; exact hi
  rcases h.head.form with ⟨hv, _⟩ | ⟨g', cap, cur, hv, _, hc, hn, hm, hl, ht⟩
  · cases hv
  have e0 : g = g' := by
    have := (Value.slice.inj hv).1
    simpa using this
  subst e0
  have hcur : i < cur.length := by
    have := congrArg List.length ht
    rw [List.length_take] at this
    omega
  refine ⟨⟨_, hc.cell (List.getElem?_eq_getElem hcur)⟩, hc.frozen i, h.head.set i _, by rw [List.length_set, List.length_set]; exact h.len, fun t r l hr hl2 => ?_, h.bel.setCell (p := ⟨g, i, none⟩) hg _⟩
  by_cases e : t = i
  · subst e
    rw [List.getElem?_set_self hil] at hr
    rw [List.getElem?_set_self hi] at hl2
    cases hr
    cases hl2
    exact ⟨none, 0, rfl, RB.nil _ _ _, Nat.le_refl _⟩
  · rw [List.getElem?_set_ne (fun q => e q.symm)] at hr hl2
    obtain ⟨A, c', e1, h1, h2⟩ := h.rows t r l hr hl2
    exact ⟨A, c', e1, h1.move (fun p hp => World.cell?_of_block (Below.heap_setCell _ _ _ _ (by show p.block ≠ g; omega))) (Nat.le_refl _), h2⟩
end Go.Proofs.Ytonihcgjepfpkaa
