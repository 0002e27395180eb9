/-
  Add, plain: a stretch laid into a plain list; what it neither has nor touches stays.
-/
import Derived.Test.YtghcfmkmndldoaaEl13
namespace Go.Proofs.Ytghcfmkmndldoaa

/-- a key that something covers -/
theorem top_some {l : List Ec} {k : ByteArray} (h : 0 < topE l k) : ∃ e ∈ l, covE e k = true := by
  obtain ⟨e, he, hc, _⟩ := has_iff.1 h
  exact ⟨e, he, hc⟩
theorem top_mem {l : List Ec} (h : PlainE l) {e : Ec} (he : e ∈ l) {k : ByteArray} (hc : covE e k = true) : topE l k = e.2.2 + 1 := by
  induction l with
  | nil => cases he
  | cons a l ih =>
    rcases List.mem_cons.1 he with rfl | he'
    · exact top_in h hc
    · have hna : ¬ covE a k = true := fun q => kl_irrefl k (kl_ke (kl_ke (covE_iff.1 q).2 (h.head e he').1) (covE_iff.1 hc).1)
      rw [top_out hna]
      exact ih h.tail he'
/-- what stands in the middle: the stretches that e may touch, and e -/
structure MidE (seg out : List Ec) (e : Ec) : Prop where
  segp : PlainE seg
  outp : PlainE out
  ok : kl e.1 e.2.1
  top : ∀ j, topE out j = max (topE seg j) (if covE e j = true then e.2.2 + 1 else 0)
theorem MidE.at_ {seg out : List Ec} {e z : Ec} (h : MidE seg out e) (hz : z ∈ out) {j : ByteArray} (hj : covE z j = true) : z.2.2 + 1 = max (topE seg j) (if covE e j = true then e.2.2 + 1 else 0) := by
  rw [← h.top, top_mem h.outp hz hj]
theorem MidE.or {seg out : List Ec} {e z : Ec} (h : MidE seg out e) (hz : z ∈ out) {j : ByteArray} (hj : covE z j = true) : covE e j = true ∨ ∃ y ∈ seg, covE y j = true := by
  by_cases hc : covE e j = true
  · exact .inl hc
  · have := h.at_ hz hj
    rw [if_neg hc] at this
    exact .inr (top_some (by omega))
theorem MidE.only {seg out : List Ec} {e z : Ec} (h : MidE seg out e) (hz : z ∈ out) {j : ByteArray} (hj : covE z j = true) (hc : ¬ covE e j = true) : ∃ y ∈ seg, covE y j = true ∧ y.2.2 = z.2.2 := by
  rcases h.or hz hj with q | ⟨y, hy, q⟩
  · exact absurd q hc
  · refine ⟨y, hy, q, ?_⟩
    have h1 := h.at_ hz hj
    rw [if_neg hc, top_mem h.segp hy q] at h1
    omega
theorem covE_lo {z : Ec} (h : kl z.1 z.2.1) : covE z z.1 = true := covE_iff.2 ⟨ke_refl _, h⟩
theorem MidE.left {seg out : List Ec} {e x z : Ec} (h : MidE seg out e) (hx : kl x.2.1 e.1) (hs : ∀ y ∈ seg, SepE x y) (hz : z ∈ out) : SepE x z := by
  have hzz := covE_lo (h.outp.ok z hz)
  rcases h.or hz hzz with q | ⟨y, hy, q⟩
  · have h1 := kl_ke hx (covE_iff.1 q).1
    exact ⟨h1.ke, fun e1 => absurd e1 (kl_ne h1)⟩
  · refine ⟨ke_trans (hs y hy).1 (covE_iff.1 q).1, fun e1 => ?_⟩
    have hne : ¬ covE e z.1 = true := fun q2 => by
      have := kl_ke hx (covE_iff.1 q2).1
      exact kl_ne this e1
    obtain ⟨y2, hy2, q2, hsq⟩ := h.only hz hzz hne
    have e2 : x.2.1 = y2.1 := ke_antisymm (hs y2 hy2).1 (by rw [e1]; exact (covE_iff.1 q2).1)
    rw [← hsq]
    exact (hs y2 hy2).2 e2
theorem MidE.right {seg out : List Ec} {e w z : Ec} (h : MidE seg out e) (hw : kl e.2.1 w.1) (hs : ∀ y ∈ seg, SepE y w) (hz : z ∈ out) : SepE z w := by
  have hzok := h.outp.ok z hz
  -- what covers a key ends by w's beginning
  have hend : ∀ j, covE z j = true → kl j w.1 := fun j hj => by
    rcases h.or hz hj with q | ⟨y, hy, q⟩
    · exact kl_trans (covE_iff.1 q).2 hw
    · exact kl_ke (covE_iff.1 q).2 (hs y hy).1
  have h1 : ke z.2.1 w.1 := by
    rw [ke_iff]
    intro q
    have q1 := hend z.1 (covE_lo hzok)
    exact kl_irrefl w.1 (hend w.1 (covE_iff.2 ⟨q1.ke, q⟩))
  refine ⟨h1, fun e1 => ?_⟩
  -- a key of z that e has not, from e's end on
  obtain ⟨q, hq1, hq2, hq3⟩ : ∃ q, ke z.1 q ∧ ke e.2.1 q ∧ kl q z.2.1 := by
    rcases ke_or z.1 e.2.1 with p | p
    · exact ⟨e.2.1, p, ke_refl _, by rw [e1]; exact hw⟩
    · exact ⟨z.1, ke_refl _, p.ke, hzok⟩
  have hne : ∀ j, ke e.2.1 j → ¬ covE e j = true := fun j hj q => kl_irrefl j (kl_ke (covE_iff.1 q).2 hj)
  obtain ⟨y, hy, hyc, hys⟩ := h.only hz (covE_iff.2 ⟨hq1, hq3⟩) (hne q hq2)
  rcases ke_eq (hs y hy).1 with p | p
  · -- y ends ahead of w: another one goes on with its number
    have hyq := (covE_iff.1 hyc).2
    have hzc : covE z y.2.1 = true := covE_iff.2 ⟨ke_trans hq1 hyq.ke, by rw [e1]; exact p⟩
    obtain ⟨y2, hy2, hyc2, hys2⟩ := h.only hz hzc (hne _ (ke_trans hq2 hyq.ke))
    exfalso
    obtain ⟨i, hi⟩ := List.getElem?_of_mem hy
    obtain ⟨j, hj⟩ := List.getElem?_of_mem hy2
    obtain ⟨i1, i2⟩ := List.getElem?_eq_some_iff.1 hi
    obtain ⟨j1, j2⟩ := List.getElem?_eq_some_iff.1 hj
    rcases Nat.lt_trichotomy i j with c | c | c
    · have hp := List.pairwise_iff_getElem.1 h.segp.sep i j i1 j1 c
      rw [i2, j2] at hp
      exact hp.2 (ke_antisymm hp.1 (covE_iff.1 hyc2).1) (by rw [hys, hys2])
    · subst c
      rw [hi] at hj
      cases hj
      exact kl_irrefl _ (covE_iff.1 hyc2).2
    · have hp := List.pairwise_iff_getElem.1 h.segp.sep j i j1 i1 c
      rw [i2, j2] at hp
      exact kl_irrefl y.2.1 (kl_trans (kl_ke (covE_iff.1 hyc2).2 hp.1) (h.segp.ok y hy))
  · rw [← hys]
    exact (hs y hy).2 p
/-- the list with e laid into it -/
theorem add_plain {l out : List Ec} {e : Ec} {a b : Nat} (hl : PlainE l) (hab : a ≤ b) (ha : ∀ i x, l[i]? = some x → i < a → kl x.2.1 e.1) (hb : ∀ i x, l[i]? = some x → b ≤ i → kl e.2.1 x.1) (h : MidE ((l.take b).drop a) out e) :
    PlainE (l.take a ++ out ++ l.drop b) ∧ ∀ j, topE (l.take a ++ out ++ l.drop b) j = max (topE l j) (if covE e j = true then e.2.2 + 1 else 0) := by
  have hpw := hl.sep
  have hla : ∀ x ∈ l.take a, kl x.2.1 e.1 ∧ ∀ y ∈ l.drop a, SepE x y := fun x hx => by
    obtain ⟨i, hi⟩ := List.getElem?_of_mem hx
    rw [List.getElem?_take] at hi
    split at hi
    · rename_i hia
      refine ⟨ha i x hi hia, fun y hy => ?_⟩
      have hsp := hpw
      rw [← List.take_append_drop a l] at hsp
      exact (List.pairwise_append.1 hsp).2.2 x hx y hy
    · cases hi
  have hlb : ∀ w ∈ l.drop b, kl e.2.1 w.1 ∧ ∀ y ∈ l.take b, SepE y w := fun w hw => by
    obtain ⟨i, hi⟩ := List.getElem?_of_mem hw
    rw [List.getElem?_drop] at hi
    refine ⟨hb _ w hi (Nat.le_add_right _ _), fun y hy => ?_⟩
    have hsp := hpw
    rw [← List.take_append_drop b l] at hsp
    exact (List.pairwise_append.1 hsp).2.2 y hy w hw
  have hseg : (l.take b).drop a = (l.drop a).take (b - a) := List.drop_take
  refine ⟨⟨fun z hz => ?_, ?_⟩, fun j => ?_⟩
  · rcases List.mem_append.1 hz with hz | hz
    · rcases List.mem_append.1 hz with hz | hz
      · exact hl.ok z (List.mem_of_mem_take hz)
      · exact h.outp.ok z hz
    · exact hl.ok z (List.mem_of_mem_drop hz)
  · rw [List.append_assoc]
    refine List.pairwise_append.2 ⟨hpw.sublist (List.take_sublist _ _), List.pairwise_append.2 ⟨h.outp.sep, hpw.sublist (List.drop_sublist _ _), fun z hz w hw => ?_⟩, fun x hx z hz => ?_⟩
    · exact h.right (hlb w hw).1 (fun y hy => (hlb w hw).2 y (List.mem_of_mem_drop hy)) hz
    · rcases List.mem_append.1 hz with hz | hz
      · exact h.left (hla x hx).1 (fun y hy => (hla x hx).2 y (by rw [hseg] at hy; exact List.mem_of_mem_take hy)) hz
      · refine (hla x hx).2 z ?_
        have : l.drop b = (l.drop a).drop (b - a) := by rw [List.drop_drop]; congr 1; omega
        rw [this] at hz
        exact List.mem_of_mem_drop hz
  · have e1 : l = l.take a ++ (l.take b).drop a ++ l.drop b := by
      have : l.take a = (l.take b).take a := by rw [List.take_take, Nat.min_eq_left hab]
      rw [this, List.take_append_drop, List.take_append_drop]
    have e2 : topE l j = max (max (topE (l.take a) j) (topE ((l.take b).drop a) j)) (topE (l.drop b) j) := by
      conv => lhs; rw [e1]
      rw [top_append, top_append]
    rw [top_append, top_append, h.top, e2]
    omega
end Go.Proofs.Ytghcfmkmndldoaa
