/-
  Elisions as plain data: what they elide, plain lists, and that what is elided fixes a plain list.
-/
import Derived.Test.YtghcfmkmndldoaaFa1
namespace Go.Proofs.Ytghcfmkmndldoaa

/-- an elision: from the first on, below the second, its number -/
abbrev Ec := ByteArray × ByteArray × Nat
def zeroE : Ec := (⟨#[]⟩, ⟨#[]⟩, 0)

/-- below; up to -/
def kl (a b : ByteArray) : Prop := Op.bytesLess a.toList b.toList = true
def ke (a b : ByteArray) : Prop := Op.bytesLess b.toList a.toList = false
theorem ke_iff {a b : ByteArray} : ke a b ↔ ¬ kl b a := by
  unfold ke kl
  cases Op.bytesLess b.toList a.toList <;> simp
theorem kl_irrefl (a : ByteArray) : ¬ kl a a := by unfold kl; rw [less_irrefl]; simp
theorem kl_trans {a b c : ByteArray} (h : kl a b) (k : kl b c) : kl a c := less_trans _ _ _ h k
theorem kl_tri (a b : ByteArray) : kl a b ∨ a = b ∨ kl b a := by
  rcases less_total a.toList b.toList with h | h | h
  · exact .inl h
  · exact .inr (.inl (array_inj h))
  · exact .inr (.inr h)
theorem kl_asymm {a b : ByteArray} (h : kl a b) : ¬ kl b a := fun k => kl_irrefl a (kl_trans h k)
theorem ke_refl (a : ByteArray) : ke a a := ke_iff.2 (kl_irrefl a)
theorem kl.ke {a b : ByteArray} (h : kl a b) : ke a b := ke_iff.2 (kl_asymm h)
theorem kl_ke {a b c : ByteArray} (h : kl a b) (k : ke b c) : kl a c := by
  rw [ke_iff] at k
  rcases kl_tri a c with q | rfl | q
  · exact q
  · exact absurd h k
  · exact absurd (kl_trans q h) k
theorem ke_kl {a b c : ByteArray} (h : ke a b) (k : kl b c) : kl a c := by
  rw [ke_iff] at h
  rcases kl_tri a c with q | rfl | q
  · exact q
  · exact absurd k h
  · exact absurd (kl_trans k q) h
theorem ke_trans {a b c : ByteArray} (h : ke a b) (k : ke b c) : ke a c := ke_iff.2 fun q => by
  have := kl_ke q h
  exact ke_iff.1 k this
theorem ke_antisymm {a b : ByteArray} (h : ke a b) (k : ke b a) : a = b := by
  rw [ke_iff] at h k
  rcases kl_tri a b with q | q | q
  · exact absurd q k
  · exact q
  · exact absurd q h
theorem ke_or (a b : ByteArray) : ke a b ∨ kl b a := by
  rw [ke_iff]
  by_cases h : kl b a
  · exact .inr h
  · exact .inl h
theorem ke_eq {a b : ByteArray} (h : ke a b) : kl a b ∨ a = b := by
  rcases kl_tri a b with q | q | q
  · exact .inl q
  · exact .inr q
  · exact absurd q (ke_iff.1 h)
theorem nil_ke (a : ByteArray) : ke ⟨#[]⟩ a := by
  unfold ke
  rw [list_of_array ⟨#[]⟩]
  cases a.toList <;> rfl
theorem kl_ne {a b : ByteArray} (h : kl a b) : a ≠ b := fun q => kl_irrefl a (by rw [q] at h ⊢; exact h)
theorem kl_not_nil {a : ByteArray} : ¬ kl a ⟨#[]⟩ := ke_iff.1 (nil_ke a)

/-- does an elision have a key? -/
def covE (e : Ec) (k : ByteArray) : Bool := !Op.bytesLess k.toList e.1.toList && Op.bytesLess k.toList e.2.1.toList
theorem covE_iff {e : Ec} {k : ByteArray} : covE e k = true ↔ ke e.1 k ∧ kl k e.2.1 := by
  unfold covE ke kl
  rw [Bool.and_eq_true, Bool.not_eq_true']
/-- one more than the greatest number that elides facts of a key; 0: none does -/
def topE : List Ec → ByteArray → Nat
  | [], _ => 0
  | e :: l, k => max (if covE e k = true then e.2.2 + 1 else 0) (topE l k)
theorem top_append (l m : List Ec) (k : ByteArray) : topE (l ++ m) k = max (topE l k) (topE m k) := by
  induction l with
  | nil => simp [topE]
  | cons a l ih => rw [List.cons_append, topE, topE, ih, Nat.max_assoc]
theorem top_perm {l m : List Ec} (h : l.Perm m) (k : ByteArray) : topE l k = topE m k := by
  induction h with
  | nil => rfl
  | cons x _ ih => rw [topE, topE, ih]
  | swap x y l => rw [topE, topE, topE, topE, ← Nat.max_assoc, ← Nat.max_assoc, Nat.max_comm (if covE y k = true then _ else _)]
  | trans _ _ h1 h2 => rw [h1, h2]
theorem has_iff {l : List Ec} {k : ByteArray} {s : Nat} : s < topE l k ↔ ∃ e ∈ l, covE e k = true ∧ s ≤ e.2.2 := by
  induction l with
  | nil => simp [topE]
  | cons a l ih =>
    rw [topE]
    by_cases h : covE a k = true
    · rw [if_pos h]
      constructor
      · intro q
        by_cases q2 : s < topE l k
        · obtain ⟨e, he, h2⟩ := ih.1 q2
          exact ⟨e, List.mem_cons_of_mem _ he, h2⟩
        · exact ⟨a, List.mem_cons_self, h, by omega⟩
      · rintro ⟨e, he, h1, h2⟩
        rcases List.mem_cons.1 he with rfl | he
        · omega
        · have := ih.2 ⟨e, he, h1, h2⟩
          omega
    · rw [if_neg h, Nat.zero_max, ih]
      constructor
      · rintro ⟨e, he, h2⟩
        exact ⟨e, List.mem_cons_of_mem _ he, h2⟩
      · rintro ⟨e, he, h1, h2⟩
        rcases List.mem_cons.1 he with rfl | he
        · exact absurd h1 h
        · exact ⟨e, he, h1, h2⟩
theorem top_zero {l : List Ec} {k : ByteArray} (h : ∀ e ∈ l, covE e k = true → False) : topE l k = 0 := by
  have : ¬ 0 < topE l k := fun q => by
    obtain ⟨e, he, h1, _⟩ := has_iff.1 q
    exact h e he h1
  omega
/-- two of a plain list -/
def SepE (x z : Ec) : Prop := ke x.2.1 z.1 ∧ (x.2.1 = z.1 → x.2.2 ≠ z.2.2)
/-- A PLAIN LIST: stretches side by side, two that touch with unlike numbers -/
structure PlainE (l : List Ec) : Prop where
  ok : ∀ e ∈ l, kl e.1 e.2.1
  sep : l.Pairwise SepE
theorem PlainE.nil : PlainE [] := ⟨(fun _ h => by cases h), List.Pairwise.nil⟩
theorem PlainE.tail {x : Ec} {l : List Ec} (h : PlainE (x :: l)) : PlainE l := ⟨fun e he => h.ok e (List.mem_cons_of_mem _ he), List.Pairwise.of_cons h.sep⟩
theorem PlainE.one {x : Ec} (h : kl x.1 x.2.1) : PlainE [x] := ⟨fun e he => by rw [List.mem_singleton] at he; rw [he]; exact h, List.pairwise_singleton _ _⟩
theorem PlainE.head {x : Ec} {l : List Ec} (h : PlainE (x :: l)) : ∀ z ∈ l, SepE x z := (List.pairwise_cons.1 h.sep).1
theorem PlainE.sub {l m : List Ec} (h : PlainE l) (hs : m.Sublist l) : PlainE m := ⟨fun e he => h.ok e (hs.subset he), h.sep.sublist hs⟩
/-- what stands behind the first begins where the first ends, or behind it -/
theorem tail_zero {x : Ec} {l : List Ec} (h : PlainE (x :: l)) {k : ByteArray} (hk : kl k x.2.1) : topE l k = 0 := top_zero fun e he hc => by
  have h1 := (covE_iff.1 hc).1
  have h2 := (h.head e he).1
  exact kl_irrefl k (kl_ke (kl_ke hk h2) h1)
theorem top_in {x : Ec} {l : List Ec} (h : PlainE (x :: l)) {k : ByteArray} (hc : covE x k = true) : topE (x :: l) k = x.2.2 + 1 := by
  rw [topE, if_pos hc, tail_zero h (covE_iff.1 hc).2]
  omega
theorem top_out {x : Ec} {l : List Ec} {k : ByteArray} (hc : ¬ covE x k = true) : topE (x :: l) k = topE l k := by
  rw [topE, if_neg hc, Nat.zero_max]
theorem top_low {x : Ec} {l : List Ec} (h : PlainE (x :: l)) {k : ByteArray} (hk : kl k x.1) : topE (x :: l) k = 0 := by
  rw [top_out fun q => (ke_iff.1 (covE_iff.1 q).1) hk]
  exact tail_zero h (kl_trans hk (h.ok x List.mem_cons_self))
/-- what is elided fixes a plain list -/
theorem plain_ext : ∀ {a b : List Ec}, PlainE a → PlainE b → (∀ k, topE a k = topE b k) → a = b
  | [], [], _, _, _ => rfl
  | [], y :: b, _, hb, h => by
    have h1 := hb.ok y List.mem_cons_self
    have := h y.1
    rw [top_in hb (covE_iff.2 ⟨ke_refl _, h1⟩), topE] at this
    omega
  | x :: a, [], ha, _, h => by
    have h1 := ha.ok x List.mem_cons_self
    have := h x.1
    rw [top_in ha (covE_iff.2 ⟨ke_refl _, h1⟩), topE] at this
    omega
  | x :: a, y :: b, ha, hb, h => by
    have hx := ha.ok x List.mem_cons_self
    have hy := hb.ok y List.mem_cons_self
    have cx := top_in ha (covE_iff.2 ⟨ke_refl _, hx⟩)
    have cy := top_in hb (covE_iff.2 ⟨ke_refl _, hy⟩)
    have e1 : x.1 = y.1 := by
      rcases kl_tri x.1 y.1 with q | q | q
      · rw [h, top_low hb q] at cx; omega
      · exact q
      · rw [← h, top_low ha q] at cy; omega
    have e3 : x.2.2 = y.2.2 := by
      rw [h, e1, cy] at cx
      omega
    have key : ∀ {x y : Ec} {a b : List Ec}, PlainE (x :: a) → PlainE (y :: b) → (∀ k, topE (x :: a) k = topE (y :: b) k) → kl x.1 x.2.1 → x.1 = y.1 → x.2.2 = y.2.2 → ¬ kl x.2.1 y.2.1 := by
      intro x y a b ha hb h hx e1 e3 q
      have c1 : covE y x.2.1 = true := covE_iff.2 ⟨by rw [← e1]; exact hx.ke, q⟩
      have c2 := h x.2.1
      rw [top_in hb c1, top_out fun q => kl_irrefl _ (covE_iff.1 q).2] at c2
      obtain ⟨z, hz, c3, c4⟩ := has_iff.1 (show y.2.2 < topE a x.2.1 by omega)
      have c5 : ¬ y.2.2 + 1 < topE a x.2.1 := by omega
      have c6 : z.2.2 = y.2.2 := by
        have : ¬ y.2.2 + 1 ≤ z.2.2 := fun q => c5 (has_iff.2 ⟨z, hz, c3, q⟩)
        omega
      have hs := ha.head z hz
      exact hs.2 (ke_antisymm hs.1 (covE_iff.1 c3).1) (by rw [c6, e3])
    have e2 : x.2.1 = y.2.1 := by
      rcases kl_tri x.2.1 y.2.1 with q | q | q
      · exact absurd q (key ha hb h hx e1 e3)
      · exact q
      · exact absurd q (key hb ha (fun k => (h k).symm) hy e1.symm e3.symm)
    obtain ⟨x1, x2, x3⟩ := x
    obtain ⟨y1, y2, y3⟩ := y
    dsimp only at e1 e2 e3
    subst e1 e2 e3
    rw [plain_ext ha.tail hb.tail fun k => ?_]
    by_cases hc : covE (x1, x2, x3) k = true
    · rw [tail_zero ha (covE_iff.1 hc).2, tail_zero hb (covE_iff.1 hc).2]
    · have := h k
      rwa [top_out hc, top_out hc] at this
/-- a plain list with one more stretch behind it -/
def joinE (l : List Ec) (e : Ec) : List Ec := match l.getLast? with
  | some x => if x.2.1 = e.1 ∧ x.2.2 = e.2.2 then l.dropLast ++ [(x.1, e.2.1, x.2.2)] else l ++ [e]
  | none => [e]
theorem join_nil (e : Ec) : joinE [] e = [e] := rfl
theorem join_snoc (l : List Ec) (x e : Ec) : joinE (l ++ [x]) e = if x.2.1 = e.1 ∧ x.2.2 = e.2.2 then l ++ [(x.1, e.2.1, x.2.2)] else l ++ [x] ++ [e] := by
  unfold joinE
  rw [List.getLast?_concat, List.dropLast_concat]
theorem snoc_of {l : List Ec} (h : l ≠ []) : ∃ m x, l = m ++ [x] := ⟨l.dropLast, l.getLast h, (List.dropLast_concat_getLast h).symm⟩
/-- what joining does -/
theorem join_plain {l : List Ec} {e : Ec} (h : PlainE l) (he : kl e.1 e.2.1) (hb : ∀ x ∈ l, ke x.2.1 e.1) :
    PlainE (joinE l e) ∧ (∀ k, topE (joinE l e) k = max (topE l k) (if covE e k = true then e.2.2 + 1 else 0)) ∧ ∀ x ∈ joinE l e, ke x.2.1 e.2.1 := by
  by_cases h0 : l = []
  · subst h0
    rw [join_nil]
    refine ⟨PlainE.one he, fun k => by simp [topE], fun x hx => ?_⟩
    rw [List.mem_singleton] at hx
    rw [hx]
    exact ke_refl _
  · obtain ⟨m, x, rfl⟩ := snoc_of h0
    rw [join_snoc]
    have hx := h.ok x (by simp)
    have hm : PlainE m := h.sub (List.sublist_append_left _ _)
    have hmx : ∀ y ∈ m, SepE y x := fun y hy => (List.pairwise_append.1 h.sep).2.2 y hy x (by simp)
    have hxe := hb x (by simp)
    split
    · rename_i q
      have hxe2 : kl x.1 e.2.1 := kl_trans (by rw [q.1] at hx; exact hx) he
      refine ⟨⟨fun z hz => ?_, List.pairwise_append.2 ⟨hm.sep, List.pairwise_singleton _ _, fun y hy z hz => ?_⟩⟩, fun k => ?_, fun z hz => ?_⟩
      · rcases List.mem_append.1 hz with hz | hz
        · exact hm.ok z hz
        · rw [List.mem_singleton] at hz; rw [hz]; exact hxe2
      · rw [List.mem_singleton] at hz; rw [hz]; exact hmx y hy
      · rw [top_append, top_append, Nat.max_assoc]
        congr 1
        simp only [topE, Nat.max_zero]
        by_cases c1 : covE x k = true
        · have c2 : ¬ covE e k = true := fun c => kl_irrefl k (kl_ke (covE_iff.1 c1).2 (by rw [q.1]; exact (covE_iff.1 c).1))
          have c3 : covE (x.1, e.2.1, x.2.2) k = true := covE_iff.2 ⟨(covE_iff.1 c1).1, kl_trans (covE_iff.1 c1).2 (by rw [q.1]; exact he)⟩
          rw [if_pos c1, if_neg c2, if_pos c3]
          omega
        · by_cases c2 : covE e k = true
          · have c3 : covE (x.1, e.2.1, x.2.2) k = true := covE_iff.2 ⟨ke_trans (by rw [← q.1]; exact hx.ke) (covE_iff.1 c2).1, (covE_iff.1 c2).2⟩
            rw [if_neg c1, if_pos c2, if_pos c3, q.2]
            omega
          · have c3 : ¬ covE (x.1, e.2.1, x.2.2) k = true := fun c => by
              obtain ⟨d1, d2⟩ := covE_iff.1 c
              rcases ke_or x.2.1 k with d3 | d3
              · exact c2 (covE_iff.2 ⟨by rw [← q.1]; exact d3, d2⟩)
              · exact c1 (covE_iff.2 ⟨d1, d3⟩)
            rw [if_neg c1, if_neg c2, if_neg c3]
            omega
      · rcases List.mem_append.1 hz with hz | hz
        · exact ke_trans (hb z (by simp [hz])) he.ke
        · rw [List.mem_singleton] at hz; rw [hz]; exact ke_refl _
    · rename_i q
      refine ⟨⟨fun z hz => ?_, List.pairwise_append.2 ⟨h.sep, List.pairwise_singleton _ _, fun y hy z hz => ?_⟩⟩, fun k => ?_, fun z hz => ?_⟩
      · rcases List.mem_append.1 hz with hz | hz
        · exact h.ok z hz
        · rw [List.mem_singleton] at hz; rw [hz]; exact he
      · rw [List.mem_singleton] at hz
        subst hz
        refine ⟨hb y hy, fun e1 e2 => ?_⟩
        rcases List.mem_append.1 hy with hy | hy
        · have := kl_ke (ke_kl (hmx y hy).1 hx) hxe
          rw [e1] at this
          exact kl_irrefl _ this
        · rw [List.mem_singleton] at hy
          subst hy
          exact q ⟨e1, e2⟩
      · rw [top_append]
        simp only [topE, Nat.max_zero]
      · rcases List.mem_append.1 hz with hz | hz
        · exact ke_trans (hb z hz) he.ke
        · rw [List.mem_singleton] at hz; rw [hz]; exact ke_refl _
end Go.Proofs.Ytghcfmkmndldoaa
