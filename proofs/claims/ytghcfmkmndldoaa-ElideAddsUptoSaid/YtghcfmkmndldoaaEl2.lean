/-
  Two plain lists laid upon each other, stretch by stretch.
-/
import Derived.Test.YtghcfmkmndldoaaEl1
namespace Go.Proofs.Ytghcfmkmndldoaa

/-- what is left of a list for a key: without what ends ahead of it, or at it -/
def dropE (k : ByteArray) : List Ec → List Ec
  | [] => []
  | x :: l => if Op.bytesLess k.toList x.2.1.toList = true then x :: l else dropE k l
theorem drop_suffix (k : ByteArray) : ∀ l : List Ec, dropE k l <:+ l
  | [] => List.suffix_refl _
  | x :: l => by
    rw [dropE]
    split
    · exact List.suffix_refl _
    · exact (drop_suffix k l).trans (List.suffix_cons _ _)
theorem drop_plain {l : List Ec} (h : PlainE l) (k : ByteArray) : PlainE (dropE k l) := h.sub (drop_suffix k l).sublist
theorem drop_top {l : List Ec} {at' k : ByteArray} (hk : ke at' k) : topE (dropE at' l) k = topE l k := by
  induction l with
  | nil => rfl
  | cons x l ih =>
    rw [dropE]
    split
    · rfl
    · rename_i q
      rw [ih, top_out fun c => q (ke_kl hk (covE_iff.1 c).2)]
theorem drop_head {l r : List Ec} {k : ByteArray} {x : Ec} (h : dropE k l = x :: r) : kl k x.2.1 := by
  induction l with
  | nil => cases h
  | cons y l ih =>
    rw [dropE] at h
    split at h
    · rename_i q
      cases h
      exact q
    · exact ih h
/-- max and min of texts -/
def maxK (a b : ByteArray) : ByteArray := if Op.bytesLess a.toList b.toList = true then b else a
def minK (a b : ByteArray) : ByteArray := if Op.bytesLess b.toList a.toList = true then b else a
theorem maxK_cases (a b : ByteArray) : (kl a b ∧ maxK a b = b) ∨ (ke b a ∧ maxK a b = a) := by
  unfold maxK
  by_cases h : Op.bytesLess a.toList b.toList = true
  · rw [if_pos h]; exact .inl ⟨h, rfl⟩
  · rw [if_neg h]; exact .inr ⟨ke_iff.2 h, rfl⟩
theorem minK_cases (a b : ByteArray) : (kl b a ∧ minK a b = b) ∨ (ke a b ∧ minK a b = a) := by
  unfold minK
  by_cases h : Op.bytesLess b.toList a.toList = true
  · rw [if_pos h]; exact .inl ⟨h, rfl⟩
  · rw [if_neg h]; exact .inr ⟨ke_iff.2 h, rfl⟩
/-- the first stretch of what is left, less the keys below k; none: zeroE -/
def firstE (k : ByteArray) : List Ec → Ec
  | [] => zeroE
  | x :: _ => (maxK x.1 k, x.2.1, x.2.2)
def headE (k : ByteArray) (l : List Ec) : Ec := firstE k (dropE k l)
/-- all bounds of a list -/
def bndE (l : List Ec) : List ByteArray := l.flatMap fun e => [e.1, e.2.1]
theorem bnd_mem {l : List Ec} {e : Ec} (h : e ∈ l) : e.1 ∈ bndE l ∧ e.2.1 ∈ bndE l := ⟨List.mem_flatMap.2 ⟨e, h, by simp⟩, List.mem_flatMap.2 ⟨e, h, by simp⟩⟩
/-- what e is to a function of keys, from k on -/
def AtE (f : ByteArray → Nat) (bs : List ByteArray) (k : ByteArray) (e : Ec) : Prop :=
  (e = zeroE ∧ ∀ j, ke k j → f j = 0) ∨
  (kl e.1 e.2.1 ∧ ke k e.1 ∧ (∀ j, ke k j → kl j e.1 → f j = 0) ∧ (∀ j, ke e.1 j → kl j e.2.1 → f j = e.2.2 + 1) ∧ e.2.1 ∈ bs ∧ (e.1 = k ∨ e.1 ∈ bs))
theorem not_zero {e : Ec} (h : kl e.1 e.2.1) : e ≠ zeroE := fun q => by
  rw [q] at h
  exact kl_irrefl _ h
theorem head_at {l : List Ec} (h : PlainE l) (k : ByteArray) : AtE (topE l) (bndE l) k (headE k l) := by
  unfold headE
  cases hd : dropE k l with
  | nil =>
    refine .inl ⟨rfl, fun j hj => ?_⟩
    rw [← drop_top hj, hd]
    rfl
  | cons x r =>
    have hx := drop_head hd
    have hp : PlainE (x :: r) := hd ▸ drop_plain h k
    have hok := hp.ok x List.mem_cons_self
    have hm : x ∈ l := (drop_suffix k l).subset (by rw [hd]; exact List.mem_cons_self)
    rw [firstE]
    refine .inr ⟨?_, ?_, fun j h1 h2 => ?_, fun j h1 h2 => ?_, (bnd_mem hm).2, ?_⟩
    · rcases maxK_cases x.1 k with ⟨_, q⟩ | ⟨_, q⟩ <;> dsimp only <;> rw [q]
      · exact hx
      · exact hok
    · rcases maxK_cases x.1 k with ⟨_, q⟩ | ⟨q2, q⟩ <;> dsimp only <;> rw [q]
      · exact ke_refl _
      · exact q2
    · dsimp only at h2
      rw [← drop_top h1, hd]
      refine top_low hp ?_
      rcases maxK_cases x.1 k with ⟨_, q⟩ | ⟨q2, q⟩ <;> rw [q] at h2
      · exact absurd h2 (ke_iff.1 h1)
      · exact h2
    · dsimp only at h1 h2
      have h3 : ke k j ∧ ke x.1 j := by
        rcases maxK_cases x.1 k with ⟨q1, q⟩ | ⟨q2, q⟩ <;> rw [q] at h1
        · exact ⟨h1, ke_trans q1.ke h1⟩
        · exact ⟨ke_trans q2 h1, h1⟩
      rw [← drop_top h3.1, hd, top_in hp (covE_iff.2 ⟨h3.2, h2⟩)]
    · rcases maxK_cases x.1 k with ⟨_, q⟩ | ⟨_, q⟩ <;> dsimp only <;> rw [q]
      · exact .inl rfl
      · exact .inr (bnd_mem hm).1
/-- the first piece of two stretches laid upon each other -/
def frontE (a b : Ec) : Ec :=
  if a = zeroE then b else if b = zeroE then a else
  if Op.bytesLess b.1.toList a.1.toList = true then (b.1, minK b.2.1 a.1, b.2.2) else
  if Op.bytesLess a.1.toList b.1.toList = true then (a.1, minK a.2.1 b.1, a.2.2) else (a.1, minK a.2.1 b.2.1, max a.2.2 b.2.2)
theorem front_one {f g : ByteArray → Nat} {bs cs : List ByteArray} {k : ByteArray} {a b : Ec} (ha0 : kl a.1 a.2.1) (hb0 : kl b.1 b.2.1)
    (ha : AtE f bs k a) (hb : AtE g cs k b) (h : kl a.1 b.1) : AtE (fun j => max (f j) (g j)) (bs ++ cs) k (a.1, minK a.2.1 b.1, a.2.2) := by
  rcases ha with ⟨q, _⟩ | ⟨a1, a2, a3, a4, a5, a6⟩
  · exact absurd q (not_zero ha0)
  rcases hb with ⟨q, _⟩ | ⟨b1, b2, b3, b4, b5, b6⟩
  · exact absurd q (not_zero hb0)
  have hb6 : b.1 ∈ cs := by
    rcases b6 with q | q
    · rw [q] at h; exact absurd h (ke_iff.1 a2)
    · exact q
  have hmin : kl a.1 (minK a.2.1 b.1) ∧ ke (minK a.2.1 b.1) a.2.1 ∧ ke (minK a.2.1 b.1) b.1 ∧ minK a.2.1 b.1 ∈ bs ++ cs := by
    rcases minK_cases a.2.1 b.1 with ⟨q1, q⟩ | ⟨q1, q⟩ <;> rw [q]
    · exact ⟨h, q1.ke, ke_refl _, List.mem_append_right _ hb6⟩
    · exact ⟨a1, ke_refl _, q1, List.mem_append_left _ a5⟩
  refine .inr ⟨hmin.1, a2, fun j h1 h2 => ?_, fun j h1 h2 => ?_, hmin.2.2.2, ?_⟩
  · dsimp only at h2 ⊢
    rw [a3 j h1 h2, b3 j h1 (kl_trans h2 h)]
    rfl
  · dsimp only at h1 h2 ⊢
    rw [a4 j h1 (kl_ke h2 hmin.2.1), b3 j (ke_trans a2 h1) (kl_ke h2 hmin.2.2.1)]
    rfl
  · rcases a6 with q | q
    · exact .inl q
    · exact .inr (List.mem_append_left _ q)
theorem AtE.comm {f g : ByteArray → Nat} {bs cs : List ByteArray} {k : ByteArray} {e : Ec} (h : AtE (fun j => max (g j) (f j)) (cs ++ bs) k e) : AtE (fun j => max (f j) (g j)) (bs ++ cs) k e := by
  have e1 : (fun j => max (f j) (g j)) = fun j => max (g j) (f j) := funext fun j => Nat.max_comm _ _
  rw [e1]
  rcases h with h | ⟨h1, h2, h3, h4, h5, h6⟩
  · exact .inl h
  · refine .inr ⟨h1, h2, h3, h4, ?_, ?_⟩
    · simp only [List.mem_append] at h5 ⊢; exact h5.symm
    · simp only [List.mem_append] at h6 ⊢; exact h6.imp id Or.symm
theorem front_at {f g : ByteArray → Nat} {bs cs : List ByteArray} {k : ByteArray} {a b : Ec} (ha : AtE f bs k a) (hb : AtE g cs k b) : AtE (fun j => max (f j) (g j)) (bs ++ cs) k (frontE a b) := by
  have ha' := ha
  have hb' := hb
  unfold frontE
  rcases ha with ⟨a0, a1⟩ | ⟨a1, a2, a3, a4, a5, a6⟩
  · rw [if_pos a0]
    rcases hb with ⟨b0, b1⟩ | ⟨b1, b2, b3, b4, b5, b6⟩
    · exact .inl ⟨b0, fun j hj => by dsimp only; rw [a1 j hj, b1 j hj]; rfl⟩
    · refine .inr ⟨b1, b2, fun j h1 h2 => ?_, fun j h1 h2 => ?_, List.mem_append_right _ b5, b6.imp id (List.mem_append_right _)⟩
      · dsimp only; rw [a1 j h1, b3 j h1 h2]; rfl
      · dsimp only; rw [a1 j (ke_trans b2 h1), b4 j h1 h2]; simp
  · rw [if_neg (not_zero a1)]
    rcases hb with ⟨b0, b1⟩ | ⟨b1, b2, b3, b4, b5, b6⟩
    · rw [if_pos b0]
      refine .inr ⟨a1, a2, fun j h1 h2 => ?_, fun j h1 h2 => ?_, List.mem_append_left _ a5, a6.imp id (List.mem_append_left _)⟩
      · dsimp only; rw [b1 j h1, a3 j h1 h2]; rfl
      · dsimp only; rw [b1 j (ke_trans a2 h1), a4 j h1 h2]; simp
    · rw [if_neg (not_zero b1)]
      split
      · rename_i q
        exact (front_one b1 a1 hb' ha' q).comm
      · rename_i q1
        split
        · rename_i q
          exact front_one a1 b1 ha' hb' q
        · rename_i q2
          have e1 : a.1 = b.1 := ke_antisymm (ke_iff.2 q1) (ke_iff.2 q2)
          have hmin : kl a.1 (minK a.2.1 b.2.1) ∧ ke (minK a.2.1 b.2.1) a.2.1 ∧ ke (minK a.2.1 b.2.1) b.2.1 ∧ minK a.2.1 b.2.1 ∈ bs ++ cs := by
            rcases minK_cases a.2.1 b.2.1 with ⟨q1, q⟩ | ⟨q1, q⟩ <;> rw [q]
            · exact ⟨by rw [e1]; exact b1, q1.ke, ke_refl _, List.mem_append_right _ b5⟩
            · exact ⟨a1, ke_refl _, q1, List.mem_append_left _ a5⟩
          refine .inr ⟨hmin.1, a2, fun j h1 h2 => ?_, fun j h1 h2 => ?_, hmin.2.2.2, a6.imp id (List.mem_append_left _)⟩
          · dsimp only at h2 ⊢
            rw [a3 j h1 h2, b3 j h1 (by rw [← e1]; exact h2)]
            rfl
          · dsimp only at h1 h2 ⊢
            rw [a4 j h1 (kl_ke h2 hmin.2.1), b4 j (by rw [← e1]; exact h1) (kl_ke h2 hmin.2.2.1)]
            omega
/-- so many bounds lie above a key -/
def leftE (bs : List ByteArray) (k : ByteArray) : Nat := bs.countP fun x => Op.bytesLess k.toList x.toList
theorem left_less {bs : List ByteArray} {k j : ByteArray} (h : kl k j) (hj : j ∈ bs) : leftE bs j < leftE bs k := by
  unfold leftE
  induction bs with
  | nil => cases hj
  | cons x bs ih =>
    rw [List.countP_cons, List.countP_cons]
    have hmono : bs.countP (fun x => Op.bytesLess j.toList x.toList) ≤ bs.countP (fun x => Op.bytesLess k.toList x.toList) := List.countP_mono_left fun x _ q => kl_trans h q
    have h1 : Op.bytesLess j.toList x.toList = true → Op.bytesLess k.toList x.toList = true := fun q => kl_trans h q
    rcases List.mem_cons.1 hj with rfl | hj
    · rw [if_neg (show ¬ Op.bytesLess j.toList j.toList = true from kl_irrefl j), if_pos (show Op.bytesLess k.toList j.toList = true from h)]
      omega
    · have := ih hj
      by_cases q : Op.bytesLess j.toList x.toList = true
      · rw [if_pos q, if_pos (h1 q)]; omega
      · rw [if_neg q]; omega
/-- WHERE THE LOOP STANDS: out has what is below k of the function f -/
structure BothSt (f : ByteArray → Nat) (out : List Ec) (k : ByteArray) : Prop where
  plain : PlainE out
  low : ∀ x ∈ out, ke x.2.1 k
  is : ∀ j, kl j k → topE out j = f j
theorem BothSt.nil (f : ByteArray → Nat) : BothSt f [] ⟨#[]⟩ := ⟨PlainE.nil, (fun _ h => by cases h), fun j h => absurd h kl_not_nil⟩
theorem BothSt.step {f : ByteArray → Nat} {bs : List ByteArray} {out : List Ec} {k : ByteArray} {e : Ec} (h : BothSt f out k) (he : AtE f bs k e) (h0 : e ≠ zeroE) :
    BothSt f (joinE out e) e.2.1 ∧ kl k e.2.1 ∧ e.2.1 ∈ bs := by
  rcases he with ⟨q, _⟩ | ⟨e1, e2, e3, e4, e5, _⟩
  · exact absurd q h0
  obtain ⟨j1, j2, j3⟩ := join_plain h.plain e1 fun x hx => ke_trans (h.low x hx) e2
  refine ⟨⟨j1, j3, fun j hj => ?_⟩, ke_kl e2 e1, e5⟩
  rw [j2]
  have hhigh : ke k j → topE out j = 0 := fun q => top_zero fun x hx hc => ke_iff.1 (h.low x hx) (ke_kl q (covE_iff.1 hc).2)
  by_cases hc : covE e j = true
  · rw [if_pos hc, e4 j (covE_iff.1 hc).1 hj, hhigh (ke_trans e2 (covE_iff.1 hc).1)]
    simp
  · rw [if_neg hc, Nat.max_zero]
    rcases ke_or k j with q | q
    · have hlow : kl j e.1 := by
        rcases ke_or e.1 j with q2 | q2
        · exact absurd (covE_iff.2 ⟨q2, hj⟩) hc
        · exact q2
      rw [hhigh q, e3 j q hlow]
    · exact h.is j q
theorem BothSt.done {f : ByteArray → Nat} {bs : List ByteArray} {out : List Ec} {k : ByteArray} {e : Ec} (h : BothSt f out k) (he : AtE f bs k e) (h0 : e = zeroE) : ∀ j, topE out j = f j := fun j => by
  rcases he with ⟨_, q⟩ | ⟨e1, _⟩
  · rcases ke_or k j with q2 | q2
    · rw [q j q2]
      exact top_zero fun x hx hc => ke_iff.1 (h.low x hx) (ke_kl q2 (covE_iff.1 hc).2)
    · exact h.is j q2
  · exact absurd h0 (not_zero e1)
end Go.Proofs.Ytghcfmkmndldoaa
