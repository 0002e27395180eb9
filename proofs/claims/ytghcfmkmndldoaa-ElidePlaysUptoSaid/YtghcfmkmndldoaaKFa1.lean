/-
  Facts as plain data: their order, lists in order, lists merged.
-/
import Derived.Test.YtghcfmkmndldoaaKBase
import Derived.Lib.Strings
namespace Go.Proofs.Ytghcfmkmndldoaa

/-- a fact: its key, its number, its value -/
abbrev Fc := ByteArray × Nat × List UInt8

theorem less_irrefl : ∀ x : List UInt8, Op.bytesLess x x = false
  | [] => rfl
  | a :: x => by rw [Op.bytesLess, less_irrefl x]; simp
theorem less_trans : ∀ x y z : List UInt8, Op.bytesLess x y = true → Op.bytesLess y z = true → Op.bytesLess x z = true
  | _, [], _, h, _ => by cases ‹List UInt8› <;> simp [Op.bytesLess] at h
  | _, _ :: _, [], _, h => by simp [Op.bytesLess] at h
  | [], _ :: _, _ :: _, _, _ => rfl
  | a :: x, b :: y, c :: z, h, k => by
    simp only [Op.bytesLess, Bool.or_eq_true, decide_eq_true_eq, Bool.and_eq_true, beq_iff_eq] at h k ⊢
    rcases h with h | ⟨rfl, h⟩ <;> rcases k with k | ⟨rfl, k⟩
    · left; exact UInt8.lt_trans h k
    · left; exact h
    · left; exact k
    · right; exact ⟨rfl, less_trans x y z h k⟩
theorem less_total : ∀ x y : List UInt8, Op.bytesLess x y = true ∨ x = y ∨ Op.bytesLess y x = true
  | [], [] => .inr (.inl rfl)
  | [], _ :: _ => .inl rfl
  | _ :: _, [] => .inr (.inr rfl)
  | a :: x, b :: y => by
    simp only [Op.bytesLess, Bool.or_eq_true, decide_eq_true_eq, Bool.and_eq_true, beq_iff_eq, List.cons.injEq]
    rcases Nat.lt_trichotomy a.toNat b.toNat with h | h | h
    · left; left; exact UInt8.lt_iff_toNat_lt.2 h
    · have e : a = b := UInt8.toNat_inj.1 h
      subst e
      rcases less_total x y with h | h | h
      · left; right; exact ⟨rfl, h⟩
      · right; left; exact ⟨rfl, h⟩
      · right; right; right; exact ⟨rfl, h⟩
    · right; right; left; exact UInt8.lt_iff_toNat_lt.2 h
theorem less_asymm {x y : List UInt8} (h : Op.bytesLess x y = true) : Op.bytesLess y x = false := by
  cases k : Op.bytesLess y x with
  | false => rfl
  | true => have := less_trans _ _ _ h k; rw [less_irrefl] at this; cases this

theorem list_of_array (a : ByteArray) : a.toList = a.data.toList := Lib.toList_data a
theorem array_inj {a b : ByteArray} (h : a.toList = b.toList) : a = b := by
  rw [list_of_array, list_of_array] at h
  exact ByteArray.ext (Array.toList_inj.1 h)

/-- how two keys stand -/
def cmpK (a b : ByteArray) : Int := if Op.bytesLess a.toList b.toList = true then -1 else if Op.bytesLess b.toList a.toList = true then 1 else 0
/-- how two facts stand: by key, rising; then by number, falling -/
def cmpF (a b : Fc) : Int := if cmpK a.1 b.1 ≠ 0 then cmpK a.1 b.1 else if b.2.1 < a.2.1 then -1 else if a.2.1 < b.2.1 then 1 else 0
/-- a stands ahead of b -/
def Ahead (a b : Fc) : Prop := Op.bytesLess a.1.toList b.1.toList = true ∨ (a.1 = b.1 ∧ b.2.1 < a.2.1)
/-- what names a fact -/
def tagF (a : Fc) : ByteArray × Nat := (a.1, a.2.1)

theorem cmpK_zero {a b : ByteArray} : cmpK a b = 0 ↔ a = b := by
  unfold cmpK
  rcases less_total a.toList b.toList with h | h | h
  · rw [if_pos h]
    refine ⟨(fun q => by cases q), fun q => ?_⟩
    rw [q, less_irrefl] at h; cases h
  · rw [array_inj h, less_irrefl]; simp
  · rw [if_neg (by rw [less_asymm h]; simp), if_pos h]
    refine ⟨(fun q => by cases q), fun q => ?_⟩
    rw [q, less_irrefl] at h; cases h
theorem cmpF_lt {a b : Fc} : cmpF a b < 0 ↔ Ahead a b := by
  unfold cmpF Ahead
  by_cases hk : a.1 = b.1
  · rw [if_neg (by rw [cmpK_zero.2 hk]; simp), hk, less_irrefl]
    split
    · simp; assumption
    · split <;> simp <;> omega
  · rw [if_pos (fun q => hk (cmpK_zero.1 q))]
    unfold cmpK
    split
    · simp; left; assumption
    · split <;> simp_all
theorem cmpF_zero {a b : Fc} : cmpF a b = 0 ↔ tagF a = tagF b := by
  unfold cmpF tagF
  rw [Prod.mk.injEq]
  by_cases hk : a.1 = b.1
  · rw [if_neg (by rw [cmpK_zero.2 hk]; simp)]
    constructor
    · intro h
      refine ⟨hk, ?_⟩
      split at h
      · cases h
      · split at h
        · cases h
        · omega
    · rintro ⟨_, h⟩
      rw [if_neg (by omega), if_neg (by omega)]
  · rw [if_pos (fun q => hk (cmpK_zero.1 q))]
    exact ⟨fun q => absurd (cmpK_zero.1 q) hk, fun q => absurd q.1 hk⟩
theorem cmpK_neg (a b : ByteArray) : cmpK b a = - cmpK a b := by
  unfold cmpK
  rcases less_total a.toList b.toList with h | h | h
  · rw [less_asymm h, h]; simp
  · rw [array_inj h, less_irrefl]; simp
  · rw [less_asymm h, h]; simp
theorem cmpF_neg (a b : Fc) : cmpF b a = - cmpF a b := by
  unfold cmpF
  by_cases hk : cmpK a.1 b.1 = 0
  · rw [cmpK_neg a.1 b.1, hk]
    simp only [Int.neg_zero, ne_eq, not_true, if_false]
    rcases Nat.lt_trichotomy a.2.1 b.2.1 with h | h | h
    · rw [if_pos h, if_neg (by omega), if_pos h]
    · rw [h]; simp
    · rw [if_pos h, if_neg (by omega), if_pos h]; rfl
  · rw [cmpK_neg a.1 b.1, if_pos (by omega), if_pos hk]
theorem Ahead.trans {a b c : Fc} (h : Ahead a b) (k : Ahead b c) : Ahead a c := by
  rcases h with h | ⟨h1, h2⟩ <;> rcases k with k | ⟨k1, k2⟩
  · exact .inl (less_trans _ _ _ h k)
  · exact .inl (k1 ▸ h)
  · exact .inl (h1 ▸ k)
  · exact .inr ⟨h1.trans k1, by omega⟩
theorem Ahead.irrefl (a : Fc) : ¬ Ahead a a := by
  rintro (h | ⟨_, h⟩)
  · rw [less_irrefl] at h; cases h
  · omega
theorem Ahead.tag {a b : Fc} (h : Ahead a b) : tagF a ≠ tagF b := fun q => by
  have := cmpF_lt.2 h
  rw [cmpF_zero.2 q] at this
  cases this
theorem ahead_total (a b : Fc) : Ahead a b ∨ tagF a = tagF b ∨ Ahead b a := by
  rcases Int.lt_trichotomy (cmpF a b) 0 with h | h | h
  · exact .inl (cmpF_lt.1 h)
  · exact .inr (.inl (cmpF_zero.1 h))
  · exact .inr (.inr (cmpF_lt.1 (by rw [cmpF_neg]; omega)))

/-- facts in order -/
def rightF : List Fc → Bool
  | a :: b :: l => decide (cmpF a b < 0) && rightF (b :: l)
  | _ => true
theorem rightF_pair : ∀ {l : List Fc}, rightF l = true ↔ l.Pairwise Ahead
  | [] => by simp [rightF]
  | [a] => by simp [rightF]
  | a :: b :: l => by
    rw [rightF, Bool.and_eq_true, rightF_pair, decide_eq_true_eq, cmpF_lt, List.pairwise_cons (a := a)]
    constructor
    · rintro ⟨h, k⟩
      refine ⟨fun x hx => ?_, k⟩
      rcases List.mem_cons.1 hx with rfl | hx
      · exact h
      · exact h.trans ((List.pairwise_cons.1 k).1 x hx)
    · rintro ⟨h, k⟩
      exact ⟨h b List.mem_cons_self, k⟩
/-- the first n are in order -/
theorem rightF_take {l : List Fc} {n : Nat} (h : rightF (l.take (n + 1)) = true) {a b : Fc} (ha : l[n]? = some a) (hb : l[n + 1]? = some b) : rightF (l.take (n + 2)) = decide (cmpF a b < 0) := by
  have e : l.take (n + 2) = l.take (n + 1) ++ [b] := by rw [List.take_add_one, hb]; rfl
  have e1 : l.take (n + 1) = l.take n ++ [a] := by rw [List.take_add_one, ha]; rfl
  cases hd : decide (cmpF a b < 0) with
  | true =>
    rw [rightF_pair] at h ⊢
    rw [e, List.pairwise_append]
    refine ⟨h, by simp, fun x hx y hy => ?_⟩
    obtain rfl : y = b := by simpa using hy
    have hab : Ahead a y := cmpF_lt.1 (of_decide_eq_true hd)
    rw [e1] at hx h
    rcases List.mem_append.1 hx with hx | hx
    · exact ((List.pairwise_append.1 h).2.2 x hx a (by simp)).trans hab
    · obtain rfl : x = a := by simpa using hx
      exact hab
  | false =>
    cases hr : rightF (l.take (n + 2)) with
    | false => rfl
    | true =>
      rw [rightF_pair, e, e1, List.append_assoc, List.pairwise_append] at hr
      have := (List.pairwise_cons.1 hr.2.1).1 b (by simp)
      exact absurd (cmpF_lt.2 this) (of_decide_eq_false hd)
theorem rightF_prefix {l : List Fc} (n : Nat) (h : rightF (l.take n) = false) : rightF l = false := by
  cases hr : rightF l with
  | false => rfl
  | true =>
    rw [rightF_pair] at hr
    have := rightF_pair.2 (hr.sublist (List.take_sublist n l))
    rw [this] at h; cases h

/-- two lists as one; of what both have, the first one's -/
def twoF : List Fc → List Fc → List Fc
  | [], b => b
  | x :: a, [] => x :: a
  | x :: a, y :: b => if cmpF x y = 0 then x :: twoF a b else if cmpF x y < 0 then x :: twoF a (y :: b) else y :: twoF (x :: a) b
termination_by a b => a.length + b.length
theorem twoF_nil (a : List Fc) : twoF a [] = a := by cases a <;> simp [twoF]
theorem nil_twoF (a : List Fc) : twoF [] a = a := by simp [twoF]

/-- the fact of that name in a list -/
def findF (l : List Fc) (t : ByteArray × Nat) : Option Fc := l.find? (fun x => decide (tagF x = t))
theorem findF_nil (t : ByteArray × Nat) : findF [] t = none := rfl
theorem findF_cons (x : Fc) (l : List Fc) (t : ByteArray × Nat) : findF (x :: l) t = if tagF x = t then some x else findF l t := by
  unfold findF
  rw [List.find?_cons]
  by_cases h : tagF x = t
  · simp [h]
  · simp [h]
theorem findF_none {l : List Fc} {t : ByteArray × Nat} (h : ∀ x ∈ l, tagF x ≠ t) : findF l t = none := by
  unfold findF
  rw [List.find?_eq_none]
  intro x hx
  simpa using h x hx
theorem findF_mem {l : List Fc} {t : ByteArray × Nat} {x : Fc} (h : findF l t = some x) : x ∈ l ∧ tagF x = t := by
  unfold findF at h
  exact ⟨List.mem_of_find?_eq_some h, by simpa using List.find?_some h⟩
/-- behind x stands nothing of x's name -/
theorem findF_behind {x : Fc} {l : List Fc} (h : ∀ y ∈ l, Ahead x y) : findF l (tagF x) = none := findF_none fun y hy => (h y hy).tag.symm
/-- lists in order that find the same are the same -/
theorem find_ext : ∀ {a b : List Fc}, a.Pairwise Ahead → b.Pairwise Ahead → (∀ t, findF a t = findF b t) → a = b
  | [], [], _, _, _ => rfl
  | [], y :: b, _, _, h => by have := h (tagF y); rw [findF_nil, findF_cons, if_pos rfl] at this; cases this
  | x :: a, [], _, _, h => by have := h (tagF x); rw [findF_nil, findF_cons, if_pos rfl] at this; cases this
  | x :: a, y :: b, ha, hb, h => by
    obtain ⟨ha1, ha2⟩ := List.pairwise_cons.1 ha
    obtain ⟨hb1, hb2⟩ := List.pairwise_cons.1 hb
    have hxy : x = y := by
      rcases ahead_total x y with q | q | q
      · have e := h (tagF x)
        rw [findF_cons, if_pos rfl, findF_cons, if_neg (Ne.symm q.tag), findF_none (fun z hz => ((q.trans (hb1 z hz)).tag).symm)] at e
        cases e
      · have e := h (tagF x)
        rw [findF_cons, if_pos rfl, findF_cons, if_pos q.symm] at e
        exact Option.some.inj e
      · have e := h (tagF y)
        rw [findF_cons, if_neg (Ne.symm q.tag), findF_cons, if_pos rfl, findF_none (fun z hz => ((q.trans (ha1 z hz)).tag).symm)] at e
        cases e
    subst hxy
    rw [find_ext ha2 hb2 fun t => ?_]
    have e := h t
    rw [findF_cons, findF_cons] at e
    by_cases ht : tagF x = t
    · rw [← ht, findF_behind ha1, findF_behind hb1]
    · rw [if_neg ht, if_neg ht] at e
      exact e
theorem twoF_mem : ∀ (a b : List Fc) (z : Fc), z ∈ twoF a b → z ∈ a ∨ z ∈ b
  | [], b, z, h => by rw [nil_twoF] at h; exact .inr h
  | x :: a, [], z, h => by rw [twoF_nil] at h; exact .inl h
  | x :: a, y :: b, z, h => by
    rw [twoF] at h
    split at h
    · rcases List.mem_cons.1 h with rfl | h
      · exact .inl List.mem_cons_self
      · rcases twoF_mem a b z h with h | h
        · exact .inl (List.mem_cons_of_mem _ h)
        · exact .inr (List.mem_cons_of_mem _ h)
    · split at h
      · rcases List.mem_cons.1 h with rfl | h
        · exact .inl List.mem_cons_self
        · rcases twoF_mem a (y :: b) z h with h | h
          · exact .inl (List.mem_cons_of_mem _ h)
          · exact .inr h
      · rcases List.mem_cons.1 h with rfl | h
        · exact .inr List.mem_cons_self
        · rcases twoF_mem (x :: a) b z h with h | h
          · exact .inl h
          · exact .inr (List.mem_cons_of_mem _ h)
termination_by a b => a.length + b.length
theorem ahead_of_tag {a b c : Fc} (h : tagF a = tagF b) (k : Ahead b c) : Ahead a c := by
  unfold tagF at h
  rw [Prod.mk.injEq] at h
  unfold Ahead at k ⊢
  rw [h.1, h.2]
  exact k
theorem twoF_right : ∀ {a b : List Fc}, a.Pairwise Ahead → b.Pairwise Ahead → (twoF a b).Pairwise Ahead
  | [], b, _, hb => by rw [nil_twoF]; exact hb
  | x :: a, [], ha, _ => by rw [twoF_nil]; exact ha
  | x :: a, y :: b, ha, hb => by
    obtain ⟨ha1, ha2⟩ := List.pairwise_cons.1 ha
    obtain ⟨hb1, hb2⟩ := List.pairwise_cons.1 hb
    rw [twoF]
    split
    · rename_i h
      refine List.pairwise_cons.2 ⟨fun z hz => ?_, twoF_right ha2 hb2⟩
      rcases twoF_mem _ _ _ hz with q | q
      · exact ha1 z q
      · exact ahead_of_tag (cmpF_zero.1 h) (hb1 z q)
    · split
      · rename_i h
        have hxy := cmpF_lt.1 h
        refine List.pairwise_cons.2 ⟨fun z hz => ?_, twoF_right ha2 hb⟩
        rcases twoF_mem _ _ _ hz with q | q
        · exact ha1 z q
        · rcases List.mem_cons.1 q with rfl | q
          · exact hxy
          · exact hxy.trans (hb1 z q)
      · rename_i h0 h1
        have hyx : Ahead y x := cmpF_lt.1 (by rw [cmpF_neg]; omega)
        refine List.pairwise_cons.2 ⟨fun z hz => ?_, twoF_right ha hb2⟩
        rcases twoF_mem _ _ _ hz with q | q
        · rcases List.mem_cons.1 q with rfl | q
          · exact hyx
          · exact hyx.trans (ha1 z q)
        · exact hb1 z q
termination_by a b => a.length + b.length
theorem findF_two : ∀ {a b : List Fc}, a.Pairwise Ahead → b.Pairwise Ahead → ∀ t, findF (twoF a b) t = (findF a t).or (findF b t)
  | [], b, _, _, t => by rw [nil_twoF, findF_nil, Option.none_or]
  | x :: a, [], _, _, t => by rw [twoF_nil, findF_nil, Option.or_none]
  | x :: a, y :: b, ha, hb, t => by
    obtain ⟨ha1, ha2⟩ := List.pairwise_cons.1 ha
    obtain ⟨hb1, hb2⟩ := List.pairwise_cons.1 hb
    rw [twoF]
    split
    · rename_i h
      rw [findF_cons, findF_two ha2 hb2 t, findF_cons, findF_cons, ← cmpF_zero.1 h]
      by_cases ht : tagF x = t <;> simp [ht]
    · split
      · rename_i h
        rw [findF_cons, findF_two ha2 hb t, findF_cons x]
        by_cases ht : tagF x = t <;> simp [ht]
      · rename_i h0 h1
        have hyx : Ahead y x := cmpF_lt.1 (by rw [cmpF_neg]; omega)
        rw [findF_cons, findF_two ha hb2 t, findF_cons y]
        by_cases ht : tagF y = t
        · rw [if_pos ht, if_pos ht]
          have : findF (x :: a) t = none := by
            rw [← ht]
            refine findF_none fun z hz => ?_
            rcases List.mem_cons.1 hz with rfl | hz
            · exact hyx.tag.symm
            · exact (hyx.trans (ha1 z hz)).tag.symm
          rw [this, Option.none_or]
        · rw [if_neg ht, if_neg ht]
termination_by a b => a.length + b.length
theorem twoF_assoc {a b c : List Fc} (ha : a.Pairwise Ahead) (hb : b.Pairwise Ahead) (hc : c.Pairwise Ahead) : twoF (twoF a b) c = twoF a (twoF b c) :=
  find_ext (twoF_right (twoF_right ha hb) hc) (twoF_right ha (twoF_right hb hc)) fun t => by
    rw [findF_two (twoF_right ha hb) hc, findF_two ha hb, findF_two ha (twoF_right hb hc), findF_two hb hc, Option.or_assoc]
theorem twoF_length : ∀ a b : List Fc, (twoF a b).length ≤ a.length + b.length
  | [], b => by rw [nil_twoF]; simp
  | x :: a, [] => by rw [twoF_nil]; simp
  | x :: a, y :: b => by
    rw [twoF]
    split
    · have := twoF_length a b; simp; omega
    · split
      · have := twoF_length a (y :: b); simp at this ⊢; omega
      · have := twoF_length (x :: a) b; simp at this ⊢; omega
termination_by a b => a.length + b.length

/-- all lists as one -/
def mergeF (ls : List (List Fc)) : List Fc := ls.foldl twoF []
theorem foldF_right : ∀ (ls : List (List Fc)) (a : List Fc), a.Pairwise Ahead → (∀ l ∈ ls, l.Pairwise Ahead) → (ls.foldl twoF a).Pairwise Ahead
  | [], a, ha, _ => ha
  | l :: ls, a, ha, h => foldF_right ls _ (twoF_right ha (h l List.mem_cons_self)) fun x hx => h x (List.mem_cons_of_mem _ hx)
theorem mergeF_right (ls : List (List Fc)) (h : ∀ l ∈ ls, l.Pairwise Ahead) : (mergeF ls).Pairwise Ahead := foldF_right ls [] List.Pairwise.nil h
theorem foldF_two : ∀ (ls : List (List Fc)) (a : List Fc), a.Pairwise Ahead → (∀ l ∈ ls, l.Pairwise Ahead) → ls.foldl twoF a = twoF a (mergeF ls)
  | [], a, _, _ => by unfold mergeF; rw [List.foldl_nil, List.foldl_nil, twoF_nil]
  | l :: ls, a, ha, h => by
    have hl := h l List.mem_cons_self
    have hls := fun x hx => h x (List.mem_cons_of_mem l hx)
    unfold mergeF
    rw [List.foldl_cons, List.foldl_cons, nil_twoF, foldF_two ls _ (twoF_right ha hl) hls, foldF_two ls l hl hls]
    exact twoF_assoc ha hl (mergeF_right ls hls)
theorem mergeF_append (p q : List (List Fc)) (hp : ∀ l ∈ p, l.Pairwise Ahead) (hq : ∀ l ∈ q, l.Pairwise Ahead) : mergeF (p ++ q) = twoF (mergeF p) (mergeF q) := by
  unfold mergeF
  rw [List.foldl_append]
  exact foldF_two q _ (mergeF_right p hp) hq
theorem mergeF_one (l : List Fc) : mergeF [l] = l := nil_twoF l
end Go.Proofs.Ytghcfmkmndldoaa

/-
  Elisions as plain data: what they elide, plain lists, and that what is elided fixes a plain list.
-/
namespace Go.Proofs.Ytghcfmkmndldoaa

/-- an elision: from the first on, below the second, its number -/
abbrev Ec := ByteArray × ByteArray × Nat
def zeroE : Ec := (⟨#[]⟩, ⟨#[]⟩, 0)

/-- below; up to -/
def kl (a b : ByteArray) : Prop := Op.bytesLess a.toList b.toList = true
def ke (a b : ByteArray) : Prop := Op.bytesLess b.toList a.toList = false
theorem ke_iff {a b : ByteArray} : ke a b ↔ ¬ kl b a := by
  unfold ke kl
  cases Op.bytesLess b.toList a.toList <;> simp
theorem kl_irrefl (a : ByteArray) : ¬ kl a a := by unfold kl; rw [less_irrefl]; simp
theorem kl_trans {a b c : ByteArray} (h : kl a b) (k : kl b c) : kl a c := less_trans _ _ _ h k
theorem kl_tri (a b : ByteArray) : kl a b ∨ a = b ∨ kl b a := by
  rcases less_total a.toList b.toList with h | h | h
  · exact .inl h
  · exact .inr (.inl (array_inj h))
  · exact .inr (.inr h)
theorem kl_asymm {a b : ByteArray} (h : kl a b) : ¬ kl b a := fun k => kl_irrefl a (kl_trans h k)
theorem ke_refl (a : ByteArray) : ke a a := ke_iff.2 (kl_irrefl a)
theorem kl.ke {a b : ByteArray} (h : kl a b) : ke a b := ke_iff.2 (kl_asymm h)
theorem kl_ke {a b c : ByteArray} (h : kl a b) (k : ke b c) : kl a c := by
  rw [ke_iff] at k
  rcases kl_tri a c with q | rfl | q
  · exact q
  · exact absurd h k
  · exact absurd (kl_trans q h) k
theorem ke_kl {a b c : ByteArray} (h : ke a b) (k : kl b c) : kl a c := by
  rw [ke_iff] at h
  rcases kl_tri a c with q | rfl | q
  · exact q
  · exact absurd k h
  · exact absurd (kl_trans k q) h
theorem ke_trans {a b c : ByteArray} (h : ke a b) (k : ke b c) : ke a c := ke_iff.2 fun q => by
  have := kl_ke q h
  exact ke_iff.1 k this
theorem ke_antisymm {a b : ByteArray} (h : ke a b) (k : ke b a) : a = b := by
  rw [ke_iff] at h k
  rcases kl_tri a b with q | q | q
  · exact absurd q k
  · exact q
  · exact absurd q h
theorem ke_or (a b : ByteArray) : ke a b ∨ kl b a := by
  rw [ke_iff]
  by_cases h : kl b a
  · exact .inr h
  · exact .inl h
theorem ke_eq {a b : ByteArray} (h : ke a b) : kl a b ∨ a = b := by
  rcases kl_tri a b with q | q | q
  · exact .inl q
  · exact .inr q
  · exact absurd q (ke_iff.1 h)
theorem nil_ke (a : ByteArray) : ke ⟨#[]⟩ a := by
  unfold ke
  rw [list_of_array ⟨#[]⟩]
  cases a.toList <;> rfl
theorem kl_ne {a b : ByteArray} (h : kl a b) : a ≠ b := fun q => kl_irrefl a (by rw [q] at h ⊢; exact h)
theorem kl_not_nil {a : ByteArray} : ¬ kl a ⟨#[]⟩ := ke_iff.1 (nil_ke a)

/-- does an elision have a key? -/
def covE (e : Ec) (k : ByteArray) : Bool := !Op.bytesLess k.toList e.1.toList && Op.bytesLess k.toList e.2.1.toList
theorem covE_iff {e : Ec} {k : ByteArray} : covE e k = true ↔ ke e.1 k ∧ kl k e.2.1 := by
  unfold covE ke kl
  rw [Bool.and_eq_true, Bool.not_eq_true']
/-- one more than the greatest number that elides facts of a key; 0: none does -/
def topE : List Ec → ByteArray → Nat
  | [], _ => 0
  | e :: l, k => max (if covE e k = true then e.2.2 + 1 else 0) (topE l k)
theorem top_append (l m : List Ec) (k : ByteArray) : topE (l ++ m) k = max (topE l k) (topE m k) := by
  induction l with
  | nil => simp [topE]
  | cons a l ih => rw [List.cons_append, topE, topE, ih, Nat.max_assoc]
theorem top_perm {l m : List Ec} (h : l.Perm m) (k : ByteArray) : topE l k = topE m k := by
  induction h with
  | nil => rfl
  | cons x _ ih => rw [topE, topE, ih]
  | swap x y l => rw [topE, topE, topE, topE, ← Nat.max_assoc, ← Nat.max_assoc, Nat.max_comm (if covE y k = true then _ else _)]
  | trans _ _ h1 h2 => rw [h1, h2]
theorem has_iff {l : List Ec} {k : ByteArray} {s : Nat} : s < topE l k ↔ ∃ e ∈ l, covE e k = true ∧ s ≤ e.2.2 := by
  induction l with
  | nil => simp [topE]
  | cons a l ih =>
    rw [topE]
    by_cases h : covE a k = true
    · rw [if_pos h]
      constructor
      · intro q
        by_cases q2 : s < topE l k
        · obtain ⟨e, he, h2⟩ := ih.1 q2
          exact ⟨e, List.mem_cons_of_mem _ he, h2⟩
        · exact ⟨a, List.mem_cons_self, h, by omega⟩
      · rintro ⟨e, he, h1, h2⟩
        rcases List.mem_cons.1 he with rfl | he
        · omega
        · have := ih.2 ⟨e, he, h1, h2⟩
          omega
    · rw [if_neg h, Nat.zero_max, ih]
      constructor
      · rintro ⟨e, he, h2⟩
        exact ⟨e, List.mem_cons_of_mem _ he, h2⟩
      · rintro ⟨e, he, h1, h2⟩
        rcases List.mem_cons.1 he with rfl | he
        · exact absurd h1 h
        · exact ⟨e, he, h1, h2⟩
theorem top_zero {l : List Ec} {k : ByteArray} (h : ∀ e ∈ l, covE e k = true → False) : topE l k = 0 := by
  have : ¬ 0 < topE l k := fun q => by
    obtain ⟨e, he, h1, _⟩ := has_iff.1 q
    exact h e he h1
  omega
/-- two of a plain list -/
def SepE (x z : Ec) : Prop := ke x.2.1 z.1 ∧ (x.2.1 = z.1 → x.2.2 ≠ z.2.2)
/-- A PLAIN LIST: stretches side by side, two that touch with unlike numbers -/
structure PlainE (l : List Ec) : Prop where
  ok : ∀ e ∈ l, kl e.1 e.2.1
  sep : l.Pairwise SepE
theorem PlainE.nil : PlainE [] := ⟨(fun _ h => by cases h), List.Pairwise.nil⟩
theorem PlainE.tail {x : Ec} {l : List Ec} (h : PlainE (x :: l)) : PlainE l := ⟨fun e he => h.ok e (List.mem_cons_of_mem _ he), List.Pairwise.of_cons h.sep⟩
theorem PlainE.one {x : Ec} (h : kl x.1 x.2.1) : PlainE [x] := ⟨fun e he => by rw [List.mem_singleton] at he; rw [he]; exact h, List.pairwise_singleton _ _⟩
theorem PlainE.head {x : Ec} {l : List Ec} (h : PlainE (x :: l)) : ∀ z ∈ l, SepE x z := (List.pairwise_cons.1 h.sep).1
theorem PlainE.sub {l m : List Ec} (h : PlainE l) (hs : m.Sublist l) : PlainE m := ⟨fun e he => h.ok e (hs.subset he), h.sep.sublist hs⟩
/-- what stands behind the first begins where the first ends, or behind it -/
theorem tail_zero {x : Ec} {l : List Ec} (h : PlainE (x :: l)) {k : ByteArray} (hk : kl k x.2.1) : topE l k = 0 := top_zero fun e he hc => by
  have h1 := (covE_iff.1 hc).1
  have h2 := (h.head e he).1
  exact kl_irrefl k (kl_ke (kl_ke hk h2) h1)
theorem top_in {x : Ec} {l : List Ec} (h : PlainE (x :: l)) {k : ByteArray} (hc : covE x k = true) : topE (x :: l) k = x.2.2 + 1 := by
  rw [topE, if_pos hc, tail_zero h (covE_iff.1 hc).2]
  omega
theorem top_out {x : Ec} {l : List Ec} {k : ByteArray} (hc : ¬ covE x k = true) : topE (x :: l) k = topE l k := by
  rw [topE, if_neg hc, Nat.zero_max]
theorem top_low {x : Ec} {l : List Ec} (h : PlainE (x :: l)) {k : ByteArray} (hk : kl k x.1) : topE (x :: l) k = 0 := by
  rw [top_out fun q => (ke_iff.1 (covE_iff.1 q).1) hk]
  exact tail_zero h (kl_trans hk (h.ok x List.mem_cons_self))
/-- what is elided fixes a plain list -/
theorem plain_ext : ∀ {a b : List Ec}, PlainE a → PlainE b → (∀ k, topE a k = topE b k) → a = b
  | [], [], _, _, _ => rfl
  | [], y :: b, _, hb, h => by
    have h1 := hb.ok y List.mem_cons_self
    have := h y.1
    rw [top_in hb (covE_iff.2 ⟨ke_refl _, h1⟩), topE] at this
    omega
  | x :: a, [], ha, _, h => by
    have h1 := ha.ok x List.mem_cons_self
    have := h x.1
    rw [top_in ha (covE_iff.2 ⟨ke_refl _, h1⟩), topE] at this
    omega
  | x :: a, y :: b, ha, hb, h => by
    have hx := ha.ok x List.mem_cons_self
    have hy := hb.ok y List.mem_cons_self
    have cx := top_in ha (covE_iff.2 ⟨ke_refl _, hx⟩)
    have cy := top_in hb (covE_iff.2 ⟨ke_refl _, hy⟩)
    have e1 : x.1 = y.1 := by
      rcases kl_tri x.1 y.1 with q | q | q
      · rw [h, top_low hb q] at cx; omega
      · exact q
      · rw [← h, top_low ha q] at cy; omega
    have e3 : x.2.2 = y.2.2 := by
      rw [h, e1, cy] at cx
      omega
    have key : ∀ {x y : Ec} {a b : List Ec}, PlainE (x :: a) → PlainE (y :: b) → (∀ k, topE (x :: a) k = topE (y :: b) k) → kl x.1 x.2.1 → x.1 = y.1 → x.2.2 = y.2.2 → ¬ kl x.2.1 y.2.1 := by
      intro x y a b ha hb h hx e1 e3 q
      have c1 : covE y x.2.1 = true := covE_iff.2 ⟨by rw [← e1]; exact hx.ke, q⟩
      have c2 := h x.2.1
      rw [top_in hb c1, top_out fun q => kl_irrefl _ (covE_iff.1 q).2] at c2
      obtain ⟨z, hz, c3, c4⟩ := has_iff.1 (show y.2.2 < topE a x.2.1 by omega)
      have c5 : ¬ y.2.2 + 1 < topE a x.2.1 := by omega
      have c6 : z.2.2 = y.2.2 := by
        have : ¬ y.2.2 + 1 ≤ z.2.2 := fun q => c5 (has_iff.2 ⟨z, hz, c3, q⟩)
        omega
      have hs := ha.head z hz
      exact hs.2 (ke_antisymm hs.1 (covE_iff.1 c3).1) (by rw [c6, e3])
    have e2 : x.2.1 = y.2.1 := by
      rcases kl_tri x.2.1 y.2.1 with q | q | q
      · exact absurd q (key ha hb h hx e1 e3)
      · exact q
      · exact absurd q (key hb ha (fun k => (h k).symm) hy e1.symm e3.symm)
    obtain ⟨x1, x2, x3⟩ := x
    obtain ⟨y1, y2, y3⟩ := y
    dsimp only at e1 e2 e3
    subst e1 e2 e3
    rw [plain_ext ha.tail hb.tail fun k => ?_]
    by_cases hc : covE (x1, x2, x3) k = true
    · rw [tail_zero ha (covE_iff.1 hc).2, tail_zero hb (covE_iff.1 hc).2]
    · have := h k
      rwa [top_out hc, top_out hc] at this
/-- a plain list with one more stretch behind it -/
def joinE (l : List Ec) (e : Ec) : List Ec := match l.getLast? with
  | some x => if x.2.1 = e.1 ∧ x.2.2 = e.2.2 then l.dropLast ++ [(x.1, e.2.1, x.2.2)] else l ++ [e]
  | none => [e]
theorem join_nil (e : Ec) : joinE [] e = [e] := rfl
theorem join_snoc (l : List Ec) (x e : Ec) : joinE (l ++ [x]) e = if x.2.1 = e.1 ∧ x.2.2 = e.2.2 then l ++ [(x.1, e.2.1, x.2.2)] else l ++ [x] ++ [e] := by
  unfold joinE
  rw [List.getLast?_concat, List.dropLast_concat]
theorem snoc_of {l : List Ec} (h : l ≠ []) : ∃ m x, l = m ++ [x] := ⟨l.dropLast, l.getLast h, (List.dropLast_concat_getLast h).symm⟩
/-- what joining does -/
theorem join_plain {l : List Ec} {e : Ec} (h : PlainE l) (he : kl e.1 e.2.1) (hb : ∀ x ∈ l, ke x.2.1 e.1) :
    PlainE (joinE l e) ∧ (∀ k, topE (joinE l e) k = max (topE l k) (if covE e k = true then e.2.2 + 1 else 0)) ∧ ∀ x ∈ joinE l e, ke x.2.1 e.2.1 := by
  by_cases h0 : l = []
  · subst h0
    rw [join_nil]
    refine ⟨PlainE.one he, fun k => by simp [topE], fun x hx => ?_⟩
    rw [List.mem_singleton] at hx
    rw [hx]
    exact ke_refl _
  · obtain ⟨m, x, rfl⟩ := snoc_of h0
    rw [join_snoc]
    have hx := h.ok x (by simp)
    have hm : PlainE m := h.sub (List.sublist_append_left _ _)
    have hmx : ∀ y ∈ m, SepE y x := fun y hy => (List.pairwise_append.1 h.sep).2.2 y hy x (by simp)
    have hxe := hb x (by simp)
    split
    · rename_i q
      have hxe2 : kl x.1 e.2.1 := kl_trans (by rw [q.1] at hx; exact hx) he
      refine ⟨⟨fun z hz => ?_, List.pairwise_append.2 ⟨hm.sep, List.pairwise_singleton _ _, fun y hy z hz => ?_⟩⟩, fun k => ?_, fun z hz => ?_⟩
      · rcases List.mem_append.1 hz with hz | hz
        · exact hm.ok z hz
        · rw [List.mem_singleton] at hz; rw [hz]; exact hxe2
      · rw [List.mem_singleton] at hz; rw [hz]; exact hmx y hy
      · rw [top_append, top_append, Nat.max_assoc]
        congr 1
        simp only [topE, Nat.max_zero]
        by_cases c1 : covE x k = true
        · have c2 : ¬ covE e k = true := fun c => kl_irrefl k (kl_ke (covE_iff.1 c1).2 (by rw [q.1]; exact (covE_iff.1 c).1))
          have c3 : covE (x.1, e.2.1, x.2.2) k = true := covE_iff.2 ⟨(covE_iff.1 c1).1, kl_trans (covE_iff.1 c1).2 (by rw [q.1]; exact he)⟩
          rw [if_pos c1, if_neg c2, if_pos c3]
          omega
        · by_cases c2 : covE e k = true
          · have c3 : covE (x.1, e.2.1, x.2.2) k = true := covE_iff.2 ⟨ke_trans (by rw [← q.1]; exact hx.ke) (covE_iff.1 c2).1, (covE_iff.1 c2).2⟩
            rw [if_neg c1, if_pos c2, if_pos c3, q.2]
            omega
          · have c3 : ¬ covE (x.1, e.2.1, x.2.2) k = true := fun c => by
              obtain ⟨d1, d2⟩ := covE_iff.1 c
              rcases ke_or x.2.1 k with d3 | d3
              · exact c2 (covE_iff.2 ⟨by rw [← q.1]; exact d3, d2⟩)
              · exact c1 (covE_iff.2 ⟨d1, d3⟩)
            rw [if_neg c1, if_neg c2, if_neg c3]
            omega
      · rcases List.mem_append.1 hz with hz | hz
        · exact ke_trans (hb z (by simp [hz])) he.ke
        · rw [List.mem_singleton] at hz; rw [hz]; exact ke_refl _
    · rename_i q
      refine ⟨⟨fun z hz => ?_, List.pairwise_append.2 ⟨h.sep, List.pairwise_singleton _ _, fun y hy z hz => ?_⟩⟩, fun k => ?_, fun z hz => ?_⟩
      · rcases List.mem_append.1 hz with hz | hz
        · exact h.ok z hz
        · rw [List.mem_singleton] at hz; rw [hz]; exact he
      · rw [List.mem_singleton] at hz
        subst hz
        refine ⟨hb y hy, fun e1 e2 => ?_⟩
        rcases List.mem_append.1 hy with hy | hy
        · have := kl_ke (ke_kl (hmx y hy).1 hx) hxe
          rw [e1] at this
          exact kl_irrefl _ this
        · rw [List.mem_singleton] at hy
          subst hy
          exact q ⟨e1, e2⟩
      · rw [top_append]
        simp only [topE, Nat.max_zero]
      · rcases List.mem_append.1 hz with hz | hz
        · exact ke_trans (hb z hz) he.ke
        · rw [List.mem_singleton] at hz; rw [hz]; exact ke_refl _
end Go.Proofs.Ytghcfmkmndldoaa

/-
  Two plain lists laid upon each other, stretch by stretch.
-/
namespace Go.Proofs.Ytghcfmkmndldoaa

/-- what is left of a list for a key: without what ends ahead of it, or at it -/
def dropE (k : ByteArray) : List Ec → List Ec
  | [] => []
  | x :: l => if Op.bytesLess k.toList x.2.1.toList = true then x :: l else dropE k l
theorem drop_suffix (k : ByteArray) : ∀ l : List Ec, dropE k l <:+ l
  | [] => List.suffix_refl _
  | x :: l => by
    rw [dropE]
    split
    · exact List.suffix_refl _
    · exact (drop_suffix k l).trans (List.suffix_cons _ _)
theorem drop_plain {l : List Ec} (h : PlainE l) (k : ByteArray) : PlainE (dropE k l) := h.sub (drop_suffix k l).sublist
theorem drop_top {l : List Ec} {at' k : ByteArray} (hk : ke at' k) : topE (dropE at' l) k = topE l k := by
  induction l with
  | nil => rfl
  | cons x l ih =>
    rw [dropE]
    split
    · rfl
    · rename_i q
      rw [ih, top_out fun c => q (ke_kl hk (covE_iff.1 c).2)]
theorem drop_head {l r : List Ec} {k : ByteArray} {x : Ec} (h : dropE k l = x :: r) : kl k x.2.1 := by
  induction l with
  | nil => cases h
  | cons y l ih =>
    rw [dropE] at h
    split at h
    · rename_i q
      cases h
      exact q
    · exact ih h
/-- max and min of texts -/
def maxK (a b : ByteArray) : ByteArray := if Op.bytesLess a.toList b.toList = true then b else a
def minK (a b : ByteArray) : ByteArray := if Op.bytesLess b.toList a.toList = true then b else a
theorem maxK_cases (a b : ByteArray) : (kl a b ∧ maxK a b = b) ∨ (ke b a ∧ maxK a b = a) := by
  unfold maxK
  by_cases h : Op.bytesLess a.toList b.toList = true
  · rw [if_pos h]; exact .inl ⟨h, rfl⟩
  · rw [if_neg h]; exact .inr ⟨ke_iff.2 h, rfl⟩
theorem minK_cases (a b : ByteArray) : (kl b a ∧ minK a b = b) ∨ (ke a b ∧ minK a b = a) := by
  unfold minK
  by_cases h : Op.bytesLess b.toList a.toList = true
  · rw [if_pos h]; exact .inl ⟨h, rfl⟩
  · rw [if_neg h]; exact .inr ⟨ke_iff.2 h, rfl⟩
/-- the first stretch of what is left, less the keys below k; none: zeroE -/
def firstE (k : ByteArray) : List Ec → Ec
  | [] => zeroE
  | x :: _ => (maxK x.1 k, x.2.1, x.2.2)
def headE (k : ByteArray) (l : List Ec) : Ec := firstE k (dropE k l)
/-- all bounds of a list -/
def bndE (l : List Ec) : List ByteArray := l.flatMap fun e => [e.1, e.2.1]
theorem bnd_mem {l : List Ec} {e : Ec} (h : e ∈ l) : e.1 ∈ bndE l ∧ e.2.1 ∈ bndE l := ⟨List.mem_flatMap.2 ⟨e, h, by simp⟩, List.mem_flatMap.2 ⟨e, h, by simp⟩⟩
/-- what e is to a function of keys, from k on -/
def AtE (f : ByteArray → Nat) (bs : List ByteArray) (k : ByteArray) (e : Ec) : Prop :=
  (e = zeroE ∧ ∀ j, ke k j → f j = 0) ∨
  (kl e.1 e.2.1 ∧ ke k e.1 ∧ (∀ j, ke k j → kl j e.1 → f j = 0) ∧ (∀ j, ke e.1 j → kl j e.2.1 → f j = e.2.2 + 1) ∧ e.2.1 ∈ bs ∧ (e.1 = k ∨ e.1 ∈ bs))
theorem not_zero {e : Ec} (h : kl e.1 e.2.1) : e ≠ zeroE := fun q => by
  rw [q] at h
  exact kl_irrefl _ h
theorem head_at {l : List Ec} (h : PlainE l) (k : ByteArray) : AtE (topE l) (bndE l) k (headE k l) := by
  unfold headE
  cases hd : dropE k l with
  | nil =>
    refine .inl ⟨rfl, fun j hj => ?_⟩
    rw [← drop_top hj, hd]
    rfl
  | cons x r =>
    have hx := drop_head hd
    have hp : PlainE (x :: r) := hd ▸ drop_plain h k
    have hok := hp.ok x List.mem_cons_self
    have hm : x ∈ l := (drop_suffix k l).subset (by rw [hd]; exact List.mem_cons_self)
    rw [firstE]
    refine .inr ⟨?_, ?_, fun j h1 h2 => ?_, fun j h1 h2 => ?_, (bnd_mem hm).2, ?_⟩
    · rcases maxK_cases x.1 k with ⟨_, q⟩ | ⟨_, q⟩ <;> dsimp only <;> rw [q]
      · exact hx
      · exact hok
    · rcases maxK_cases x.1 k with ⟨_, q⟩ | ⟨q2, q⟩ <;> dsimp only <;> rw [q]
      · exact ke_refl _
      · exact q2
    · dsimp only at h2
      rw [← drop_top h1, hd]
      refine top_low hp ?_
      rcases maxK_cases x.1 k with ⟨_, q⟩ | ⟨q2, q⟩ <;> rw [q] at h2
      · exact absurd h2 (ke_iff.1 h1)
      · exact h2
    · dsimp only at h1 h2
      have h3 : ke k j ∧ ke x.1 j := by
        rcases maxK_cases x.1 k with ⟨q1, q⟩ | ⟨q2, q⟩ <;> rw [q] at h1
        · exact ⟨h1, ke_trans q1.ke h1⟩
        · exact ⟨ke_trans q2 h1, h1⟩
      rw [← drop_top h3.1, hd, top_in hp (covE_iff.2 ⟨h3.2, h2⟩)]
    · rcases maxK_cases x.1 k with ⟨_, q⟩ | ⟨_, q⟩ <;> dsimp only <;> rw [q]
      · exact .inl rfl
      · exact .inr (bnd_mem hm).1
/-- the first piece of two stretches laid upon each other -/
def frontE (a b : Ec) : Ec :=
  if a = zeroE then b else if b = zeroE then a else
  if Op.bytesLess b.1.toList a.1.toList = true then (b.1, minK b.2.1 a.1, b.2.2) else
  if Op.bytesLess a.1.toList b.1.toList = true then (a.1, minK a.2.1 b.1, a.2.2) else (a.1, minK a.2.1 b.2.1, max a.2.2 b.2.2)
theorem front_one {f g : ByteArray → Nat} {bs cs : List ByteArray} {k : ByteArray} {a b : Ec} (ha0 : kl a.1 a.2.1) (hb0 : kl b.1 b.2.1)
    (ha : AtE f bs k a) (hb : AtE g cs k b) (h : kl a.1 b.1) : AtE (fun j => max (f j) (g j)) (bs ++ cs) k (a.1, minK a.2.1 b.1, a.2.2) := by
  rcases ha with ⟨q, _⟩ | ⟨a1, a2, a3, a4, a5, a6⟩
  · exact absurd q (not_zero ha0)
  rcases hb with ⟨q, _⟩ | ⟨b1, b2, b3, b4, b5, b6⟩
  · exact absurd q (not_zero hb0)
  have hb6 : b.1 ∈ cs := by
    rcases b6 with q | q
    · rw [q] at h; exact absurd h (ke_iff.1 a2)
    · exact q
  have hmin : kl a.1 (minK a.2.1 b.1) ∧ ke (minK a.2.1 b.1) a.2.1 ∧ ke (minK a.2.1 b.1) b.1 ∧ minK a.2.1 b.1 ∈ bs ++ cs := by
    rcases minK_cases a.2.1 b.1 with ⟨q1, q⟩ | ⟨q1, q⟩ <;> rw [q]
    · exact ⟨h, q1.ke, ke_refl _, List.mem_append_right _ hb6⟩
    · exact ⟨a1, ke_refl _, q1, List.mem_append_left _ a5⟩
  refine .inr ⟨hmin.1, a2, fun j h1 h2 => ?_, fun j h1 h2 => ?_, hmin.2.2.2, ?_⟩
  · dsimp only at h2 ⊢
    rw [a3 j h1 h2, b3 j h1 (kl_trans h2 h)]
    rfl
  · dsimp only at h1 h2 ⊢
    rw [a4 j h1 (kl_ke h2 hmin.2.1), b3 j (ke_trans a2 h1) (kl_ke h2 hmin.2.2.1)]
    rfl
  · rcases a6 with q | q
    · exact .inl q
    · exact .inr (List.mem_append_left _ q)
theorem AtE.comm {f g : ByteArray → Nat} {bs cs : List ByteArray} {k : ByteArray} {e : Ec} (h : AtE (fun j => max (g j) (f j)) (cs ++ bs) k e) : AtE (fun j => max (f j) (g j)) (bs ++ cs) k e := by
  have e1 : (fun j => max (f j) (g j)) = fun j => max (g j) (f j) := funext fun j => Nat.max_comm _ _
  rw [e1]
  rcases h with h | ⟨h1, h2, h3, h4, h5, h6⟩
  · exact .inl h
  · refine .inr ⟨h1, h2, h3, h4, ?_, ?_⟩
    · simp only [List.mem_append] at h5 ⊢; exact h5.symm
    · simp only [List.mem_append] at h6 ⊢; exact h6.imp id Or.symm
theorem front_at {f g : ByteArray → Nat} {bs cs : List ByteArray} {k : ByteArray} {a b : Ec} (ha : AtE f bs k a) (hb : AtE g cs k b) : AtE (fun j => max (f j) (g j)) (bs ++ cs) k (frontE a b) := by
  have ha' := ha
  have hb' := hb
  unfold frontE
  rcases ha with ⟨a0, a1⟩ | ⟨a1, a2, a3, a4, a5, a6⟩
  · rw [if_pos a0]
    rcases hb with ⟨b0, b1⟩ | ⟨b1, b2, b3, b4, b5, b6⟩
    · exact .inl ⟨b0, fun j hj => by dsimp only; rw [a1 j hj, b1 j hj]; rfl⟩
    · refine .inr ⟨b1, b2, fun j h1 h2 => ?_, fun j h1 h2 => ?_, List.mem_append_right _ b5, b6.imp id (List.mem_append_right _)⟩
      · dsimp only; rw [a1 j h1, b3 j h1 h2]; rfl
      · dsimp only; rw [a1 j (ke_trans b2 h1), b4 j h1 h2]; simp
  · rw [if_neg (not_zero a1)]
    rcases hb with ⟨b0, b1⟩ | ⟨b1, b2, b3, b4, b5, b6⟩
    · rw [if_pos b0]
      refine .inr ⟨a1, a2, fun j h1 h2 => ?_, fun j h1 h2 => ?_, List.mem_append_left _ a5, a6.imp id (List.mem_append_left _)⟩
      · dsimp only; rw [b1 j h1, a3 j h1 h2]; rfl
      · dsimp only; rw [b1 j (ke_trans a2 h1), a4 j h1 h2]; simp
    · rw [if_neg (not_zero b1)]
      split
      · rename_i q
        exact (front_one b1 a1 hb' ha' q).comm
      · rename_i q1
        split
        · rename_i q
          exact front_one a1 b1 ha' hb' q
        · rename_i q2
          have e1 : a.1 = b.1 := ke_antisymm (ke_iff.2 q1) (ke_iff.2 q2)
          have hmin : kl a.1 (minK a.2.1 b.2.1) ∧ ke (minK a.2.1 b.2.1) a.2.1 ∧ ke (minK a.2.1 b.2.1) b.2.1 ∧ minK a.2.1 b.2.1 ∈ bs ++ cs := by
            rcases minK_cases a.2.1 b.2.1 with ⟨q1, q⟩ | ⟨q1, q⟩ <;> rw [q]
            · exact ⟨by rw [e1]; exact b1, q1.ke, ke_refl _, List.mem_append_right _ b5⟩
            · exact ⟨a1, ke_refl _, q1, List.mem_append_left _ a5⟩
          refine .inr ⟨hmin.1, a2, fun j h1 h2 => ?_, fun j h1 h2 => ?_, hmin.2.2.2, a6.imp id (List.mem_append_left _)⟩
          · dsimp only at h2 ⊢
            rw [a3 j h1 h2, b3 j h1 (by rw [← e1]; exact h2)]
            rfl
          · dsimp only at h1 h2 ⊢
            rw [a4 j h1 (kl_ke h2 hmin.2.1), b4 j (by rw [← e1]; exact h1) (kl_ke h2 hmin.2.2.1)]
            omega
/-- so many bounds lie above a key -/
def leftE (bs : List ByteArray) (k : ByteArray) : Nat := bs.countP fun x => Op.bytesLess k.toList x.toList
theorem left_less {bs : List ByteArray} {k j : ByteArray} (h : kl k j) (hj : j ∈ bs) : leftE bs j < leftE bs k := by
  unfold leftE
  induction bs with
  | nil => cases hj
  | cons x bs ih =>
    rw [List.countP_cons, List.countP_cons]
    have hmono : bs.countP (fun x => Op.bytesLess j.toList x.toList) ≤ bs.countP (fun x => Op.bytesLess k.toList x.toList) := List.countP_mono_left fun x _ q => kl_trans h q
    have h1 : Op.bytesLess j.toList x.toList = true → Op.bytesLess k.toList x.toList = true := fun q => kl_trans h q
    rcases List.mem_cons.1 hj with rfl | hj
    · rw [if_neg (show ¬ Op.bytesLess j.toList j.toList = true from kl_irrefl j), if_pos (show Op.bytesLess k.toList j.toList = true from h)]
      omega
    · have := ih hj
      by_cases q : Op.bytesLess j.toList x.toList = true
      · rw [if_pos q, if_pos (h1 q)]; omega
      · rw [if_neg q]; omega
/-- WHERE THE LOOP STANDS: out has what is below k of the function f -/
structure BothSt (f : ByteArray → Nat) (out : List Ec) (k : ByteArray) : Prop where
  plain : PlainE out
  low : ∀ x ∈ out, ke x.2.1 k
  is : ∀ j, kl j k → topE out j = f j
theorem BothSt.nil (f : ByteArray → Nat) : BothSt f [] ⟨#[]⟩ := ⟨PlainE.nil, (fun _ h => by cases h), fun j h => absurd h kl_not_nil⟩
theorem BothSt.step {f : ByteArray → Nat} {bs : List ByteArray} {out : List Ec} {k : ByteArray} {e : Ec} (h : BothSt f out k) (he : AtE f bs k e) (h0 : e ≠ zeroE) :
    BothSt f (joinE out e) e.2.1 ∧ kl k e.2.1 ∧ e.2.1 ∈ bs := by
  rcases he with ⟨q, _⟩ | ⟨e1, e2, e3, e4, e5, _⟩
  · exact absurd q h0
  obtain ⟨j1, j2, j3⟩ := join_plain h.plain e1 fun x hx => ke_trans (h.low x hx) e2
  refine ⟨⟨j1, j3, fun j hj => ?_⟩, ke_kl e2 e1, e5⟩
  rw [j2]
  have hhigh : ke k j → topE out j = 0 := fun q => top_zero fun x hx hc => ke_iff.1 (h.low x hx) (ke_kl q (covE_iff.1 hc).2)
  by_cases hc : covE e j = true
  · rw [if_pos hc, e4 j (covE_iff.1 hc).1 hj, hhigh (ke_trans e2 (covE_iff.1 hc).1)]
    simp
  · rw [if_neg hc, Nat.max_zero]
    rcases ke_or k j with q | q
    · have hlow : kl j e.1 := by
        rcases ke_or e.1 j with q2 | q2
        · exact absurd (covE_iff.2 ⟨q2, hj⟩) hc
        · exact q2
      rw [hhigh q, e3 j q hlow]
    · exact h.is j q
theorem BothSt.done {f : ByteArray → Nat} {bs : List ByteArray} {out : List Ec} {k : ByteArray} {e : Ec} (h : BothSt f out k) (he : AtE f bs k e) (h0 : e = zeroE) : ∀ j, topE out j = f j := fun j => by
  rcases he with ⟨_, q⟩ | ⟨e1, _⟩
  · rcases ke_or k j with q2 | q2
    · rw [q j q2]
      exact top_zero fun x hx hc => ke_iff.1 (h.low x hx) (ke_kl q2 (covE_iff.1 hc).2)
    · exact h.is j q2
  · exact absurd h0 (not_zero e1)
end Go.Proofs.Ytghcfmkmndldoaa
