/-
  Facts as plain data: their order, lists in order, lists merged.
-/
import Derived.Test.YtghcfmkmndldoaaBase
import Derived.Lib.Strings
namespace Go.Proofs.Ytghcfmkmndldoaa

/-- a fact: its key, its number, its value -/
abbrev Fc := ByteArray × Nat × List UInt8

theorem less_irrefl : ∀ x : List UInt8, Op.bytesLess x x = false
  | [] => rfl
  | a :: x => by rw [Op.bytesLess, less_irrefl x]; simp
theorem less_trans : ∀ x y z : List UInt8, Op.bytesLess x y = true → Op.bytesLess y z = true → Op.bytesLess x z = true
  | _, [], _, h, _ => by cases ‹List UInt8› <;> simp [Op.bytesLess] at h
  | _, _ :: _, [], _, h => by simp [Op.bytesLess] at h
  | [], _ :: _, _ :: _, _, _ => rfl
  | a :: x, b :: y, c :: z, h, k => by
    simp only [Op.bytesLess, Bool.or_eq_true, decide_eq_true_eq, Bool.and_eq_true, beq_iff_eq] at h k ⊢
    rcases h with h | ⟨rfl, h⟩ <;> rcases k with k | ⟨rfl, k⟩
    · left; exact UInt8.lt_trans h k
    · left; exact h
    · left; exact k
    · right; exact ⟨rfl, less_trans x y z h k⟩
theorem less_total : ∀ x y : List UInt8, Op.bytesLess x y = true ∨ x = y ∨ Op.bytesLess y x = true
  | [], [] => .inr (.inl rfl)
  | [], _ :: _ => .inl rfl
  | _ :: _, [] => .inr (.inr rfl)
  | a :: x, b :: y => by
    simp only [Op.bytesLess, Bool.or_eq_true, decide_eq_true_eq, Bool.and_eq_true, beq_iff_eq, List.cons.injEq]
    rcases Nat.lt_trichotomy a.toNat b.toNat with h | h | h
    · left; left; exact UInt8.lt_iff_toNat_lt.2 h
    · have e : a = b := UInt8.toNat_inj.1 h
      subst e
      rcases less_total x y with h | h | h
      · left; right; exact ⟨rfl, h⟩
      · right; left; exact ⟨rfl, h⟩
      · right; right; right; exact ⟨rfl, h⟩
    · right; right; left; exact UInt8.lt_iff_toNat_lt.2 h
theorem less_asymm {x y : List UInt8} (h : Op.bytesLess x y = true) : Op.bytesLess y x = false := by
  cases k : Op.bytesLess y x with
  | false => rfl
  | true => have := less_trans _ _ _ h k; rw [less_irrefl] at this; cases this

theorem list_of_array (a : ByteArray) : a.toList = a.data.toList := Lib.toList_data a
theorem array_inj {a b : ByteArray} (h : a.toList = b.toList) : a = b := by
  rw [list_of_array, list_of_array] at h
  exact ByteArray.ext (Array.toList_inj.1 h)

/-- how two keys stand -/
def cmpK (a b : ByteArray) : Int := if Op.bytesLess a.toList b.toList = true then -1 else if Op.bytesLess b.toList a.toList = true then 1 else 0
/-- how two facts stand: by key, rising; then by number, falling -/
def cmpF (a b : Fc) : Int := if cmpK a.1 b.1 ≠ 0 then cmpK a.1 b.1 else if b.2.1 < a.2.1 then -1 else if a.2.1 < b.2.1 then 1 else 0
/-- a stands ahead of b -/
def Ahead (a b : Fc) : Prop := Op.bytesLess a.1.toList b.1.toList = true ∨ (a.1 = b.1 ∧ b.2.1 < a.2.1)
/-- what names a fact -/
def tagF (a : Fc) : ByteArray × Nat := (a.1, a.2.1)

theorem cmpK_zero {a b : ByteArray} : cmpK a b = 0 ↔ a = b := by
  unfold cmpK
  rcases less_total a.toList b.toList with h | h | h
  · rw [if_pos h]
    refine ⟨(fun q => by cases q), fun q => ?_⟩
    rw [q, less_irrefl] at h; cases h
  · rw [array_inj h, less_irrefl]; simp
  · rw [if_neg (by rw [less_asymm h]; simp), if_pos h]
    refine ⟨(fun q => by cases q), fun q => ?_⟩
    rw [q, less_irrefl] at h; cases h
theorem cmpF_lt {a b : Fc} : cmpF a b < 0 ↔ Ahead a b := by
  unfold cmpF Ahead
  by_cases hk : a.1 = b.1
  · rw [if_neg (by rw [cmpK_zero.2 hk]; simp), hk, less_irrefl]
    split
    · simp; assumption
    · split <;> simp <;> omega
  · rw [if_pos (fun q => hk (cmpK_zero.1 q))]
    unfold cmpK
    split
    · simp; left; assumption
    · split <;> simp_all
theorem cmpF_zero {a b : Fc} : cmpF a b = 0 ↔ tagF a = tagF b := by
  unfold cmpF tagF
  rw [Prod.mk.injEq]
  by_cases hk : a.1 = b.1
  · rw [if_neg (by rw [cmpK_zero.2 hk]; simp)]
    constructor
    · intro h
      refine ⟨hk, ?_⟩
      split at h
      · cases h
      · split at h
        · cases h
        · omega
    · rintro ⟨_, h⟩
      rw [if_neg (by omega), if_neg (by omega)]
  · rw [if_pos (fun q => hk (cmpK_zero.1 q))]
    exact ⟨fun q => absurd (cmpK_zero.1 q) hk, fun q => absurd q.1 hk⟩
theorem cmpK_neg (a b : ByteArray) : cmpK b a = - cmpK a b := by
  unfold cmpK
  rcases less_total a.toList b.toList with h | h | h
  · rw [less_asymm h, h]; simp
  · rw [array_inj h, less_irrefl]; simp
  · rw [less_asymm h, h]; simp
theorem cmpF_neg (a b : Fc) : cmpF b a = - cmpF a b := by
  unfold cmpF
  by_cases hk : cmpK a.1 b.1 = 0
  · rw [cmpK_neg a.1 b.1, hk]
    simp only [Int.neg_zero, ne_eq, not_true, if_false]
    rcases Nat.lt_trichotomy a.2.1 b.2.1 with h | h | h
    · rw [if_pos h, if_neg (by omega), if_pos h]
    · rw [h]; simp
    · rw [if_pos h, if_neg (by omega), if_pos h]; rfl
  · rw [cmpK_neg a.1 b.1, if_pos (by omega), if_pos hk]
theorem Ahead.trans {a b c : Fc} (h : Ahead a b) (k : Ahead b c) : Ahead a c := by
  rcases h with h | ⟨h1, h2⟩ <;> rcases k with k | ⟨k1, k2⟩
  · exact .inl (less_trans _ _ _ h k)
  · exact .inl (k1 ▸ h)
  · exact .inl (h1 ▸ k)
  · exact .inr ⟨h1.trans k1, by omega⟩
theorem Ahead.irrefl (a : Fc) : ¬ Ahead a a := by
  rintro (h | ⟨_, h⟩)
  · rw [less_irrefl] at h; cases h
  · omega
theorem Ahead.tag {a b : Fc} (h : Ahead a b) : tagF a ≠ tagF b := fun q => by
  have := cmpF_lt.2 h
  rw [cmpF_zero.2 q] at this
  cases this
theorem ahead_total (a b : Fc) : Ahead a b ∨ tagF a = tagF b ∨ Ahead b a := by
  rcases Int.lt_trichotomy (cmpF a b) 0 with h | h | h
  · exact .inl (cmpF_lt.1 h)
  · exact .inr (.inl (cmpF_zero.1 h))
  · exact .inr (.inr (cmpF_lt.1 (by rw [cmpF_neg]; omega)))

/-- facts in order -/
def rightF : List Fc → Bool
  | a :: b :: l => decide (cmpF a b < 0) && rightF (b :: l)
  | _ => true
theorem rightF_pair : ∀ {l : List Fc}, rightF l = true ↔ l.Pairwise Ahead
  | [] => by simp [rightF]
  | [a] => by simp [rightF]
  | a :: b :: l => by
    rw [rightF, Bool.and_eq_true, rightF_pair, decide_eq_true_eq, cmpF_lt, List.pairwise_cons (a := a)]
    constructor
    · rintro ⟨h, k⟩
      refine ⟨fun x hx => ?_, k⟩
      rcases List.mem_cons.1 hx with rfl | hx
      · exact h
      · exact h.trans ((List.pairwise_cons.1 k).1 x hx)
    · rintro ⟨h, k⟩
      exact ⟨h b List.mem_cons_self, k⟩
/-- the first n are in order -/
theorem rightF_take {l : List Fc} {n : Nat} (h : rightF (l.take (n + 1)) = true) {a b : Fc} (ha : l[n]? = some a) (hb : l[n + 1]? = some b) : rightF (l.take (n + 2)) = decide (cmpF a b < 0) := by
  have e : l.take (n + 2) = l.take (n + 1) ++ [b] := by rw [List.take_add_one, hb]; rfl
  have e1 : l.take (n + 1) = l.take n ++ [a] := by rw [List.take_add_one, ha]; rfl
  cases hd : decide (cmpF a b < 0) with
  | true =>
    rw [rightF_pair] at h ⊢
    rw [e, List.pairwise_append]
    refine ⟨h, by simp, fun x hx y hy => ?_⟩
    obtain rfl : y = b := by simpa using hy
    have hab : Ahead a y := cmpF_lt.1 (of_decide_eq_true hd)
    rw [e1] at hx h
    rcases List.mem_append.1 hx with hx | hx
    · exact ((List.pairwise_append.1 h).2.2 x hx a (by simp)).trans hab
    · obtain rfl : x = a := by simpa using hx
      exact hab
  | false =>
    cases hr : rightF (l.take (n + 2)) with
    | false => rfl
    | true =>
      rw [rightF_pair, e, e1, List.append_assoc, List.pairwise_append] at hr
      have := (List.pairwise_cons.1 hr.2.1).1 b (by simp)
      exact absurd (cmpF_lt.2 this) (of_decide_eq_false hd)
theorem rightF_prefix {l : List Fc} (n : Nat) (h : rightF (l.take n) = false) : rightF l = false := by
  cases hr : rightF l with
  | false => rfl
  | true =>
    rw [rightF_pair] at hr
    have := rightF_pair.2 (hr.sublist (List.take_sublist n l))
    rw [this] at h; cases h

/-- two lists as one; of what both have, the first one's -/
def twoF : List Fc → List Fc → List Fc
  | [], b => b
  | x :: a, [] => x :: a
  | x :: a, y :: b => if cmpF x y = 0 then x :: twoF a b else if cmpF x y < 0 then x :: twoF a (y :: b) else y :: twoF (x :: a) b
termination_by a b => a.length + b.length
theorem twoF_nil (a : List Fc) : twoF a [] = a := by cases a <;> simp [twoF]
theorem nil_twoF (a : List Fc) : twoF [] a = a := by simp [twoF]

/-- the fact of that name in a list -/
def findF (l : List Fc) (t : ByteArray × Nat) : Option Fc := l.find? (fun x => decide (tagF x = t))
theorem findF_nil (t : ByteArray × Nat) : findF [] t = none := rfl
theorem findF_cons (x : Fc) (l : List Fc) (t : ByteArray × Nat) : findF (x :: l) t = if tagF x = t then some x else findF l t := by
  unfold findF
  rw [List.find?_cons]
  by_cases h : tagF x = t
  · simp [h]
  · simp [h]
theorem findF_none {l : List Fc} {t : ByteArray × Nat} (h : ∀ x ∈ l, tagF x ≠ t) : findF l t = none := by
  unfold findF
  rw [List.find?_eq_none]
  intro x hx
  simpa using h x hx
theorem findF_mem {l : List Fc} {t : ByteArray × Nat} {x : Fc} (h : findF l t = some x) : x ∈ l ∧ tagF x = t := by
  unfold findF at h
  exact ⟨List.mem_of_find?_eq_some h, by simpa using List.find?_some h⟩
/-- behind x stands nothing of x's name -/
theorem findF_behind {x : Fc} {l : List Fc} (h : ∀ y ∈ l, Ahead x y) : findF l (tagF x) = none := findF_none fun y hy => (h y hy).tag.symm
/-- lists in order that find the same are the same -/
theorem find_ext : ∀ {a b : List Fc}, a.Pairwise Ahead → b.Pairwise Ahead → (∀ t, findF a t = findF b t) → a = b
  | [], [], _, _, _ => rfl
  | [], y :: b, _, _, h => by have := h (tagF y); rw [findF_nil, findF_cons, if_pos rfl] at this; cases this
  | x :: a, [], _, _, h => by have := h (tagF x); rw [findF_nil, findF_cons, if_pos rfl] at this; cases this
  | x :: a, y :: b, ha, hb, h => by
    obtain ⟨ha1, ha2⟩ := List.pairwise_cons.1 ha
    obtain ⟨hb1, hb2⟩ := List.pairwise_cons.1 hb
    have hxy : x = y := by
      rcases ahead_total x y with q | q | q
      · have e := h (tagF x)
        rw [findF_cons, if_pos rfl, findF_cons, if_neg (Ne.symm q.tag), findF_none (fun z hz => ((q.trans (hb1 z hz)).tag).symm)] at e
        cases e
      · have e := h (tagF x)
        rw [findF_cons, if_pos rfl, findF_cons, if_pos q.symm] at e
        exact Option.some.inj e
      · have e := h (tagF y)
        rw [findF_cons, if_neg (Ne.symm q.tag), findF_cons, if_pos rfl, findF_none (fun z hz => ((q.trans (ha1 z hz)).tag).symm)] at e
        cases e
    subst hxy
    rw [find_ext ha2 hb2 fun t => ?_]
    have e := h t
    rw [findF_cons, findF_cons] at e
    by_cases ht : tagF x = t
    · rw [← ht, findF_behind ha1, findF_behind hb1]
    · rw [if_neg ht, if_neg ht] at e
      exact e
theorem twoF_mem : ∀ (a b : List Fc) (z : Fc), z ∈ twoF a b → z ∈ a ∨ z ∈ b
  | [], b, z, h => by rw [nil_twoF] at h; exact .inr h
  | x :: a, [], z, h => by rw [twoF_nil] at h; exact .inl h
  | x :: a, y :: b, z, h => by
    rw [twoF] at h
    split at h
    · rcases List.mem_cons.1 h with rfl | h
      · exact .inl List.mem_cons_self
      · rcases twoF_mem a b z h with h | h
        · exact .inl (List.mem_cons_of_mem _ h)
        · exact .inr (List.mem_cons_of_mem _ h)
    · split at h
      · rcases List.mem_cons.1 h with rfl | h
        · exact .inl List.mem_cons_self
        · rcases twoF_mem a (y :: b) z h with h | h
          · exact .inl (List.mem_cons_of_mem _ h)
          · exact .inr h
      · rcases List.mem_cons.1 h with rfl | h
        · exact .inr List.mem_cons_self
        · rcases twoF_mem (x :: a) b z h with h | h
          · exact .inl h
          · exact .inr (List.mem_cons_of_mem _ h)
termination_by a b => a.length + b.length
theorem ahead_of_tag {a b c : Fc} (h : tagF a = tagF b) (k : Ahead b c) : Ahead a c := by
  unfold tagF at h
  rw [Prod.mk.injEq] at h
  unfold Ahead at k ⊢
  rw [h.1, h.2]
  exact k
theorem twoF_right : ∀ {a b : List Fc}, a.Pairwise Ahead → b.Pairwise Ahead → (twoF a b).Pairwise Ahead
  | [], b, _, hb => by rw [nil_twoF]; exact hb
  | x :: a, [], ha, _ => by rw [twoF_nil]; exact ha
  | x :: a, y :: b, ha, hb => by
    obtain ⟨ha1, ha2⟩ := List.pairwise_cons.1 ha
    obtain ⟨hb1, hb2⟩ := List.pairwise_cons.1 hb
    rw [twoF]
    split
    · rename_i h
      refine List.pairwise_cons.2 ⟨fun z hz => ?_, twoF_right ha2 hb2⟩
      rcases twoF_mem _ _ _ hz with q | q
      · exact ha1 z q
      · exact ahead_of_tag (cmpF_zero.1 h) (hb1 z q)
    · split
      · rename_i h
        have hxy := cmpF_lt.1 h
        refine List.pairwise_cons.2 ⟨fun z hz => ?_, twoF_right ha2 hb⟩
        rcases twoF_mem _ _ _ hz with q | q
        · exact ha1 z q
        · rcases List.mem_cons.1 q with rfl | q
          · exact hxy
          · exact hxy.trans (hb1 z q)
      · rename_i h0 h1
        have hyx : Ahead y x := cmpF_lt.1 (by rw [cmpF_neg]; omega)
        refine List.pairwise_cons.2 ⟨fun z hz => ?_, twoF_right ha hb2⟩
        rcases twoF_mem _ _ _ hz with q | q
        · rcases List.mem_cons.1 q with rfl | q
          · exact hyx
          · exact hyx.trans (ha1 z q)
        · exact hb1 z q
termination_by a b => a.length + b.length
theorem findF_two : ∀ {a b : List Fc}, a.Pairwise Ahead → b.Pairwise Ahead → ∀ t, findF (twoF a b) t = (findF a t).or (findF b t)
  | [], b, _, _, t => by rw [nil_twoF, findF_nil, Option.none_or]
  | x :: a, [], _, _, t => by rw [twoF_nil, findF_nil, Option.or_none]
  | x :: a, y :: b, ha, hb, t => by
    obtain ⟨ha1, ha2⟩ := List.pairwise_cons.1 ha
    obtain ⟨hb1, hb2⟩ := List.pairwise_cons.1 hb
    rw [twoF]
    split
    · rename_i h
      rw [findF_cons, findF_two ha2 hb2 t, findF_cons, findF_cons, ← cmpF_zero.1 h]
      by_cases ht : tagF x = t <;> simp [ht]
    · split
      · rename_i h
        rw [findF_cons, findF_two ha2 hb t, findF_cons x]
        by_cases ht : tagF x = t <;> simp [ht]
      · rename_i h0 h1
        have hyx : Ahead y x := cmpF_lt.1 (by rw [cmpF_neg]; omega)
        rw [findF_cons, findF_two ha hb2 t, findF_cons y]
        by_cases ht : tagF y = t
        · rw [if_pos ht, if_pos ht]
          have : findF (x :: a) t = none := by
            rw [← ht]
            refine findF_none fun z hz => ?_
            rcases List.mem_cons.1 hz with rfl | hz
            · exact hyx.tag.symm
            · exact (hyx.trans (ha1 z hz)).tag.symm
          rw [this, Option.none_or]
        · rw [if_neg ht, if_neg ht]
termination_by a b => a.length + b.length
theorem twoF_assoc {a b c : List Fc} (ha : a.Pairwise Ahead) (hb : b.Pairwise Ahead) (hc : c.Pairwise Ahead) : twoF (twoF a b) c = twoF a (twoF b c) :=
  find_ext (twoF_right (twoF_right ha hb) hc) (twoF_right ha (twoF_right hb hc)) fun t => by
    rw [findF_two (twoF_right ha hb) hc, findF_two ha hb, findF_two ha (twoF_right hb hc), findF_two hb hc, Option.or_assoc]
theorem twoF_length : ∀ a b : List Fc, (twoF a b).length ≤ a.length + b.length
  | [], b => by rw [nil_twoF]; simp
  | x :: a, [] => by rw [twoF_nil]; simp
  | x :: a, y :: b => by
    rw [twoF]
    split
    · have := twoF_length a b; simp; omega
    · split
      · have := twoF_length a (y :: b); simp at this ⊢; omega
      · have := twoF_length (x :: a) b; simp at this ⊢; omega
termination_by a b => a.length + b.length

/-- all lists as one -/
def mergeF (ls : List (List Fc)) : List Fc := ls.foldl twoF []
theorem foldF_right : ∀ (ls : List (List Fc)) (a : List Fc), a.Pairwise Ahead → (∀ l ∈ ls, l.Pairwise Ahead) → (ls.foldl twoF a).Pairwise Ahead
  | [], a, ha, _ => ha
  | l :: ls, a, ha, h => foldF_right ls _ (twoF_right ha (h l List.mem_cons_self)) fun x hx => h x (List.mem_cons_of_mem _ hx)
theorem mergeF_right (ls : List (List Fc)) (h : ∀ l ∈ ls, l.Pairwise Ahead) : (mergeF ls).Pairwise Ahead := foldF_right ls [] List.Pairwise.nil h
theorem foldF_two : ∀ (ls : List (List Fc)) (a : List Fc), a.Pairwise Ahead → (∀ l ∈ ls, l.Pairwise Ahead) → ls.foldl twoF a = twoF a (mergeF ls)
  | [], a, _, _ => by unfold mergeF; rw [List.foldl_nil, List.foldl_nil, twoF_nil]
  | l :: ls, a, ha, h => by
    have hl := h l List.mem_cons_self
    have hls := fun x hx => h x (List.mem_cons_of_mem l hx)
    unfold mergeF
    rw [List.foldl_cons, List.foldl_cons, nil_twoF, foldF_two ls _ (twoF_right ha hl) hls, foldF_two ls l hl hls]
    exact twoF_assoc ha hl (mergeF_right ls hls)
theorem mergeF_append (p q : List (List Fc)) (hp : ∀ l ∈ p, l.Pairwise Ahead) (hq : ∀ l ∈ q, l.Pairwise Ahead) : mergeF (p ++ q) = twoF (mergeF p) (mergeF q) := by
  unfold mergeF
  rw [List.foldl_append]
  exact foldF_two q _ (mergeF_right p hp) hq
theorem mergeF_one (l : List Fc) : mergeF [l] = l := nil_twoF l
end Go.Proofs.Ytghcfmkmndldoaa
