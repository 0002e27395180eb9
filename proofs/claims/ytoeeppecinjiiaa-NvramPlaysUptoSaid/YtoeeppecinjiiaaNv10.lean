/-
  The law's device as plain data, and how the program's hangs together with it.
-/
import Derived.Test.YtoeeppecinjiiaaNv9
import Derived.Test.YtoeeppecinjiiaaNv8
namespace Go.Proofs.Ytoeeppecinjiiaa
open Go.RowKit

structure Ref where
  kept : List UInt8
  l : List (Nat × UInt8)
def lay (K : List UInt8) (l : List (Nat × UInt8)) : List UInt8 := l.foldl (fun b p => b.set p.1 p.2) K
def putsOf : Nat → List UInt8 → List (Nat × UInt8)
  | _, [] => []
  | a, b :: t => (a, b) :: putsOf (a + 1) t
def Ref.new (n : Nat) : Ref := ⟨List.replicate n 0, []⟩
def Ref.write (R : Ref) (at_ : Nat) (b : List UInt8) : Ref := ⟨R.kept, R.l ++ putsOf at_ b⟩
def Ref.now (R : Ref) (n : Nat) : List UInt8 := lay R.kept (R.l.take n)
def Ref.all (R : Ref) : List UInt8 := lay R.kept R.l
def Ref.persist (R : Ref) : Ref := ⟨R.all, []⟩
def Ref.cut (R : Ref) (n : Nat) : Ref := ⟨R.now n, []⟩

theorem putsOf_length : ∀ (b : List UInt8) (a : Nat), (putsOf a b).length = b.length
  | [], _ => rfl
  | _ :: t, a => by simp [putsOf, putsOf_length t]
theorem putsOf_take : ∀ (b : List UInt8) (a k : Nat), putsOf a (b.take k) = (putsOf a b).take k
  | [], a, k => by simp [putsOf]
  | x :: t, a, 0 => by simp [putsOf]
  | x :: t, a, k + 1 => by simp [putsOf, putsOf_take t]
theorem putsOf_append : ∀ (b c : List UInt8) (a : Nat), putsOf a (b ++ c) = putsOf a b ++ putsOf (a + b.length) c
  | [], c, a => by simp [putsOf]
  | x :: t, c, a => by
    simp only [List.cons_append, putsOf, putsOf_append t c, List.length_cons]
    rw [show a + 1 + t.length = a + (t.length + 1) by omega]
theorem putsOf_get : ∀ (b : List UInt8) (a i : Nat), (putsOf a b)[i]? = b[i]?.map fun x => (a + i, x)
  | [], a, i => by simp [putsOf]
  | x :: t, a, 0 => by simp [putsOf]
  | x :: t, a, i + 1 => by
    simp only [putsOf, List.getElem?_cons_succ, putsOf_get t]
    rw [show a + 1 + i = a + (i + 1) by omega]
theorem lay_append (K : List UInt8) (l m : List (Nat × UInt8)) : lay K (l ++ m) = lay (lay K l) m := by simp [lay]
theorem lay_length : ∀ (l : List (Nat × UInt8)) (K : List UInt8), (lay K l).length = K.length
  | [], K => rfl
  | p :: t, K => by
    show (lay (K.set p.1 p.2) t).length = _
    rw [lay_length t]; simp
theorem lay_snoc (K : List UInt8) (l : List (Nat × UInt8)) (k : Nat) (p : Nat × UInt8) (h : l[k]? = some p) : lay K (l.take (k + 1)) = (lay K (l.take k)).set p.1 p.2 := by
  rw [List.take_add_one, h, Option.toList, lay_append]; rfl
theorem splat_get (m : List UInt8) (a : Nat) (r : List UInt8) (h : a + r.length ≤ m.length) (i : Nat) : (splat m a r)[i]? = if i < a then m[i]? else if i < a + r.length then r[i - a]? else m[i]? := by
  have hl : (m.take a).length = a := by simp; omega
  unfold splat
  by_cases h1 : i < a
  · rw [List.getElem?_append_left (by omega), List.getElem?_take_of_lt h1, if_pos h1]
  · rw [List.getElem?_append_right (by omega), hl, if_neg h1]
    by_cases h2 : i < a + r.length
    · rw [List.getElem?_append_left (by omega), if_pos h2]
    · rw [List.getElem?_append_right (by omega), if_neg h2, List.getElem?_drop]
      congr 1
      omega
theorem lay_putsOf : ∀ (b : List UInt8) (K : List UInt8) (a : Nat), a + b.length ≤ K.length → lay K (putsOf a b) = splat K a b
  | [], K, a, _ => by rw [splat_nil]; rfl
  | x :: t, K, a, h => by
    simp only [List.length_cons] at h
    show lay (K.set a x) (putsOf (a + 1) t) = _
    rw [lay_putsOf t (K.set a x) (a + 1) (by simp; omega)]
    apply List.ext_getElem?
    intro i
    rw [splat_get _ _ _ (by simp; omega), splat_get _ _ _ (by simp; omega), List.getElem?_set]
    simp only [List.length_cons]
    by_cases h1 : i < a
    · rw [if_pos (by omega), if_neg (by omega), if_pos h1]
    · by_cases h2 : i = a
      · subst h2
        rw [if_pos (by omega), if_pos rfl, if_pos (by omega), if_neg (by omega), if_pos (by omega)]
        simp
      · by_cases h3 : i < a + (t.length + 1)
        · rw [if_neg (by omega), if_pos (by omega), if_neg h1, if_pos h3]
          rw [show i - a = i - (a + 1) + 1 by omega]; rfl
        · rw [if_neg (by omega), if_neg (by omega), if_neg (by omega), if_neg h1, if_neg h3]
theorem splat_undo (m l : List UInt8) (a own : Nat) (h : a + l.length ≤ m.length) (ho : own ≤ l.length) :
    splat (splat m a l) (a + own) (((m.drop a).take l.length).drop own) = splat m a (l.take own) := by
  have hw : ((m.drop a).take l.length).length = l.length := by simp; omega
  apply List.ext_getElem?
  intro i
  rw [splat_get _ _ _ (by rw [splat_length _ _ _ h]; simp; omega), splat_get _ _ _ h, splat_get _ _ _ (by simp; omega)]
  have e1 : (((m.drop a).take l.length).drop own).length = l.length - own := by rw [List.length_drop, hw]
  have e2 : (l.take own).length = own := by simp; omega
  rw [e1, e2]
  by_cases h1 : i < a
  · have q : i < a + own := by omega
    simp only [h1, q, if_true]
  · by_cases h2 : i < a + own
    · have q : i < a + l.length := by omega
      simp only [h1, h2, q, if_true, if_false]
      rw [List.getElem?_take_of_lt (by omega)]
    · by_cases h3 : i < a + l.length
      · have q : i < a + own + (l.length - own) := by omega
        simp only [h1, h2, h3, q, if_true, if_false]
        rw [List.getElem?_drop, List.getElem?_take_of_lt (by omega), List.getElem?_drop]
        congr 1
        omega
      · have q : ¬ i < a + own + (l.length - own) := by omega
        simp only [h1, h2, h3, q, if_false]

/-- what was written since K, what undoes it, and what lies there now -/
inductive Hist (K : List UInt8) : List (Nat × UInt8) → List Und → List UInt8 → Prop where
  | nil : Hist K [] [] K
  | put {L us m} (at_ : Nat) (l : List UInt8) (h : Hist K L us m) (hf : at_ + l.length ≤ m.length) : Hist K (L ++ putsOf at_ l) (us ++ [⟨at_, (m.drop at_).take l.length, L.length⟩]) (splat m at_ l)
theorem Hist.now {K L us m} (h : Hist K L us m) : m = lay K L ∧ m.length = K.length ∧ (∀ p ∈ L, p.1 < K.length) ∧ ∀ u ∈ us, u.ahead + u.was.length ≤ L.length := by
  induction h with
  | nil => exact ⟨rfl, rfl, fun p hp => by simp at hp, fun u hu => by simp at hu⟩
  | @put L us m at_ l h hf ih =>
    obtain ⟨i1, i2, i3, i4⟩ := ih
    refine ⟨by rw [lay_append, ← i1, lay_putsOf _ _ _ hf], by rw [splat_length _ _ _ hf, i2], fun p hp => ?_, fun u hu => ?_⟩
    · rcases List.mem_append.1 hp with hp | hp
      · exact i3 p hp
      · obtain ⟨i, hi⟩ := List.getElem?_of_mem hp
        rw [putsOf_get] at hi
        obtain ⟨x, hx, rfl⟩ := Option.map_eq_some_iff.1 hi
        have := (List.getElem?_eq_some_iff.1 hx).1
        show at_ + i < _
        omega
    · rw [List.length_append, putsOf_length]
      rcases List.mem_append.1 hu with hu | hu
      · have := i4 u hu; omega
      · rw [List.mem_singleton] at hu
        subst hu
        show L.length + ((m.drop at_).take l.length).length ≤ _
        simp; omega
theorem undoAll_all (k : Nat) : ∀ (us : List Und) (m : List UInt8), (∀ u ∈ us, u.ahead + u.was.length ≤ k) → undoAll k us m = m
  | [], _, _ => rfl
  | u :: t, m, h => by
    show undoOne k u (undoAll k t m) = m
    rw [undoAll_all k t m fun v hv => h v (List.mem_cons_of_mem _ hv)]
    have := h u List.mem_cons_self
    unfold undoOne ownOf
    rw [show min (k - u.ahead) u.was.length = u.was.length by omega, List.drop_length, splat_nil]
theorem Hist.undo {K L us m} (k : Nat) (h : Hist K L us m) : undoAll k us m = lay K (L.take k) := by
  induction h with
  | nil => simp [undoAll, lay]
  | @put L us m at_ l h hf ih =>
    obtain ⟨i1, i2, i3, i4⟩ := h.now
    have hw : ((m.drop at_).take l.length).length = l.length := by simp; omega
    have e : undoAll k (us ++ [⟨at_, (m.drop at_).take l.length, L.length⟩]) (splat m at_ l) = undoAll k us (splat m at_ (l.take (min (k - L.length) l.length))) := by
      have e1 : undoOne k ⟨at_, (m.drop at_).take l.length, L.length⟩ (splat m at_ l) = splat m at_ (l.take (min (k - L.length) l.length)) := by
        unfold undoOne ownOf
        simp only [hw]
        exact splat_undo m l at_ _ hf (Nat.min_le_right _ _)
      simp only [undoAll, List.foldr_append, List.foldr_cons, List.foldr_nil, e1]
    rw [e]
    by_cases hk : k ≤ L.length
    · rw [show min (k - L.length) l.length = 0 by omega, List.take_zero, splat_nil, ih, List.take_append_of_le_length hk]
    · have hl : (l.take (min (k - L.length) l.length)).length ≤ l.length := by rw [List.length_take]; omega
      rw [undoAll_all k us _ fun u hu => by have := i4 u hu; omega, ← lay_putsOf _ _ _ (by omega), i1, ← lay_append, putsOf_take]
      congr 1
      rw [List.take_append, List.take_of_length_le (show L.length ≤ k by omega)]
      congr 1
      by_cases hq : k - L.length ≤ l.length
      · rw [Nat.min_eq_left hq]
      · rw [Nat.min_eq_right (by omega), List.take_of_length_le (by rw [putsOf_length]; exact Nat.le_refl _), List.take_of_length_le (by rw [putsOf_length]; omega)]

/-- the program's device and the law's tell the same -/
structure Alike (D : Dev) (R : Ref) : Prop where
  hist : Hist R.kept R.l D.undos D.mem
  count : D.pending = R.l.length
section
variable {D : Dev} {R : Ref}
theorem Alike.new (n : Nat) : Alike (Dev.new n) (Ref.new n) := ⟨.nil, rfl⟩
theorem Alike.all (h : Alike D R) : D.mem = R.all := h.hist.now.1
theorem Alike.size (h : Alike D R) : D.mem.length = R.kept.length := h.hist.now.2.1
theorem Alike.places (h : Alike D R) : ∀ p ∈ R.l, p.1 < R.kept.length := h.hist.now.2.2.1
theorem Alike.settle (h : Alike D R) : Alike D.settle R.persist := by
  refine ⟨?_, rfl⟩
  show Hist R.all [] [] D.mem
  rw [← h.all]
  exact .nil
theorem Alike.cut (h : Alike D R) (picks : List Int) : Alike (D.cut picks) (R.cut (keptOf R.l.length picks)) := by
  refine ⟨?_, rfl⟩
  show Hist (lay R.kept (R.l.take _)) [] [] (undoAll (keptOf D.pending picks) D.undos D.mem)
  rw [h.hist.undo, h.count]
  exact .nil
theorem Alike.put (h : Alike D R) (at_ : Nat) (l : List UInt8) (hf : at_ + l.length ≤ D.mem.length) : Alike (D.put at_ l) (R.write at_ l) := by
  by_cases h0 : l = []
  · subst h0
    simpa [Dev.put, Ref.write, putsOf] using h
  · have e : D.put at_ l = ⟨splat D.mem at_ l, D.undos ++ [⟨at_, (D.mem.drop at_).take l.length, D.pending⟩], D.pending + l.length⟩ := by
      unfold Dev.put
      rw [if_neg (by simpa using h0)]
    rw [e]
    refine ⟨?_, ?_⟩
    · show Hist R.kept (R.l ++ putsOf at_ l) (D.undos ++ [⟨at_, _, D.pending⟩]) _
      rw [h.count]
      exact .put at_ l h.hist hf
    · show D.pending + l.length = (R.l ++ putsOf at_ l).length
      rw [List.length_append, putsOf_length, h.count]
theorem Alike.putAll : ∀ (ls : List (List UInt8)) {D : Dev} {R : Ref} (at_ : Nat), Alike D R → at_ + total ls ≤ D.mem.length → Alike (D.putAll at_ ls) (R.write at_ ls.flatten)
  | [], D, R, at_, h, _ => by simpa [Dev.putAll, Ref.write, putsOf] using h
  | l :: t, D, R, at_, h, hf => by
    have e : total (l :: t) = l.length + total t := by simp [total]
    have h2 := (h.put at_ l (by omega))
    have hl := (Dev.put_length D at_ l (by omega)).1
    have h3 := Alike.putAll t (at_ + l.length) h2 (by omega)
    have e2 : (R.write at_ l).write (at_ + l.length) t.flatten = R.write at_ (l :: t).flatten := by
      simp [Ref.write, putsOf_append]
    rw [← e2]
    exact h3
end
end Go.Proofs.Ytoeeppecinjiiaa
