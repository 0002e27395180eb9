/-
  Tables of facts as plain data: how they are written, and read.
-/
import Derived.Test.YtghcfmkmndldoaaKFa1
import Derived.Test.YtghcfmkmndldoaaKPageSpec
namespace Go.Proofs.Ytghcfmkmndldoaa

/-- bytes with how many they are ahead -/
def bytL (x : List UInt8) : List UInt8 := numBytes x.length ++ x
/-- a fact in bytes -/
def wrF (f : Fc) : List UInt8 := bytL f.1.data.toList ++ (numBytes f.2.1 ++ bytL f.2.2)
/-- a block's facts in bytes -/
def blkF (g : List Fc) : List UInt8 := g.flatMap wrF
/-- bytes with their sum ahead -/
def sumdF (b : List UInt8) : List UInt8 := leBytes 4 (sumOf b) ++ b
/-- what the index says of a block -/
def entF (k : ByteArray) (size : Nat) : List UInt8 := bytL k.data.toList ++ numBytes size
/-- the foot -/
def footF (a b : Nat) : List UInt8 := leBytes 4 a ++ leBytes 4 b ++ leBytes 4 (sumOf (leBytes 4 a ++ leBytes 4 b))
/-- how many facts a block takes that has n bytes as yet -/
def frontN (block : Nat) : Nat → List Fc → Nat
  | _, [] => 0
  | n, f :: l => if block ≤ n + (wrF f).length then 1 else 1 + frontN block (n + (wrF f).length) l
theorem frontN_pos (block n : Nat) {l : List Fc} (h : l ≠ []) : 0 < frontN block n l := by
  cases l with
  | nil => exact absurd rfl h
  | cons f l => rw [frontN]; split <;> omega
theorem frontN_le (block : Nat) : ∀ (l : List Fc) (n : Nat), frontN block n l ≤ l.length
  | [], _ => Nat.le_refl _
  | f :: l, n => by
    rw [frontN]
    have := frontN_le block l (n + (wrF f).length)
    split <;> simp <;> omega
/-- the blocks, and the index -/
def bodyF (block : Nat) (l : List Fc) : List UInt8 × List UInt8 :=
  match h : l with
  | [] => ([], [])
  | f :: _ =>
    have : (l.drop (frontN block 0 l)).length < l.length := by
      rw [List.length_drop]
      have := frontN_pos block 0 (l := l) (by rw [h]; simp)
      have : 0 < l.length := by rw [h]; simp
      omega
    let r := bodyF block (l.drop (frontN block 0 l))
    let b := blkF (l.take (frontN block 0 l))
    (sumdF b ++ r.1, entF f.1 (4 + b.length) ++ r.2)
termination_by l.length
decreasing_by all_goals (subst h; exact this)
theorem bodyF_nil (block : Nat) : bodyF block [] = ([], []) := by rw [bodyF]
theorem bodyF_cons (block : Nat) (f : Fc) (l : List Fc) : bodyF block (f :: l) =
    (sumdF (blkF ((f :: l).take (frontN block 0 (f :: l)))) ++ (bodyF block ((f :: l).drop (frontN block 0 (f :: l)))).1,
     entF f.1 (4 + (blkF ((f :: l).take (frontN block 0 (f :: l)))).length) ++ (bodyF block ((f :: l).drop (frontN block 0 (f :: l)))).2) := by rw [bodyF]
/-- a table -/
def tabF (block : Nat) (l : List Fc) : List UInt8 := (bodyF block l).1 ++ (sumdF (bodyF block l).2 ++ footF (sumdF (bodyF block l).2).length l.length)
/-- too long for a table -/
def longF (f : Fc) : Bool := decide (1024 < f.1.size ∨ 1048576 < f.2.2.length)
def buildE (l : List Fc) (block : Int) : Nat := if block < 1 ∨ 1048576 < block then 1 else if rightF l = false then 25 else if 1048576 < l.length ∨ l.any longF = true then 3 else 0
def buildB (l : List Fc) (block : Int) : List UInt8 := if buildE l block = 0 then tabF block.toNat l else []

/-- what is behind a sum that fits -/
def unF (b : List UInt8) : Option (List UInt8) := if 4 ≤ b.length ∧ leNat (b.take 4) = sumOf (b.drop 4) then some (b.drop 4) else none
/-- the fact at the front, and how many bytes it has -/
def rdF (b : List UInt8) : Option (Fc × Nat) :=
  let k := readBy b 1024
  if k.2.2 ≠ 0 then none else
  let s := readNum (b.drop k.2.1)
  if s.2.2 ≠ 0 then none else
  let v := readBy (b.drop (k.2.1 + s.2.1)) 1048576
  if v.2.2 ≠ 0 then none else some ((⟨k.1.toArray⟩, s.1, v.1), k.2.1 + s.2.1 + v.2.1)
theorem readBy_ok {l : List UInt8} {m : Int} (h : (readBy l m).2.2 = 0) : 0 < (readBy l m).2.1 ∧ (readBy l m).2.1 ≤ l.length ∧ (readBy l m).1.length ≤ (readBy l m).2.1 ∧ ((readBy l m).1.length : Int) ≤ max m 0 := by
  unfold readBy at h ⊢
  by_cases h1 : (readNum l).2.2 = 0
  · obtain ⟨p1, p2, p3, p4⟩ := readNum_ok h1
    rw [if_neg (by simp [h1])] at h ⊢
    by_cases h2 : max m 0 < ((readNum l).1 : Int)
    · rw [if_pos h2] at h; cases h
    · rw [if_neg h2] at h ⊢
      by_cases h3 : l.length < (readNum l).2.1 + (readNum l).1
      · rw [if_pos h3] at h; cases h
      · rw [if_neg h3]
        simp only [List.length_take, List.length_drop]
        refine ⟨by omega, by omega, by omega, by omega⟩
  · rw [if_pos h1] at h; exact absurd h h1
theorem rdF_ok {b : List UInt8} {f : Fc} {n : Nat} (h : rdF b = some (f, n)) : 0 < n ∧ n ≤ b.length ∧ f.2.1 < two64 ∧ f.1.size ≤ 1024 ∧ f.2.2.length ≤ n ∧ f.1.size ≤ n ∧ f.2.2.length ≤ 1048576 ∧ f.1.size + f.2.2.length ≤ n := by
  unfold rdF at h
  dsimp only at h
  split at h
  · cases h
  · rename_i h1
    split at h
    · cases h
    · rename_i h2
      split at h
      · cases h
      · rename_i h3
        simp only [ne_eq, Decidable.not_not] at h1 h2 h3
        obtain ⟨a1, a2, a3, a4⟩ := readBy_ok h1
        obtain ⟨b1, b2, b3, b4⟩ := readNum_ok h2
        obtain ⟨c1, c2, c3, c4⟩ := readBy_ok h3
        simp only [List.length_drop] at b3 c2
        cases h
        have e : (ByteArray.mk (readBy b 1024).1.toArray).size = (readBy b 1024).1.length := by simp [ByteArray.size]
        rw [e]
        refine ⟨by omega, by omega, b4, by omega, ?_, by omega, ?_, ?_⟩
        all_goals (dsimp only; omega)
/-- a block's facts -/
def fcsF (b : List UInt8) : Option (List Fc) :=
  if hb : b = [] then some [] else
  match h : rdF b with
  | none => none
  | some (f, n) => (fcsF (b.drop n)).map (f :: ·)
termination_by b.length
decreasing_by
  have := rdF_ok h
  have : 0 < b.length := List.length_pos_iff.2 hb
  rw [List.length_drop]
  omega
theorem fcsF_nil : fcsF [] = some [] := by rw [fcsF]; simp
theorem fcsF_none {b : List UInt8} (hb : b ≠ []) (h : rdF b = none) : fcsF b = none := by
  rw [fcsF, dif_neg hb]
  split
  · rfl
  · rename_i h'; rw [h] at h'; cases h'
theorem fcsF_some {b : List UInt8} (hb : b ≠ []) {f : Fc} {n : Nat} (h : rdF b = some (f, n)) : fcsF b = (fcsF (b.drop n)).map (f :: ·) := by
  rw [fcsF, dif_neg hb]
  split
  · rename_i h'; rw [h] at h'; cases h'
  · rename_i h'
    rw [h] at h'
    cases h'
    rfl
/-- the next part by the index -/
def entR (x : List UInt8) (left : Nat) : Option ((ByteArray × Nat) × Nat) :=
  let k := readBy x 1024
  if k.2.2 ≠ 0 then none else
  let s := readNum (x.drop k.2.1)
  if s.2.2 ≠ 0 ∨ s.1 < 5 ∨ left < s.1 then none else some ((⟨k.1.toArray⟩, s.1), k.2.1 + s.2.1)
theorem entR_ok {x : List UInt8} {left : Nat} {p : ByteArray × Nat} {n : Nat} (h : entR x left = some (p, n)) : 0 < n ∧ n ≤ x.length ∧ 5 ≤ p.2 ∧ p.2 ≤ left := by
  unfold entR at h
  dsimp only at h
  split at h
  · cases h
  · rename_i h1
    split at h
    · cases h
    · rename_i h2
      simp only [ne_eq, Decidable.not_not] at h1
      have h3 : (readNum (x.drop (readBy x 1024).2.1)).2.2 = 0 := by
        apply Decidable.byContradiction; intro q; exact h2 (.inl q)
      obtain ⟨a1, a2, _⟩ := readBy_ok h1
      obtain ⟨b1, b2, b3, b4⟩ := readNum_ok h3
      simp only [List.length_drop] at b3
      cases h
      refine ⟨by omega, by omega, ?_, ?_⟩ <;> (dsimp only; omega)
/-- the parts that the index says -/
def partsF (x : List UInt8) (left : Nat) : Option (List (ByteArray × Nat)) :=
  if hx : x = [] then (if left = 0 then some [] else none) else
  match h : entR x left with
  | none => none
  | some (p, n) => (partsF (x.drop n) (left - p.2)).map (p :: ·)
termination_by x.length
decreasing_by
  have := entR_ok h
  have : 0 < x.length := List.length_pos_iff.2 hx
  rw [List.length_drop]
  omega
theorem partsF_nil (left : Nat) : partsF [] left = if left = 0 then some [] else none := by rw [partsF]; simp
theorem partsF_none {x : List UInt8} {left : Nat} (hx : x ≠ []) (h : entR x left = none) : partsF x left = none := by
  rw [partsF, dif_neg hx]
  split
  · rfl
  · rename_i h'; rw [h] at h'; cases h'
theorem partsF_some {x : List UInt8} {left : Nat} (hx : x ≠ []) {p : ByteArray × Nat} {n : Nat} (h : entR x left = some (p, n)) : partsF x left = (partsF (x.drop n) (left - p.2)).map (p :: ·) := by
  rw [partsF, dif_neg hx]
  split
  · rename_i h'; rw [h] at h'; cases h'
  · rename_i h'
    rw [h] at h'
    cases h'
    rfl
/-- one block: its facts, or what is wrong with it -/
def oneF (k : ByteArray) (b : List UInt8) : List Fc × Nat :=
  match unF b with
  | none => ([], 23)
  | some x => match fcsF x with
    | some (f :: l) => if f.1 = k then (f :: l, 0) else ([], 24)
    | _ => ([], 24)
/-- block by block -/
def goF : List (ByteArray × Nat) → List UInt8 → List Fc × Nat
  | [], _ => ([], 0)
  | (k, n) :: ps, b => if (oneF k (b.take n)).2 ≠ 0 then ([], (oneF k (b.take n)).2) else
    if (goF ps (b.drop n)).2 ≠ 0 then ([], (goF ps (b.drop n)).2) else ((oneF k (b.take n)).1 ++ (goF ps (b.drop n)).1, 0)
/-- a table is read -/
def openF (b : List UInt8) : List Fc × Nat :=
  if b.length < 12 then ([], 21) else
  let m := b.length - 12
  let t := b.drop m
  if leNat ((t.drop 8).take 4) ≠ sumOf (t.take 8) then ([], 23) else
  let n := leNat (t.take 4)
  if m < n then ([], 21) else
  match unF ((b.take m).drop (m - n)) with
  | none => ([], 23)
  | some x => match partsF x (m - n) with
    | none => ([], 24)
    | some ps => if (goF ps (b.take (m - n))).2 ≠ 0 then ([], (goF ps (b.take (m - n))).2) else
      if (goF ps (b.take (m - n))).1.length = leNat ((t.drop 4).take 4) ∧ rightF (goF ps (b.take (m - n))).1 = true then ((goF ps (b.take (m - n))).1, 0) else ([], 24)
end Go.Proofs.Ytghcfmkmndldoaa
