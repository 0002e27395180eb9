/-
  A text cut into runes and bytes of none; runes, folding, quoting, as plain lists.
-/
import Derived.Test.YtncaaiaffioegaaDoorNUtf
set_option linter.unusedSimpArgs false
namespace Go.Proofs.YtncaaiaffioegaaDoor

/-- a stretch of a text: a rune's bytes, or one byte of none -/
structure Seg where
  bs : List UInt8
  v : Nat
  ok : Bool
def seg (l : List UInt8) : Seg := ⟨l.take (dec l).2, (dec l).1, (one l).2 != 0⟩
def segs : Nat → List UInt8 → List Seg
  | 0, _ => []
  | f + 1, l => if l.length = 0 then [] else seg l :: segs f (l.drop (dec l).2)
def segsOf (l : List UInt8) : List Seg := segs l.length l

theorem segs_fuel (f : Nat) : ∀ l : List UInt8, l.length ≤ f → segs f l = segsOf l := by
  induction f using Nat.strongRecOn with
  | ind f ih =>
    intro l h
    cases f with
    | zero =>
      have : l.length = 0 := by omega
      unfold segsOf
      rw [this]
    | succ f =>
      cases hn : l.length with
      | zero => unfold segsOf; rw [hn]; simp [segs, hn]
      | succ n =>
        have hp := dec_pos l
        have hd : (l.drop (dec l).2).length ≤ n := by rw [List.length_drop]; omega
        unfold segsOf
        rw [hn]
        simp only [segs, hn]
        rw [if_neg (by omega), if_neg (by omega), ih f (by omega) _ (by omega)]
        by_cases hnf : n < f + 1
        · rw [ih n hnf _ hd]
        · obtain rfl : n = f := by omega
          rw [ih n (by omega) _ hd]
theorem segsOf_nil : segsOf [] = [] := rfl
theorem segsOf_cons (l : List UInt8) (h : l ≠ []) : segsOf l = seg l :: segsOf (l.drop (dec l).2) := by
  have hl : 0 < l.length := List.length_pos_iff.2 h
  obtain ⟨n, hn⟩ : ∃ n, l.length = n + 1 := ⟨l.length - 1, by omega⟩
  have hp := dec_pos l
  conv => lhs; unfold segsOf
  rw [hn]
  simp only [segs]
  rw [if_neg (by omega), segs_fuel n _ (by rw [List.length_drop]; omega)]

/-- what a stretch is -/
inductive Seg.Good : Seg → Prop
  | low (x : UInt8) (h : x.toNat < 128) : Seg.Good ⟨[x], x.toNat, true⟩
  | high (bs : List UInt8) (v : Nat) (h2 : 2 ≤ bs.length) (h4 : bs.length ≤ 4) (hv : 128 ≤ v) (hm : v ≤ 1114111) (hs : v < 55296 ∨ 57344 ≤ v) (hb : ∀ x ∈ bs, 128 ≤ x.toNat) (he : Lib.encodeRune (v : Int) = bs) : Seg.Good ⟨bs, v, true⟩
  | torn (x : UInt8) (h : 128 ≤ x.toNat) : Seg.Good ⟨[x], 65533, false⟩

theorem seg_good (l : List UInt8) (h : l ≠ []) : (seg l).Good := by
  obtain ⟨f1, f2, f3, f4, f5, f6, f7, f8⟩ := one_facts l
  have hl : 0 < l.length := List.length_pos_iff.2 h
  obtain ⟨x, r, rfl⟩ : ∃ x r, l = x :: r := by cases l with | nil => exact absurd rfl h | cons x r => exact ⟨x, r, rfl⟩
  have hx : at0 (x :: r) 0 = x.toNat := rfl
  by_cases h0 : (one (x :: r)).2 = 0
  · have e : seg (x :: r) = ⟨[x], 65533, false⟩ := by simp [seg, dec, h0]
    rw [e]
    refine Seg.Good.torn x ?_
    rcases Nat.lt_or_ge x.toNat 128 with hlt | hge
    · have := f6.2 ⟨h, hlt⟩
      omega
    · exact hge
  · by_cases h1 : (one (x :: r)).2 = 1
    · have e : seg (x :: r) = ⟨[x], x.toNat, true⟩ := by simp [seg, dec, h1, f7 h1, hx]
      rw [e]
      exact Seg.Good.low x (f6.1 h1).2
    · have e : seg (x :: r) = ⟨(x :: r).take (one (x :: r)).2, (one (x :: r)).1, true⟩ := by simp [seg, dec, h0]
      rw [e]
      obtain ⟨g1, g2⟩ := f8 (by omega)
      refine Seg.Good.high _ _ (by rw [List.length_take]; omega) (by rw [List.length_take]; omega) g1 f3 (f4 h0) (fun y hy => ?_) (encode_one _ h0)
      obtain ⟨k, hk, rfl⟩ := List.mem_iff_getElem.1 hy
      rw [List.length_take] at hk
      have := g2 k (by omega)
      rw [List.getElem_take]
      unfold at0 at this
      rw [List.getD_eq_getElem?_getD, List.getElem?_eq_getElem (by omega)] at this
      exact this

/-- induction along the stretches -/
theorem seg_ind {P : List UInt8 → Prop} (h0 : P []) (h1 : ∀ l, l ≠ [] → P (l.drop (dec l).2) → P l) : ∀ l, P l := by
  intro l
  generalize hn : l.length = n
  induction n using Nat.strongRecOn generalizing l with
  | ind n ih =>
    by_cases h : l = []
    · rw [h]; exact h0
    · refine h1 l h (ih _ ?_ _ rfl)
      have hp := dec_pos l
      have hl : 0 < l.length := List.length_pos_iff.2 h
      rw [List.length_drop]
      omega
theorem segsOf_good (l : List UInt8) : ∀ s ∈ segsOf l, s.Good := by
  refine seg_ind (P := fun l => ∀ s ∈ segsOf l, s.Good) ?_ ?_ l
  · intro s hs; cases hs
  · intro l h ih s hs
    rw [segsOf_cons l h] at hs
    rcases List.mem_cons.1 hs with rfl | hs
    · exact seg_good l h
    · exact ih s hs
theorem segsOf_bytes (l : List UInt8) : (segsOf l).flatMap Seg.bs = l := by
  refine seg_ind (P := fun l => (segsOf l).flatMap Seg.bs = l) rfl ?_ l
  intro l h ih
  rw [segsOf_cons l h, List.flatMap_cons, ih]
  exact List.take_append_drop _ _

/-! ### Runes -/
def runesOf (l : List UInt8) : Option (List Nat) := if (segsOf l).all Seg.ok then some ((segsOf l).map Seg.v) else none
theorem runesOf_nil : runesOf [] = some [] := rfl
theorem runesOf_torn (l : List UInt8) (h : l ≠ []) (h0 : (one l).2 = 0) : runesOf l = none := by
  unfold runesOf
  rw [segsOf_cons l h]
  simp [seg, h0]
theorem runesOf_more (l : List UInt8) (h : l ≠ []) (h0 : (one l).2 ≠ 0) : runesOf l = (runesOf (l.drop (one l).2)).map ((one l).1 :: ·) := by
  have e : (dec l).2 = (one l).2 := by unfold dec; rw [if_neg h0]
  have e1 : (dec l).1 = (one l).1 := by unfold dec; rw [if_neg h0]
  unfold runesOf
  rw [segsOf_cons l h, e]
  have e2 : (seg l).ok = true := by simp [seg, h0]
  have e3 : (seg l).v = (one l).1 := by simp [seg, e1]
  simp only [List.all_cons, e2, Bool.true_and, List.map_cons, e3]
  split <;> rfl

/-! ### Fold -/
def foldB (x : UInt8) : UInt8 := if 65 ≤ x.toNat ∧ x.toNat ≤ 90 then x + 32 else x
def foldL (l : List UInt8) : List UInt8 := l.map foldB
theorem foldB_val (x : UInt8) : (foldB x).toNat = if 65 ≤ x.toNat ∧ x.toNat ≤ 90 then x.toNat + 32 else x.toNat := by
  unfold foldB
  have := x.toNat_lt
  split
  · rw [UInt8.toNat_add]
    show (x.toNat + 32) % 256 = _
    omega
  · rfl
theorem foldB_twice (x : UInt8) : foldB (foldB x) = foldB x := by
  have h := foldB_val x
  apply UInt8.toNat_inj.1
  rw [foldB_val, h]
  split <;> (try split) <;> omega
theorem foldB_high (x : UInt8) (h : 128 ≤ x.toNat) : foldB x = x := by
  unfold foldB
  rw [if_neg (by omega)]

/-! ### Quote -/
def hexd (n : Nat) : UInt8 := if n < 10 then UInt8.ofNat (48 + n) else UInt8.ofNat (87 + n)
def qhex (x : UInt8) : List UInt8 := [92, 120, hexd (x.toNat / 16), hexd (x.toNat % 16)]
/-- how a stretch is written in a quoted text -/
def qp (s : Seg) : List UInt8 :=
  if s.v = 34 ∨ s.v = 92 then [92, UInt8.ofNat s.v]
  else if s.v < 32 ∨ s.v = 127 ∨ s.ok = false then qhex (s.bs.getD 0 0)
  else s.bs
def quoteL (l : List UInt8) : List UInt8 := 34 :: ((segsOf l).flatMap qp ++ [34])
theorem qp_le (s : Seg) (h : s.Good) : (qp s).length ≤ 4 * s.bs.length := by
  unfold qp
  cases h <;> (repeat' split) <;> simp [qhex] <;> omega
theorem quote_le (l : List UInt8) : (quoteL l).length ≤ 4 * l.length + 2 := by
  have : ((segsOf l).flatMap qp).length ≤ 4 * l.length := by
    refine seg_ind (P := fun l => ((segsOf l).flatMap qp).length ≤ 4 * l.length) (by simp [segsOf_nil]) ?_ l
    intro l h ih
    have hd := dec_le l h
    have h1 := qp_le _ (seg_good l h)
    have h2 : (seg l).bs.length = (dec l).2 := by simp only [seg, List.length_take]; omega
    rw [segsOf_cons l h, List.flatMap_cons, List.length_append]
    rw [List.length_drop] at ih
    omega
  unfold quoteL
  simp only [List.length_cons, List.length_append, List.length_nil]
  omega
end Go.Proofs.YtncaaiaffioegaaDoor
