/-
  What an opened table holds (plain), and a table as Open hands it over.
-/
import Derived.Test.YtghcfmkmndldoaaDoorKFa54
import Derived.Test.YtghcfmkmndldoaaDoorKFa46
import Derived.Test.YtghcfmkmndldoaaDoorKFa35
namespace Go.Proofs.YtghcfmkmndldoaaDoor
open Go.RowKit Go.Sort Go.Lib

theorem fcsF_vals : ∀ (n : Nat) (b : List UInt8) (l : List Fc), b.length ≤ n → fcsF b = some l → ∀ f ∈ l, f.2.2.length ≤ 1048576
  | 0, b, l, hn, h => by
    have : b = [] := List.eq_nil_of_length_eq_zero (by omega)
    subst this
    rw [fcsF_nil] at h
    cases h
    exact fun f hf => by cases hf
  | n + 1, b, l, hn, h => by
    by_cases hb : b = []
    · subst hb
      rw [fcsF_nil] at h
      cases h
      exact fun f hf => by cases hf
    · cases hr : rdF b with
      | none => rw [fcsF_none hb hr] at h; cases h
      | some p =>
        obtain ⟨f, m⟩ := p
        rw [fcsF_some hb hr] at h
        have h1 := rdF_ok hr
        cases hq : fcsF (b.drop m) with
        | none => rw [hq] at h; cases h
        | some l' =>
          rw [hq] at h
          have := fcsF_vals n (b.drop m) l' (by rw [List.length_drop]; omega) hq
          cases h
          intro u hu
          rcases List.mem_cons.1 hu with rfl | hu
          · exact h1.2.2.2.2.2.2.1
          · exact this u hu
theorem oneF_vals (k : ByteArray) (x : List UInt8) : ∀ f ∈ (oneF k x).1, f.2.2.length ≤ 1048576 := by
  unfold oneF
  split
  · exact fun f hf => by cases hf
  · rename_i y hy
    split
    · rename_i f l hf
      split
      · exact fcsF_vals _ y _ (Nat.le_refl _) hf
      · exact fun f hf => by cases hf
    · exact fun f hf => by cases hf
theorem goF_facts : ∀ (ps : List (ByteArray × Nat)) (b : List UInt8), (goF ps b).1.length ≤ b.length ∧ ∀ f ∈ (goF ps b).1, f.2.2.length ≤ 1048576
  | [], b => ⟨Nat.zero_le _, fun f hf => by cases hf⟩
  | (k, n) :: ps, b => by
    have h1 := oneF_len k (b.take n)
    have h2 := oneF_vals k (b.take n)
    have h3 := goF_facts ps (b.drop n)
    unfold goF
    split
    · exact ⟨Nat.zero_le _, fun f hf => by cases hf⟩
    · split
      · exact ⟨Nat.zero_le _, fun f hf => by cases hf⟩
      · refine ⟨?_, fun f hf => ?_⟩
        · rw [List.length_append]
          have h4 := h3.1
          rw [List.length_drop] at h4
          rw [List.length_take] at h1
          omega
        · rcases List.mem_append.1 hf with hf | hf
          · exact h2 f hf
          · exact h3.2 f hf
theorem openF_facts (b : List UInt8) : (openF b).1.length ≤ b.length ∧ (∀ f ∈ (openF b).1, f.2.2.length ≤ 1048576) ∧ (openF b).1.Pairwise Ahead := by
  have hz : ([] : List Fc).length ≤ b.length ∧ (∀ f ∈ ([] : List Fc), f.2.2.length ≤ 1048576) ∧ ([] : List Fc).Pairwise Ahead := ⟨Nat.zero_le _, (fun f hf => by cases hf), List.Pairwise.nil⟩
  unfold openF
  dsimp only
  split
  · exact hz
  · split
    · exact hz
    · split
      · exact hz
      · split
        · exact hz
        · split
          · exact hz
          · rename_i ps _
            split
            · exact hz
            · split
              · rename_i hq
                have h1 := goF_facts ps (b.take (b.length - 12 - leNat ((b.drop (b.length - 12)).take 4)))
                refine ⟨?_, h1.2, rightF_pair.1 hq.2⟩
                have := h1.1
                rw [List.length_take] at this
                dsimp only
                omega
              · exact hz
/-- a table as Open hands it over -/
theorem TabL.of_open {w w' : World} {b : List UInt8} {v : Value} (h : OpenP w w' v (openF b)) (h0 : (openF b).2 = 0) (hl : b.length ≤ 1099511627776) : ∃ g A c, v = .pointer (some ⟨g, 0, none⟩) ∧ w.heap.size ≤ g ∧ TabL w' g A c (openF b).1 := by
  obtain ⟨g, u, rfl, hg, hg', ht, ho⟩ := h.2 h0
  obtain ⟨q1, q2, q3⟩ := openF_facts b
  obtain ⟨A, c, rfl, hc, hA, hr, _⟩ := RowO.rd ho
  refine ⟨g, A, c, rfl, hg, ⟨ht, by omega, hc, hA, ?_, q3, hr, fun f hf => by have := q2 f hf; omega⟩⟩
  obtain ⟨ps, e, hrow, _⟩ := ho
  intro ad ead
  rcases hrow.2 with ⟨e1, _⟩ | ⟨g', cap, cur, e1, _⟩
  · injection e1 with e2
    rw [e2] at ead
    cases ead
  · injection e1 with e2
    rw [e2] at ead
    cases ead
    exact ⟨_, _, rfl⟩
end Go.Proofs.YtghcfmkmndldoaaDoor
