/-
  NvramPlays, walked.
-/
import Derived.Test.YtoeeppecinjiiaaNv23
import Derived.Deep.DeepCutAuto
import Derived.Deep.QuietTactic
import Derived.BigQuiet
namespace Go.Proofs.Ytoeeppecinjiiaa
open Go.RowKit

set_option maxRecDepth 20000
def w8 (off : Bool) : Nat := if off then 8 else 0
def bad1 (op : Int) (off fit : Bool) : Bool := decide (op = 1) && (!off && !fit)
def wa1 (b off : Bool) : Nat := if b then 1 else w8 off
def hit1 (op : Int) (want armed : Nat) : Bool := (decide (op = 1) || decide (op = 2)) && (decide (want = 0) && decide (0 < armed))
def act12 (op : Int) : Bool := decide (op = 1) || decide (op = 2)
theorem Pl.bel {w0 w : World} {pw nv rd N k : Nat} {off : Bool} {armed : Nat} {picks : List Int} (h : Pl w0 pw nv rd N k off armed picks w) : Below w0.heap.size w0 w := by
  obtain ⟨P, D, R, h1, _⟩ := h
  exact h1.bel
/-- behind the law's reckoning -/
def MidS (w0 Wb : World) (bx pw nv rd N k : Nat) (x : PAct) (picks : List Int) (a want : Nat) (off : Bool) (w : World) : Prop :=
  MidX w0 Wb bx pw nv rd N k x want off a picks w ∧ a ≤ 9223372036854775807
/-- the law's reckoning: the ways that don't cut -/
theorem mids_plain {w0 Wb w : World} {bx pw nv rd N k armed : Nat} {off : Bool} {picks : List Int} {x : PAct} (h : PlX w0 Wb bx pw nv rd N k off armed picks w) (ha : armed ≤ 9223372036854775807)
    (hh : hit1 x.op (wa1 (bad1 x.op off (hasB N x.place (x.bytes.length : Int))) off) armed = false) :
    MidS w0 Wb bx pw nv rd N k x picks armed (wa1 (bad1 x.op off (hasB N x.place (x.bytes.length : Int))) off) off w := by
  refine ⟨?_, ha⟩
  by_cases h1 : x.op = 1
  · cases off
    · cases hf : hasB N x.place (x.bytes.length : Int)
      · have e : wa1 (bad1 x.op false false) false = 1 := by simp [wa1, bad1, h1]
        rw [e]
        exact h.misfit ha h1 hf
      · have e : wa1 (bad1 x.op false true) false = 0 := by simp [wa1, bad1, w8]
        rw [hf, e] at hh
        rw [e]
        have h0 : armed = 0 := by
          unfold hit1 at hh
          rw [h1] at hh
          simpa using hh
        have := h.goes ha (.inl ⟨h1, hf⟩) (by omega)
        rw [h0] at this ⊢
        exact this
    · have e : wa1 (bad1 x.op true (hasB N x.place (x.bytes.length : Int))) true = 8 := by simp [wa1, bad1, w8]
      rw [e]
      exact h.down ha (.inl h1)
  · by_cases h2 : x.op = 2
    · have eb : bad1 x.op off (hasB N x.place (x.bytes.length : Int)) = false := by simp [bad1, h1]
      rw [eb] at hh ⊢
      cases off
      · have e : wa1 false false = 0 := rfl
        rw [e] at hh ⊢
        have h0 : armed = 0 := by
          unfold hit1 at hh
          rw [h2] at hh
          simpa using hh
        have := h.goes ha (.inr h2) (by omega)
        rw [h0] at this ⊢
        exact this
      · have e : wa1 false true = 8 := rfl
        rw [e]
        exact h.down ha (.inr h2)
    · exact h.other ha h1 h2 _
theorem hit_facts {N : Nat} {x : PAct} {off : Bool} {armed : Nat} (hh : hit1 x.op (wa1 (bad1 x.op off (hasB N x.place (x.bytes.length : Int))) off) armed = true) :
    off = false ∧ 0 < armed ∧ wa1 (bad1 x.op off (hasB N x.place (x.bytes.length : Int))) off = 0 ∧ (x.op = 1 ∧ hasB N x.place (x.bytes.length : Int) = true ∨ x.op = 2) := by
  unfold hit1 at hh
  simp only [Bool.and_eq_true, Bool.or_eq_true, decide_eq_true_eq] at hh
  obtain ⟨h1, h2, h3⟩ := hh
  have ho : off = false := by
    cases off
    · rfl
    · exfalso
      unfold wa1 w8 at h2
      split at h2 <;> simp at h2
  subst ho
  refine ⟨rfl, h3, h2, ?_⟩
  rcases h1 with h1 | h1
  · refine .inl ⟨h1, ?_⟩
    cases hf : hasB N x.place (x.bytes.length : Int)
    · rw [hf] at h2
      simp [wa1, bad1, h1] at h2
    · rfl
  · exact .inr h1
/-- behind the switch -/
def End (w0 Wb : World) (bx pw nv rd N k : Nat) (x : PAct) (want got a np : Nat) (off : Bool) (A : Option Addr) (w : World) : Prop :=
  ∃ picks : List Int, PlX w0 Wb bx pw nv rd N (k + 1) off a picks w ∧ a ≤ 9223372036854775807 ∧ np = picks.length ∧ RI w0 w0.heap.size A picks ∧ picks.length ≤ 1048576 ∧ got = if act12 x.op then want else 0
/-- at the loop's head -/
def Head (w0 : World) (pw nv rd N k a np : Nat) (off : Bool) (A : Option Addr) (w : World) : Prop :=
  ∃ picks : List Int, Pl w0 pw nv rd N k off a picks w ∧ np = picks.length ∧ RI w0 w0.heap.size A picks ∧ picks.length ≤ 1048576

theorem few_facts {l : List PAct} (h : fewB l = true) : l.length ≤ 300 ∧ ∀ (k : Nat) (x : PAct), l[k]? = some x → x.bytes.length ≤ 5000 ∧ x.picks.length ≤ 5000 := by
  obtain ⟨h1, h2⟩ := of_decide_eq_true h
  refine ⟨h1, fun k x hx => ?_⟩
  have e := sumLens_take l k x hx
  have : sumLens l = sumLens (l.take (k + 1)) + sumLens (l.drop (k + 1)) := by
    unfold sumLens
    rw [← List.sum_append, ← List.map_append, List.take_append_drop]
  omega
end Go.Proofs.Ytoeeppecinjiiaa
