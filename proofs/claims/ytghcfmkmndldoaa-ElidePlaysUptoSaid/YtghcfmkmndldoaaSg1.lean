/-
  Shapes: Check, Row, Room, of both programs.
-/
import Derived.Test.YtghcfmkmndldoaaKGet
import Derived.Test.YtghcfmkmndldoaaOwnV
import Derived.Deep.RegionHeld3
import Derived.StillTailTactics
import Derived.Sort.LotA
import Derived.Sort.Grow
namespace Go.Proofs.Ytghcfmkmndldoaa
open Go.RowKit Go.Sort Go.Lib

/-! worlds that only grew -/
def Gr (w w' : World) : Prop := ∃ q os, w' = grow (w.drewN q) os
theorem grow_drewN (w : World) (q : Nat) (os : Array Obj) : (grow w os).drewN q = grow (w.drewN q) os := rfl
theorem Gr.refl (w : World) : Gr w w := ⟨0, #[], by rw [grow_empty]; rfl⟩
theorem Gr.drewN (w : World) (q : Nat) : Gr w (w.drewN q) := ⟨q, #[], by rw [grow_empty]⟩
theorem Gr.alloc (w : World) (o : Obj) : Gr w (w.alloc o) := ⟨0, #[o], by rw [alloc_eq_grow]; rfl⟩
theorem Gr.trans {w w' w'' : World} (h : Gr w w') (k : Gr w' w'') : Gr w w'' := by
  obtain ⟨q, os, rfl⟩ := h
  obtain ⟨q', os', rfl⟩ := k
  exact ⟨q + q', os ++ os', by rw [grow_drewN, grow_grow, World.drewN_drewN]⟩
theorem Gr.below {w w' : World} (h : Gr w w') : Below w.heap.size w w' := by
  obtain ⟨q, os, rfl⟩ := h
  refine ⟨rfl, rfl, rfl, by simp [World.drewN], fun b hb => ?_⟩
  rw [heap_grow_old _ _ (by simpa [World.drewN] using hb)]
  rfl
/-! shapes -/
def shV (K P G : Int) : Value := .agg #[.int .i64 K, .int .i64 P, .int .i64 G]
def okS (K P G : Int) : Bool := decide (1 ≤ K ∧ K ≤ 32 ∧ 2 ≤ P ∧ P ≤ 4096 ∧ roomOf G ≠ 0)
def chkS (K P G : Int) : Int := if okS K P G = true then 0 else 1
def rowS (K P G : Int) : Int := if okS K P G = true then K * roomOf G else 0
def roomS (K P G : Int) : Int := rowS K P G * (P - 1)
theorem okS_facts {K P G : Int} (h : okS K P G = true) : 1 ≤ K ∧ K ≤ 32 ∧ 2 ≤ P ∧ P ≤ 4096 ∧ 13 ≤ roomOf G ∧ roomOf G ≤ 65535 ∧ 32 ≤ G ∧ G ≤ 65536 := by
  obtain ⟨h1, h2, h3, h4, h5⟩ := of_decide_eq_true h
  unfold roomOf at h5 ⊢
  by_cases q : G < 32 ∨ 65536 < G
  · rw [if_pos q] at h5; exact absurd rfl h5
  · rw [if_neg q] at h5 ⊢
    split <;> omega
theorem chkS_ok {K P G : Int} (h : okS K P G = true) : chkS K P G = 0 := if_pos h
theorem chkS_no {K P G : Int} (h : okS K P G = false) : chkS K P G = 1 := if_neg (by rw [h]; simp)
theorem rowS_ok {K P G : Int} (h : okS K P G = true) : rowS K P G = K * roomOf G := if_pos h
theorem rowS_no {K P G : Int} (h : okS K P G = false) : rowS K P G = 0 := if_neg (by rw [h]; simp)
theorem roomOf_ge (s : Int) : 0 ≤ roomOf s := by unfold roomOf; split; omega; split <;> omega
theorem rowS_bounds {K P G : Int} (h : okS K P G = true) : 13 ≤ rowS K P G ∧ rowS K P G ≤ 2097120 := by
  obtain ⟨h1, h2, _, _, h3, h4, _⟩ := okS_facts h
  rw [rowS_ok h]
  generalize roomOf G = C at *
  obtain ⟨k, rfl⟩ : ∃ k : Nat, K = (k : Int) := ⟨K.toNat, by omega⟩
  obtain ⟨c, rfl⟩ : ∃ c : Nat, C = (c : Int) := ⟨C.toNat, by omega⟩
  have h5 : 1 * 13 ≤ k * c := Nat.mul_le_mul (by omega) (by omega)
  have h6 : k * c ≤ 32 * 65535 := Nat.mul_le_mul (by omega) (by omega)
  constructor
  · have : ((13 : Nat) : Int) ≤ ((k * c : Nat) : Int) := by exact_mod_cast h5
    simpa using this
  · have : ((k * c : Nat) : Int) ≤ ((2097120 : Nat) : Int) := by exact_mod_cast h6
    simpa using this
section
set_option maxRecDepth 20000
set_option maxHeartbeats 800000
end
end Go.Proofs.Ytghcfmkmndldoaa
