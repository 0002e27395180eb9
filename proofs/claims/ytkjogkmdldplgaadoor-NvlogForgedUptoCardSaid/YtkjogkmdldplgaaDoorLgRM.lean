/-
  Slices of slices of bytes that are read.
-/
import Derived.Test.YtkjogkmdldplgaaDoorOwnV
namespace Go.Proofs.YtkjogkmdldplgaaDoor
open Go.RowKit
set_option maxRecDepth 20000
/-- THE SLICE OF SLICES AT A READS AS M, and lies below block B. -/
def RM (w : World) (B : Nat) (A : Option Addr) (M : List (List UInt8)) : Prop :=
  ∀ (k : Nat) (l : List UInt8), M[k]? = some l → ∃ (b o : Nat) (A' : Option Addr) (c : Nat), A = some ⟨b, o, none⟩ ∧ b < B ∧ w.cell? ⟨b, o + k, none⟩ = some (.slice A' l.length c) ∧ RB w B A' l ∧ l.length ≤ c
section
variable {w w' : World} {B : Nat} {A : Option Addr} {M : List (List UInt8)}
theorem RM.below (h : RM w B A M) (hb : Below B w w') : RM w' B A M := fun k l hl => by
  obtain ⟨b, o, A', c, e, hlt, hc, hr, hcap⟩ := h k l hl
  exact ⟨b, o, A', c, e, hlt, (hb.cell (p := ⟨b, o + k, none⟩) hlt).trans hc, hr.below hb, hcap⟩
theorem RM.wide {B' : Nat} (h : RM w B A M) (hB : B ≤ B') : RM w B' A M := fun k l hl => by
  obtain ⟨b, o, A', c, e, hlt, hc, hr, hcap⟩ := h k l hl
  exact ⟨b, o, A', c, e, by omega, hc, hr.wide hB, hcap⟩
theorem RM.drewN (h : RM w B A M) (n : Nat) : RM (w.drewN n) B A M := h
/-- where it begins -/
theorem RM.at_ (h : RM w B A M) (h0 : 0 < M.length) : ∃ b o, A = some ⟨b, o, none⟩ ∧ b < B := by
  obtain ⟨b, o, _, _, e, hlt, _⟩ := h 0 _ (List.getElem?_eq_getElem h0)
  exact ⟨b, o, e, hlt⟩
theorem RM.row {b o : Nat} (h : RM w B (some ⟨b, o, none⟩) M) {k : Nat} {l : List UInt8} (hl : M[k]? = some l) : ∃ A' c, w.cell? ⟨b, o + k, none⟩ = some (.slice A' l.length c) ∧ RB w B A' l ∧ l.length ≤ c := by
  obtain ⟨b', o', A', c, e, hlt, hc, hr, hcap⟩ := h k l hl
  cases e
  exact ⟨A', c, hc, hr, hcap⟩
theorem RM.nil (w : World) (B : Nat) (A : Option Addr) : RM w B A [] := fun k l hl => by simp at hl
end
end Go.Proofs.YtkjogkmdldplgaaDoor
