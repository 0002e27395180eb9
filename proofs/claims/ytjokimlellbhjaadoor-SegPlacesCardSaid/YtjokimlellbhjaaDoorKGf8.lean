/-
  Matrices that are only read: few, Same, Right.
-/
import Derived.Test.YtjokimlellbhjaaDoorKGf4
import Derived.Test.YtjokimlellbhjaaDoorZText
import Derived.Lib.Strings
namespace Go.Proofs.YtjokimlellbhjaaDoor
open Go.RowKit

set_option maxRecDepth 20000
/-- THE SLICE OF SLICES AT A READS AS M, and lies below block B. -/
def RM (w : World) (B : Nat) (A : Option Addr) (M : List (List UInt8)) : Prop :=
  ∀ (k : Nat) (l : List UInt8), M[k]? = some l → ∃ (b o : Nat) (A' : Option Addr) (c : Nat), A = some ⟨b, o, none⟩ ∧ b < B ∧ w.cell? ⟨b, o + k, none⟩ = some (.slice A' l.length c) ∧ RB w B A' l ∧ l.length ≤ c
section
variable {w w' : World} {B : Nat} {A : Option Addr} {M : List (List UInt8)}
theorem RM.below (h : RM w B A M) (hb : Below B w w') : RM w' B A M := fun k l hl => by
  obtain ⟨b, o, A', c, e, hlt, hc, hr, hcap⟩ := h k l hl
  exact ⟨b, o, A', c, e, hlt, (hb.cell (p := ⟨b, o + k, none⟩) hlt).trans hc, hr.below hb, hcap⟩
theorem RM.wide {B' : Nat} (h : RM w B A M) (hB : B ≤ B') : RM w B' A M := fun k l hl => by
  obtain ⟨b, o, A', c, e, hlt, hc, hr, hcap⟩ := h k l hl
  exact ⟨b, o, A', c, e, by omega, hc, hr.wide hB, hcap⟩
theorem RM.drewN (h : RM w B A M) (n : Nat) : RM (w.drewN n) B A M := h
/-- where it begins -/
theorem RM.at_ (h : RM w B A M) (h0 : 0 < M.length) : ∃ b o, A = some ⟨b, o, none⟩ ∧ b < B := by
  obtain ⟨b, o, _, _, e, hlt, _⟩ := h 0 _ (List.getElem?_eq_getElem h0)
  exact ⟨b, o, e, hlt⟩
theorem RM.row {b o : Nat} (h : RM w B (some ⟨b, o, none⟩) M) {k : Nat} {l : List UInt8} (hl : M[k]? = some l) : ∃ A' c, w.cell? ⟨b, o + k, none⟩ = some (.slice A' l.length c) ∧ RB w B A' l ∧ l.length ≤ c := by
  obtain ⟨b', o', A', c, e, hlt, hc, hr, hcap⟩ := h k l hl
  cases e
  exact ⟨A', c, hc, hr, hcap⟩
theorem RM.nil (w : World) (B : Nat) (A : Option Addr) : RM w B A [] := fun k l hl => by simp at hl
theorem MatO.rm {lo hi : Nat} {v : Value} (h : MatO w lo hi v M) : ∃ A c, v = .slice A M.length c ∧ M.length ≤ c ∧ RM w w.heap.size A M := by
  by_cases h0 : 0 < M.length
  · obtain ⟨g, c, rfl, hc, _, _, hlt, _⟩ := h.head h0
    refine ⟨_, c, rfl, hc, fun k l hl => ?_⟩
    obtain ⟨b, c', hr, _⟩ := h.row hl
    exact ⟨g, 0, some ⟨b, 0, none⟩, c', rfl, hlt, by rw [Nat.zero_add]; exact hr.head, fun j x hx => ⟨_, rfl, hr.lt, by rw [add_flat, Nat.zero_add]; exact hr.cells j x hx⟩, hr.cap⟩
  · obtain ⟨A, c, hv, hc, _⟩ := h.rbb
    exact ⟨A, c, hv, hc, fun k l hl => by have := (List.getElem?_eq_some_iff.1 hl).1; omega⟩
end

def bulkM (M : List (List UInt8)) : Nat := (M.map fun l => 1 + l.length).sum
def fewM (M : List (List UInt8)) : Bool := decide (bulkM M ≤ 2000)
theorem bulkM_take (M : List (List UInt8)) (k : Nat) (l : List UInt8) (h : M[k]? = some l) : bulkM (M.take (k + 1)) = bulkM (M.take k) + 1 + l.length := by
  have hk := (List.getElem?_eq_some_iff.1 h).1
  have hx := (List.getElem?_eq_some_iff.1 h).2
  unfold bulkM
  rw [List.take_succ_eq_append_getElem hk, hx]
  simp [Nat.add_assoc]
def rightB (M : List (List UInt8)) : Bool := decide (1 ≤ M.length ∧ M.length ≤ 255 ∧ 1 ≤ (M.headD []).length ∧ (M.headD []).length ≤ 255 ∧ ∀ l ∈ M, l.length = (M.headD []).length)
theorem head_get {M : List (List UInt8)} (h : 0 < M.length) : M[0]? = some (M.headD []) := by
  cases M with
  | nil => simp at h
  | cons a t => rfl
/-- a right matrix, in numbers -/
theorem right_facts {M : List (List UInt8)} (h : rightB M = true) : ∃ n, 1 ≤ M.length ∧ M.length ≤ 255 ∧ 1 ≤ n ∧ n ≤ 255 ∧ M[0]? = some (M.headD []) ∧ (M.headD []).length = n ∧ ∀ (k : Nat) (l : List UInt8), M[k]? = some l → l.length = n := by
  obtain ⟨h1, h2, h3, h4, h5⟩ := of_decide_eq_true h
  exact ⟨_, h1, h2, h3, h4, head_get h1, rfl, fun k l hl => h5 l (List.mem_of_getElem? hl)⟩
theorem eq_text (a b : ByteArray) : (a.toList == b.toList) = decide (a = b) := by
  rw [Bool.eq_iff_iff]
  simp only [beq_iff_eq, decide_eq_true_eq]
  constructor
  · intro h
    rw [Lib.toList_data, Lib.toList_data] at h
    exact ByteArray.ext (Array.toList_inj.1 h)
  · intro h; rw [h]
theorem eql_str_conv (w : World) (B : Nat) (A : Option Addr) (l : List UInt8) (c : Nat) (hr : RB w B A l) : ∀ q, (convert 25 9 (.slice A l.length c)).run Tryd.prog (w.drewN q) = .ok (.string ⟨l.toArray⟩) (w.drewN q) := fun q => text_run (w.drewN q) B A l c (hr.drewN q)
end Go.Proofs.YtjokimlellbhjaaDoor

/-
  Is a matrix right? Both programs'.
-/
namespace Go.Proofs.YtjokimlellbhjaaDoor
open Go.RowKit

set_option maxRecDepth 20000
end Go.Proofs.YtjokimlellbhjaaDoor
