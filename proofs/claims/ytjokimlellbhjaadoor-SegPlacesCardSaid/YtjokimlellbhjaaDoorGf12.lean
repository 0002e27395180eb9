/-
  GfMakes, walked.
-/
import Derived.Test.YtjokimlellbhjaaDoorKGf10
namespace Go.Proofs.YtjokimlellbhjaaDoor
open Go.RowKit

set_option maxRecDepth 20000
/-- a matrix is told, with a code -/
def Tells (w : World) (L : List (List UInt8)) (code : Nat) (e : Ending) (w' : World) : Prop :=
  ∃ A c, e = .returned (.tuple #[.slice A L.length c, .int .i64 (code : Int)]) ∧ RM w' w'.heap.size A L ∧ L.length ≤ c ∧ Below w.heap.size w w'
def unitL (n : Int) : List (List UInt8) := if 1 ≤ n ∧ n ≤ 255 then unitM n.toNat else []
def pairsL (n : Int) : List (List UInt8) := if 1 ≤ n ∧ n ≤ 255 then pairsM n.toNat else []
def sizeC (n : Int) : Nat := if 1 ≤ n ∧ n ≤ 255 then 0 else 1
theorem tells_bad {w : World} {f : FuncId} {args : Array Value} (h : Calls Tryd.prog f args w fun e w' => e = .returned (.tuple #[.slice none 0 0, .int .i64 1]) ∧ w = w') : Calls Tryd.prog f args w (Tells w [] 1) :=
  h.mono fun e w' ⟨he, hw⟩ => ⟨none, 0, he, RM.nil _ _ _, Nat.le_refl _, by rw [← hw]; exact Below.refl _ _⟩
theorem madeE_tells {w : World} {L : List (List UInt8)} {e : Ending} {w' : World} (h : MadeE w L e w') : Tells w L 0 e w' := by
  obtain ⟨A, c, he, hm, hb⟩ := h
  obtain ⟨A', c', e2, hc, hr⟩ := hm.rm
  cases e2
  exact ⟨A, c, he, hr, hc, hb⟩
theorem pairs_tells (n : Int) (w : World) : Calls Tryd.prog 64 #[.int .i64 n] w (Tells w (pairsL n) (sizeC n)) := by
  unfold pairsL sizeC
  by_cases h : 1 ≤ n ∧ n ≤ 255
  · rw [if_pos h, if_pos h]
    obtain ⟨m, rfl⟩ : ∃ m : Nat, n = (m : Int) := ⟨n.toNat, by omega⟩
    refine (pairs_any m w (by omega) (by omega)).mono fun e w' ⟨g, he, hm, hb⟩ => ?_
    rw [Int.toNat_natCast]
    exact madeE_tells ⟨some ⟨g, 0, none⟩, 2, he, hm, hb⟩
  · rw [if_neg h, if_neg h]
    exact tells_bad (pairs_bad n w (by omega))
theorem unitL_len (n : Int) : (unitL n).length ≤ 1048576 := by
  unfold unitL
  split
  · rw [unitM_length]; omega
  · simp
theorem pairsL_len (n : Int) : (pairsL n).length ≤ 1048576 := by
  unfold pairsL
  split <;> simp [pairsM]
end Go.Proofs.YtjokimlellbhjaaDoor
