/-
  A zone's pile of pages: its small methods, on the cells where it lies.
-/
import Derived.Test.YtdnlikhfemhmeaaOwnV
namespace Go.Proofs.Ytdnlikhfemhmeaa
open Go.RowKit

set_option maxRecDepth 20000 in
set_option maxHeartbeats 400000 in
theorem loose_any (g o : Nat) (A : Option Addr) (n c f : Nat) (w : World) (h0 : w.cell? ⟨g, o, none⟩ = some (.slice A n c)) (h1 : w.cell? ⟨g, o + 1, none⟩ = some (.int .i64 (f : Int)))
    (hf : f ≤ n) (hn : n ≤ 1048576) :
    Calls Try.prog 48 #[.pointer (some ⟨g, o, none⟩)] w fun e w' => e = .returned (.int .i64 ((n : Int) - (f : Int))) ∧ ∃ k, w' = w.drewN k := by
  have hw : IntKind.i64.wrap ((n : Int) - (f : Int)) = (n : Int) - (f : Int) := IntWalk.i64_in _ (by omega)
  go_enter Try.func48, Try.ntmps48
  go_wp2_with fail
  go_quiet (fail)
  go_wp2_with fail
  go_ret
  exact ⟨rfl, _, rfl⟩

set_option maxRecDepth 20000 in
set_option maxHeartbeats 400000 in
theorem pileHas_any (g o : Nat) (A : Option Addr) (n c : Nat) (k : Int) (w : World) (h0 : w.cell? ⟨g, o, none⟩ = some (.slice A n c)) :
    Calls Try.prog 40 #[.pointer (some ⟨g, o, none⟩), .int .i64 k] w fun e w' => e = .returned (.bool (decide (0 ≤ k ∧ k < (n : Int)))) ∧ w = w' := by
  by_cases hk : 0 ≤ k
  · have e : (decide (0 ≤ k ∧ k < (n : Int))) = decide (k < (n : Int)) := by simp [hk]
    rw [e]
    clear e
    go_enter Try.func40, Try.ntmps40
    go_wp2_with fail
    all_goals
      go_ret
      exact ⟨rfl, rfl⟩
  · have e : (decide (0 ≤ k ∧ k < (n : Int))) = false := by simp; omega
    rw [e]
    have hk' : k < 0 := by omega
    clear e hk
    go_enter Try.func40, Try.ntmps40
    go_wp2_with fail
    all_goals
      go_ret
      exact ⟨rfl, rfl⟩

set_option maxRecDepth 20000 in
set_option maxHeartbeats 400000 in
theorem flush_any (g o : Nat) (A : Option Addr) (n c : Nat) (u : Value) (w : World) (h0 : w.cell? ⟨g, o, none⟩ = some (.slice A n c)) (h1 : w.cell? ⟨g, o + 1, none⟩ = some u)
    (f1 : w.frozen? ⟨g, o + 1, none⟩ = false) :
    Calls Try.prog 47 #[.pointer (some ⟨g, o, none⟩)] w fun e w' => e = .returned (.tuple #[]) ∧ w' = w.setCell ⟨g, o + 1, none⟩ (.int .i64 (n : Int)) := by
  go_enter Try.func47, Try.ntmps47
  go_wp2_with fail
  go_end0
  exact ⟨rfl, rfl⟩
end Go.Proofs.Ytdnlikhfemhmeaa
