/-
  The small methods of the power and of drives, on the cells where they lie.
-/
import Derived.Test.YtdnlikhfemhmeaaZCut3
namespace Go.Proofs.Ytdnlikhfemhmeaa
open Go.RowKit

section
set_option maxRecDepth 20000
theorem off_any (pw : Nat) (b : Bool) (w : World) (h : w.cell? ⟨pw, 1, none⟩ = some (.bool b)) :
    Calls Try.prog 21 #[.pointer (some ⟨pw, 0, none⟩)] w fun e w' => e = .returned (.bool b) ∧ w = w' := by
  go_enter Try.func21, Try.ntmps21
  go_wp2_with fail
  go_ret
  exact ⟨rfl, rfl⟩
theorem on_any (pw : Nat) (u : Value) (w : World) (h : w.cell? ⟨pw, 1, none⟩ = some u) (hf : w.frozen? ⟨pw, 1, none⟩ = false) :
    Calls Try.prog 22 #[.pointer (some ⟨pw, 0, none⟩)] w fun e w' => e = .returned (.tuple #[]) ∧ w' = w.setCell ⟨pw, 1, none⟩ (.bool false) := by
  go_enter Try.func22, Try.ntmps22
  go_wp2_with fail
  go_end0
  exact ⟨rfl, rfl⟩
theorem writes_any (pw : Nat) (n : Int) (w : World) (h : w.cell? ⟨pw, 2, none⟩ = some (.int .i64 n)) :
    Calls Try.prog 23 #[.pointer (some ⟨pw, 0, none⟩)] w fun e w' => e = .returned (.int .i64 n) ∧ w = w' := by
  go_enter Try.func23, Try.ntmps23
  go_wp2_with fail
  go_ret
  exact ⟨rfl, rfl⟩
theorem lost_any (d : Nat) (b : Bool) (w : World) (h : w.cell? ⟨d, 4, none⟩ = some (.bool b)) :
    Calls Try.prog 37 #[.pointer (some ⟨d, 0, none⟩)] w fun e w' => e = .returned (.bool b) ∧ w = w' := by
  go_enter Try.func37, Try.ntmps37
  go_wp2_with fail
  go_ret
  exact ⟨rfl, rfl⟩

/-- what keeps a drive from doing anything -/
def readyCode (off lost : Bool) : Nat := if off then 8 else if lost then 7 else 0
theorem ready_any (pw d : Nat) (off lost : Bool) (w : World) (h0 : w.cell? ⟨d, 0, none⟩ = some (.pointer (some ⟨pw, 0, none⟩))) (h1 : w.cell? ⟨pw, 1, none⟩ = some (.bool off)) (h4 : w.cell? ⟨d, 4, none⟩ = some (.bool lost)) :
    Calls Try.prog 46 #[.pointer (some ⟨d, 0, none⟩)] w fun e w' => e = .returned (.int .i64 (readyCode off lost : Nat)) ∧ w = w' := by
  have Ho := Lib.hid (off_any pw off w h1)
  cases off <;> cases lost
  all_goals
    go_enter Try.func46, Try.ntmps46
    go_wp2_with (go_at_call 21; refine Ho.out.mono ?_; rintro e w1 ⟨rfl, rfl⟩)
    go_ret
    exact ⟨rfl, rfl⟩
theorem has_any (d g N : Nat) (z : Int) (w : World) (h1 : w.cell? ⟨d, 1, none⟩ = some (.slice (some ⟨g, 0, none⟩) N N)) :
    Calls Try.prog 52 #[.pointer (some ⟨d, 0, none⟩), .int .i64 z] w fun e w' => e = .returned (.bool (decide (0 ≤ z ∧ z < (N : Int)))) ∧ w = w' := by
  by_cases hk : 0 ≤ z
  · have e : (decide (0 ≤ z ∧ z < (N : Int))) = decide (z < (N : Int)) := by simp [hk]
    rw [e]
    clear e
    go_enter Try.func52, Try.ntmps52
    go_wp2_with fail
    all_goals
      go_ret
      exact ⟨rfl, rfl⟩
  · have e : (decide (0 ≤ z ∧ z < (N : Int))) = false := by simp; omega
    rw [e]
    have hk' : z < 0 := by omega
    clear e hk
    go_enter Try.func52, Try.ntmps52
    go_wp2_with fail
    all_goals
      go_ret
      exact ⟨rfl, rfl⟩

/-- a zone's pile, if the drive is ready -/
theorem find_bad (pw d g N : Nat) (off lost : Bool) (z : Int) (w : World) (h0 : w.cell? ⟨d, 0, none⟩ = some (.pointer (some ⟨pw, 0, none⟩))) (h1 : w.cell? ⟨pw, 1, none⟩ = some (.bool off)) (h4 : w.cell? ⟨d, 4, none⟩ = some (.bool lost)) (hr : readyCode off lost ≠ 0) :
    Calls Try.prog 39 #[.pointer (some ⟨d, 0, none⟩), .int .i64 z] w fun e w' => e = .returned (.tuple #[.pointer none, .int .i64 (readyCode off lost : Nat)]) ∧ w = w' := by
  have Ho := Lib.hid (ready_any pw d off lost w h0 h1 h4)
  have hne : (((readyCode off lost : Nat) : Int) != 0) = true := by simp; exact hr
  generalize readyCode off lost = r at *
  clear hr h0 h1 h4
  go_enter Try.func39, Try.ntmps39
  go_wp2_with (go_at_call 46; refine Ho.out.mono ?_; rintro e w1 ⟨rfl, rfl⟩)
  go_ret2
  exact ⟨rfl, rfl⟩
theorem find_out (pw d g N : Nat) (z : Int) (w : World) (h0 : w.cell? ⟨d, 0, none⟩ = some (.pointer (some ⟨pw, 0, none⟩))) (h1 : w.cell? ⟨pw, 1, none⟩ = some (.bool false)) (h4 : w.cell? ⟨d, 4, none⟩ = some (.bool false))
    (hs : w.cell? ⟨d, 1, none⟩ = some (.slice (some ⟨g, 0, none⟩) N N)) (hz : ¬ (0 ≤ z ∧ z < (N : Int))) :
    Calls Try.prog 39 #[.pointer (some ⟨d, 0, none⟩), .int .i64 z] w fun e w' => e = .returned (.tuple #[.pointer none, .int .i64 1]) ∧ w = w' := by
  have Ho := Lib.hid (ready_any pw d false false w h0 h1 h4)
  have Hh := Lib.hid (has_any d g N z w hs)
  rw [show decide (0 ≤ z ∧ z < (N : Int)) = false from decide_eq_false hz] at Hh
  clear hz h0 h1 h4 hs
  go_enter Try.func39, Try.ntmps39
  go_wp2_with (first | (go_at_call 46; refine Ho.out.mono ?_; rintro e w1 ⟨rfl, rfl⟩) | (go_at_call 52; refine Hh.out.mono ?_; rintro e w1 ⟨rfl, rfl⟩))
  go_ret2
  exact ⟨rfl, rfl⟩
theorem find_in (pw d g N z : Nat) (w : World) (h0 : w.cell? ⟨d, 0, none⟩ = some (.pointer (some ⟨pw, 0, none⟩))) (h1 : w.cell? ⟨pw, 1, none⟩ = some (.bool false)) (h4 : w.cell? ⟨d, 4, none⟩ = some (.bool false))
    (hs : w.cell? ⟨d, 1, none⟩ = some (.slice (some ⟨g, 0, none⟩) N N)) (hz : z < N) :
    Calls Try.prog 39 #[.pointer (some ⟨d, 0, none⟩), .int .i64 (z : Int)] w fun e w' => e = .returned (.tuple #[.pointer (some ⟨g, z * 2, none⟩), .int .i64 0]) ∧ w = w' := by
  have Ho := Lib.hid (ready_any pw d false false w h0 h1 h4)
  have Hh := Lib.hid (has_any d g N z w hs)
  rw [show decide (0 ≤ (z : Int) ∧ (z : Int) < (N : Int)) = true by simp; omega] at Hh
  have hz' : (z : Int) < (N : Int) := by omega
  clear hz h0 h1 h4
  go_enter Try.func39, Try.ntmps39
  go_wp2_with (first | (go_at_call 46; refine Ho.out.mono ?_; rintro e w1 ⟨rfl, rfl⟩) | (go_at_call 52; refine Hh.out.mono ?_; rintro e w1 ⟨rfl, rfl⟩))
  go_ret2
  exact ⟨rfl, rfl⟩
theorem assert_drive (v w : _) : (Instr.typeAssert (.iface 36 v) 98 36 true).run Try.prog w = .ok (.tuple #[v, .bool true]) w := by
  simp [Instr.typeAssert, run_underlying Try.underlying36]
theorem spared_any (d : Nat) (b : Bool) (w : World) (h : w.cell? ⟨d, 4, none⟩ = some (.bool b)) :
    Calls Try.prog 55 #[.iface 36 (.pointer (some ⟨d, 0, none⟩))] w fun e w' => e = .returned (.bool b) ∧ w = w' := by
  have Ho := Lib.hid (lost_any d b w h)
  have hta := fun W => assert_drive (.pointer (some ⟨d, 0, none⟩)) W
  go_enter Try.func55, Try.ntmps55
  go_wp2_with (go_at_call 37; refine Ho.out.mono ?_; rintro e w1 ⟨rfl, rfl⟩)
  go_ret
  exact ⟨rfl, rfl⟩
end
end Go.Proofs.Ytdnlikhfemhmeaa
