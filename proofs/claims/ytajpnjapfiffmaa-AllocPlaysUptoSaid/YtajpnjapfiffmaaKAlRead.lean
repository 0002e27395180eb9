/-
  What only reads a table: lacks, State, Count, isState, mayBeTaken.
-/
import Derived.Test.YtajpnjapfiffmaaKAlMap
import Derived.Test.YtajpnjapfiffmaaAppStep
import Derived.Deep.RegionHeld3
import Derived.StillTailTactics
namespace Go.Proofs.Ytajpnjapfiffmaa
open Go.RowKit Go.Maps

section
set_option maxRecDepth 20000
set_option maxHeartbeats 1600000
variable {w : World} {tb db mb cap D Z : Nat} {g : St}
theorem isState_any (x : Int) (w : World) : Calls Try.prog 35 #[.int .i64 x] w fun e w' => e = .returned (.bool (decide (0 ≤ x ∧ x ≤ 3))) ∧ w' = w := by
  by_cases h0 : 0 ≤ x
  · by_cases h1 : x ≤ 3
    · rw [decide_eq_true (show 0 ≤ x ∧ x ≤ 3 from ⟨h0, h1⟩)]
      go_enter Try.func35, Try.ntmps35
      go_wp2_with fail
      go_ret
      exact ⟨rfl, rfl⟩
    · rw [decide_eq_false (show ¬ (0 ≤ x ∧ x ≤ 3) from fun q => h1 q.2)]
      go_enter Try.func35, Try.ntmps35
      go_wp2_with fail
      go_ret
      exact ⟨rfl, rfl⟩
  · rw [decide_eq_false (show ¬ (0 ≤ x ∧ x ≤ 3) from fun q => h0 q.1)]
    go_enter Try.func35, Try.ntmps35
    go_wp2_with fail
    go_ret
    exact ⟨rfl, rfl⟩
theorem may_any (x : Int) (w : World) : Calls Try.prog 29 #[.int .i64 x] w fun e w' => e = .returned (.bool (decide (1 ≤ x ∧ x ≤ 32))) ∧ w' = w := by
  by_cases h0 : 1 ≤ x
  · by_cases h1 : x ≤ 32
    · rw [decide_eq_true (show 1 ≤ x ∧ x ≤ 32 from ⟨h0, h1⟩)]
      go_enter Try.func29, Try.ntmps29
      go_wp2_with fail
      go_ret
      exact ⟨rfl, rfl⟩
    · rw [decide_eq_false (show ¬ (1 ≤ x ∧ x ≤ 32) from fun q => h1 q.2)]
      go_enter Try.func29, Try.ntmps29
      go_wp2_with fail
      go_ret
      exact ⟨rfl, rfl⟩
  · rw [decide_eq_false (show ¬ (1 ≤ x ∧ x ≤ 32) from fun q => h0 q.1)]
    go_enter Try.func29, Try.ntmps29
    go_wp2_with fail
    go_ret
    exact ⟨rfl, rfl⟩
theorem lacks_any (x y : Int) (h : TabAt w tb db mb cap D Z g) : Calls Try.prog 37 #[.pointer (some ⟨tb, 0, none⟩), uV x y] w fun e w' => e = .returned (.bool (!isUnit D Z x y)) ∧ ∃ q, w' = (w.alloc (.cells #[.int .i64 x, .int .i64 y] 24)).drewN q := by
  unfold uV
  have Hh := Lib.hid fun q => has_any x ((h.alloc (.cells #[.int .i64 x, .int .i64 y] 24)).drewN q)
  have z0 := (h.alloc (.cells #[.int .i64 x, .int .i64 y] 24)).z0
  unfold isUnit
  clear h
  have end_ : ∀ b : Bool, b = (!decide (0 ≤ x ∧ x < (D : Int) ∧ 0 ≤ y ∧ y < (Z : Int))) → ∀ q, (Ending.returned (.bool b) = Ending.returned (.bool (!decide (0 ≤ x ∧ x < (D : Int) ∧ 0 ≤ y ∧ y < (Z : Int)))) ∧ ∃ q', (w.alloc (.cells #[.int .i64 x, .int .i64 y] 24)).drewN q = (w.alloc (.cells #[.int .i64 x, .int .i64 y] 24)).drewN q') := fun b h q => ⟨by rw [h], q, rfl⟩
  have End := Lib.hid end_
  clear end_
  by_cases hx : 0 ≤ x ∧ x < D
  · rw [decide_eq_true hx] at Hh
    by_cases hy0 : y < 0
    · have hd : decide (y < 0) = true := decide_eq_true hy0
      have he : true = (!decide (0 ≤ x ∧ x < (D : Int) ∧ 0 ≤ y ∧ y < (Z : Int))) := by rw [decide_eq_false (by omega)]; rfl
      have He := Lib.hid (End.out _ he)
      clear hx he End
      go_enter Try.func37, Try.ntmps37
      go_wp2_with fail
      go_quiet ((go_at_call 34; exact Calls.quiet_of_same (Hh.out _)))
      go_wp2_with fail
      go_ret
      exact He.out _
    · have hd : decide (y < 0) = false := decide_eq_false hy0
      by_cases hy1 : y < Z
      · have hd2 : decide (y ≥ (Z : Int)) = false := decide_eq_false (by omega)
        have he : false = (!decide (0 ≤ x ∧ x < (D : Int) ∧ 0 ≤ y ∧ y < (Z : Int))) := by rw [decide_eq_true (by omega)]; rfl
        have He := Lib.hid (End.out _ he)
        have hy0' : ¬ y < 0 := hy0
        have hy1' : ¬ (Z : Int) ≤ y := by omega
        clear hx he End hy1
        go_enter Try.func37, Try.ntmps37
        go_wp2_with fail
        go_quiet ((go_at_call 34; exact Calls.quiet_of_same (Hh.out _)))
        go_wp2_with fail
        go_ret
        exact He.out _
      · have hd2 : decide (y ≥ (Z : Int)) = true := decide_eq_true (by omega)
        have he : true = (!decide (0 ≤ x ∧ x < (D : Int) ∧ 0 ≤ y ∧ y < (Z : Int))) := by rw [decide_eq_false (by omega)]; rfl
        have He := Lib.hid (End.out _ he)
        have hy1' : (Z : Int) ≤ y := by omega
        clear hx he End hy1
        go_enter Try.func37, Try.ntmps37
        go_wp2_with fail
        go_quiet ((go_at_call 34; exact Calls.quiet_of_same (Hh.out _)))
        go_wp2_with fail
        go_ret
        exact He.out _
  · rw [decide_eq_false hx] at Hh
    have he : true = (!decide (0 ≤ x ∧ x < (D : Int) ∧ 0 ≤ y ∧ y < (Z : Int))) := by rw [decide_eq_false (by omega)]; rfl
    have He := Lib.hid (End.out _ he)
    clear hx he End
    go_enter Try.func37, Try.ntmps37
    go_wp2_with fail
    go_quiet ((go_at_call 34; exact Calls.quiet_of_same (Hh.out _)))
    go_wp2_with fail
    go_ret
    exact He.out _
/-- a unit's state -/
def stateOf (g : St) (D Z : Nat) (x y : Int) : Nat := if isUnit D Z x y = true then g x.toNat y.toNat else 3
theorem drewN_below {B : Nat} {w w' : World} (h : Below B w w') (n : Nat) : Below B w (w'.drewN n) := ⟨h.os, h.tape, h.output, h.size, h.block⟩
theorem state_any (x y : Int) (h : TabAt w tb db mb cap D Z g) : Calls Try.prog 24 #[.pointer (some ⟨tb, 0, none⟩), uV x y] w fun e w' => e = .returned (.int .i64 (stateOf g D Z x y : Nat)) ∧ Below w.heap.size w w' := by
  unfold uV
  obtain ⟨W, hW⟩ : ∃ W, W = w.alloc (.cells #[.int .i64 x, .int .i64 y] 24) := ⟨_, rfl⟩
  have h1 := h.alloc (.cells #[.int .i64 x, .int .i64 y] 24)
  have hb0 : Below w.heap.size w W := by rw [hW]; exact (Below.refl _ _).alloc (Nat.le_refl _) _
  have k0 : W.cell? ⟨w.heap.size, 0, none⟩ = some (.int .i64 x) := by rw [hW]; exact (Cells.new w _ _).cell rfl
  have k1 : W.cell? ⟨w.heap.size, 1, none⟩ = some (.int .i64 y) := by rw [hW]; exact (Cells.new w _ _).cell rfl
  rw [← hW] at h1
  have Hl := Lib.hid (lacks_any x y h1)
  have Hb0 := Lib.hid hb0
  unfold uV at Hl
  by_cases hu : isUnit D Z x y = true
  · have hu' := of_decide_eq_true hu
    obtain ⟨d, rfl⟩ : ∃ d : Nat, x = (d : Int) := ⟨x.toNat, by omega⟩
    obtain ⟨z, rfl⟩ : ∃ z : Nat, y = (z : Int) := ⟨y.toNat, by omega⟩
    have hd : d < D := by omega
    have hz : z < Z := by omega
    rw [show stateOf g D Z d z = g d z from by unfold stateOf; rw [if_pos hu]; simp]
    rw [hu] at Hl
    have Hafter : Hid (∀ w1, (∃ q, w1 = (W.alloc (.cells #[.int .i64 (d : Int), .int .i64 (z : Int)] 24)).drewN q) → TabAt w1 tb db mb cap D Z g ∧ Below w.heap.size w w1 ∧ w1.cell? ⟨w.heap.size, 0, none⟩ = some (.int .i64 (d : Int)) ∧ w1.cell? ⟨w.heap.size, 1, none⟩ = some (.int .i64 (z : Int)) ∧ ∀ n, (Instr.lookup 58 (.map (some mb)) (.agg #[.int .i64 (d : Int), .int .i64 (z : Int)]) false).run Try.prog (w1.drewN n) = .ok (.int .i64 (g d z : Nat)) (w1.drewN n)) := by
      rintro w1 ⟨q, rfl⟩
      have hlt : w.heap.size < W.heap.size := by rw [hW]; simp
      have h2 := (h1.alloc (.cells #[.int .i64 (d : Int), .int .i64 (z : Int)] 24)).drewN q
      have hd2 := h.d2
      have hz2 := h.z2
      refine ⟨h2, drewN_below (hb0.alloc hb0.size _) q, ?_, ?_, fun n => ?_⟩
      · exact (World.cell?_alloc_lt W _ _ hlt).trans k0
      · exact (World.cell?_alloc_lt W _ _ hlt).trans k1
      · exact (h2.mc.drewN n).look Try.underlying58 (by omega) (by omega) (stU_get g d z)
    generalize g d z = S at *
    clear h h1 hb0 hu hu' hd hz k0 k1
    go_enter Try.func24, Try.ntmps24
    go_wp2_with fail
    rw [← hW]
    refine Hl.out.mono ?_
    rintro e w1 ⟨rfl, hw1⟩
    obtain ⟨ht, hb1, c0, c1, hlk⟩ := Hafter.out w1 hw1
    have m2 := ht.m2
    have Hb1 := Lib.hid hb1
    clear hw1 ht hb1 Hafter Hl hW
    go_wp2_with fail
    go_quiet (fail)
    go_wp2_with fail
    go_ret
    exact ⟨rfl, drewN_below Hb1.out _⟩
  · rw [Bool.not_eq_true] at hu
    rw [show stateOf g D Z x y = 3 from by unfold stateOf; rw [hu]; rfl]
    rw [hu] at Hl
    have Hafter : Hid (∀ w1, (∃ q, w1 = (W.alloc (.cells #[.int .i64 x, .int .i64 y] 24)).drewN q) → Below w.heap.size w w1) := by
      rintro w1 ⟨q, rfl⟩
      exact drewN_below (hb0.alloc hb0.size _) q
    clear h h1 hb0 hu k0 k1
    go_enter Try.func24, Try.ntmps24
    go_wp2_with fail
    rw [← hW]
    refine Hl.out.mono ?_
    rintro e w1 ⟨rfl, hw1⟩
    have Hb1 := Lib.hid (Hafter.out w1 hw1)
    clear hw1 Hafter Hl hW
    go_wp2_with fail
    go_ret
    exact ⟨rfl, Hb1.out⟩
end
end Go.Proofs.Ytajpnjapfiffmaa

/-
  Count.
-/
namespace Go.Proofs.Ytajpnjapfiffmaa
open Go.RowKit Go.Maps

/-- how many have a state -/
def countOf (g : St) (D Z : Nat) (x : Int) : Nat := if 0 ≤ x ∧ x ≤ 3 then sumN (fun d => cnt (g d) x.toNat Z) D else 0
theorem countOf_nat (g : St) (D Z k : Nat) (hk : k < 4) : countOf g D Z (k : Int) = sumN (fun d => cnt (g d) k Z) D := by
  unfold countOf; rw [if_pos ⟨by omega, by omega⟩]; simp
theorem sum_le (g : St) (Z k : Nat) (i : Nat) : sumN (fun d => cnt (g d) k Z) i ≤ i * Z := by
  rw [← sumN_const Z i]; exact sumN_le i fun d _ => cnt_le _ _ _
section
set_option maxRecDepth 20000
set_option maxHeartbeats 1600000
variable {w : World} {tb db mb cap D Z : Nat} {g : St}
theorem count_any (x : Int) (h : TabAt w tb db mb cap D Z g) : Calls Try.prog 20 #[.pointer (some ⟨tb, 0, none⟩), .int .i64 x] w fun e w' => e = .returned (.int .i64 (countOf g D Z x : Nat)) ∧ Below w.heap.size w w' := by
  have Hs := Lib.hid (isState_any x)
  have c1 := h.t1
  by_cases hx : 0 ≤ x ∧ x ≤ 3
  · obtain ⟨k, rfl⟩ : ∃ k : Nat, x = (k : Int) := ⟨x.toNat, by omega⟩
    have hk : k < 4 := by omega
    rw [decide_eq_true hx] at Hs
    rw [countOf_nat g D Z k hk]
    have Hrow : Hid (∀ wr, Below w.heap.size w wr → ∀ i, i < D → wr.cell? ⟨db, i * 6, none⟩ = some (.int .i64 (cnt (g i) 0 Z : Nat)) ∧ wr.cell? ⟨db, i * 6 + 1, none⟩ = some (.int .i64 (cnt (g i) 1 Z : Nat)) ∧ wr.cell? ⟨db, i * 6 + 2, none⟩ = some (.int .i64 (cnt (g i) 2 Z : Nat)) ∧ wr.cell? ⟨db, i * 6 + 3, none⟩ = some (.int .i64 (cnt (g i) 3 Z : Nat)) ∧ wr.cell? ⟨db, i * 6 + 4, none⟩ = some (.int .i64 (i : Int)) ∧ wr.cell? ⟨db, i * 6 + 5, none⟩ = some (.int .i64 (low (g i) Z : Nat))) := by
      intro wr hb i hi
      have hd := (h.below hb).dc
      have e : i * 6 = 6 * i := by omega
      rw [e]
      exact ⟨hd.cell hi (k := 0) (by omega), hd.cell hi (k := 1) (by omega), hd.cell hi (k := 2) (by omega), hd.cell hi (k := 3) (by omega), hd.cellD hi, hd.cellL hi⟩
    have Hnum : Hid (D ≤ 32 ∧ Z ≤ 4096) := ⟨h.d2, h.z2⟩
    clear h hx
    go_enter Try.func20, Try.ntmps20
    go_wp2_with fail
    refine (Hs.out _).mono ?_
    rintro e w1 ⟨rfl, rfl⟩
    clear Hs
    go_wp2_with fail
    go_loopw [5, 16] (fun sv iv wr => ∃ (i s : Nat), iv = .int .i64 (i : Int) ∧ sv = .int .i64 (s : Int) ∧ i ≤ D ∧ Hid (s = sumN (fun d => cnt (g d) k Z) i) ∧ Hid (Below w1.heap.size w1 wr)) (fun _ iv _ => D - (intOf iv).toNat)
    case atStart => exact ⟨0, 0, rfl, rfl, Nat.zero_le _, rfl, Below.refl _ _⟩
    case round =>
      obtain ⟨i, s, rfl, rfl, hi, hs, hb⟩ := hrel
      by_cases hlt : i < D
      · obtain ⟨k0, k1, k2, k3, k4, k5⟩ := Hrow.out wr hb.out i hlt
        have hlt' : (i : Int) < (D : Int) := by omega
        have hD : (D : Int) ≤ 32 := by have := Hnum.out; omega
        have hs1 : (s : Int) ≤ 131072 := by
          have := sum_le g Z k i
          have h2 : i * Z ≤ 32 * 4096 := Nat.mul_le_mul (by have := Hnum.out; omega) Hnum.out.2
          rw [hs.out]; omega
        obtain ⟨c, hc⟩ : ∃ c, c = cnt (g i) k Z := ⟨_, rfl⟩
        have hc1 : (c : Int) ≤ 4096 := by have := cnt_le (g i) k Z; have := Hnum.out; omega
        have Hnx : Hid (s + c = sumN (fun d => cnt (g d) k Z) (i + 1)) := by show _ = sumN (fun d => cnt (g d) k Z) i + cnt (g i) k Z; rw [hs.out, hc]
        have Hb2 : ∀ o, Hid (Below w1.heap.size w1 (wr.alloc o)) := fun o => hb.out.alloc hb.out.size o
        obtain rfl | rfl | rfl | rfl : k = 0 ∨ k = 1 ∨ k = 2 ∨ k = 3 := by omega
        all_goals
          try rw [← hc] at k0
          try rw [← hc] at k1
          try rw [← hc] at k2
          try rw [← hc] at k3
          try generalize cnt (g i) 0 Z = a0 at k0
          try generalize cnt (g i) 1 Z = a1 at k1
          try generalize cnt (g i) 2 Z = a2 at k2
          try generalize cnt (g i) 3 Z = a3 at k3
          generalize low (g i) Z = a5 at k5
          clear hs hb hc hlt Hrow
          go_wp2_with fail
          go_roundw
          case rel => exact ⟨i + 1, s + c, by go_num, by go_num, by omega, Hnx.out, Hb2 _⟩
          case measure => simp [intOf]; omega
      · obtain rfl : i = D := by omega
        have Hb := hb
        have Hss := hs
        clear hlt hb hs
        go_wp2_with fail
        go_ret
        exact ⟨congrArg (fun n : Nat => Ending.returned (.int .i64 (n : Int))) Hss.out, Hb.out⟩
  · rw [decide_eq_false hx] at Hs
    rw [show countOf g D Z x = 0 from if_neg hx]
    clear h hx
    go_enter Try.func20, Try.ntmps20
    go_wp2_with fail
    refine (Hs.out _).mono ?_
    rintro e w1 ⟨rfl, rfl⟩
    clear Hs
    go_wp2_with fail
    go_ret
    exact ⟨rfl, Below.refl _ _⟩
end
end Go.Proofs.Ytajpnjapfiffmaa

/-
  Counts by state, as the second saying counts.
-/
namespace Go.Proofs.Ytajpnjapfiffmaa
open Go.RowKit Go.Maps

/-- how many of the first n are x -/
def cntI (f : Nat → Nat) (x : Int) (n : Nat) : Nat := cntB (fun z => decide ((f z : Int) = x)) n
theorem cntI_succ (f : Nat → Nat) (x : Int) (n : Nat) : cntI f x (n + 1) = cntI f x n + (if (f n : Int) = x then 1 else 0) := by
  unfold cntI
  rw [cntB]
  by_cases h : (f n : Int) = x <;> simp [h]
theorem cntI_le (f : Nat → Nat) (x : Int) (n : Nat) : cntI f x n ≤ n := cntB_le _ _
theorem countOf_eq {g : St} (hle : ∀ d z, g d z ≤ 3) (D Z : Nat) (x : Int) : sumN (fun d => cntI (g d) x Z) D = countOf g D Z x := by
  unfold countOf
  by_cases h : 0 ≤ x ∧ x ≤ 3
  · rw [if_pos h]
    refine sumN_congr D fun d _ => cntB_congr Z fun z _ => ?_
    rw [Bool.eq_iff_iff]
    simp
    omega
  · rw [if_neg h]
    have e : sumN (fun d => cntI (g d) x Z) D = sumN (fun _ => 0) D := sumN_congr D fun d _ => (cntB_zero Z).2 fun z _ => by
      have := hle d z
      simp
      omega
    rw [e, sumN_const]
    simp

end Go.Proofs.Ytajpnjapfiffmaa
