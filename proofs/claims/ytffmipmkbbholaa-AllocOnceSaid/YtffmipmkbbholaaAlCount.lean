/-
  Count.
-/
import Derived.Test.YtffmipmkbbholaaAlRead
namespace Go.Proofs.Ytffmipmkbbholaa
open Go.RowKit Go.Maps

/-- how many have a state -/
def countOf (g : St) (D Z : Nat) (x : Int) : Nat := if 0 ≤ x ∧ x ≤ 3 then sumN (fun d => cnt (g d) x.toNat Z) D else 0
theorem countOf_nat (g : St) (D Z k : Nat) (hk : k < 4) : countOf g D Z (k : Int) = sumN (fun d => cnt (g d) k Z) D := by
  unfold countOf; rw [if_pos ⟨by omega, by omega⟩]; simp
theorem sum_le (g : St) (Z k : Nat) (i : Nat) : sumN (fun d => cnt (g d) k Z) i ≤ i * Z := by
  rw [← sumN_const Z i]; exact sumN_le i fun d _ => cnt_le _ _ _
section
set_option maxRecDepth 20000
set_option maxHeartbeats 1600000
variable {w : World} {tb db mb cap D Z : Nat} {g : St}
theorem count_any (x : Int) (h : TabAt w tb db mb cap D Z g) : Calls Try.prog 20 #[.pointer (some ⟨tb, 0, none⟩), .int .i64 x] w fun e w' => e = .returned (.int .i64 (countOf g D Z x : Nat)) ∧ Below w.heap.size w w' := by
  have Hs := Lib.hid (isState_any x)
  have c1 := h.t1
  by_cases hx : 0 ≤ x ∧ x ≤ 3
  · obtain ⟨k, rfl⟩ : ∃ k : Nat, x = (k : Int) := ⟨x.toNat, by omega⟩
    have hk : k < 4 := by omega
    rw [decide_eq_true hx] at Hs
    rw [countOf_nat g D Z k hk]
    have Hrow : Hid (∀ wr, Below w.heap.size w wr → ∀ i, i < D → wr.cell? ⟨db, i * 6, none⟩ = some (.int .i64 (cnt (g i) 0 Z : Nat)) ∧ wr.cell? ⟨db, i * 6 + 1, none⟩ = some (.int .i64 (cnt (g i) 1 Z : Nat)) ∧ wr.cell? ⟨db, i * 6 + 2, none⟩ = some (.int .i64 (cnt (g i) 2 Z : Nat)) ∧ wr.cell? ⟨db, i * 6 + 3, none⟩ = some (.int .i64 (cnt (g i) 3 Z : Nat)) ∧ wr.cell? ⟨db, i * 6 + 4, none⟩ = some (.int .i64 (i : Int)) ∧ wr.cell? ⟨db, i * 6 + 5, none⟩ = some (.int .i64 (low (g i) Z : Nat))) := by
      intro wr hb i hi
      have hd := (h.below hb).dc
      have e : i * 6 = 6 * i := by omega
      rw [e]
      exact ⟨hd.cell hi (k := 0) (by omega), hd.cell hi (k := 1) (by omega), hd.cell hi (k := 2) (by omega), hd.cell hi (k := 3) (by omega), hd.cellD hi, hd.cellL hi⟩
    have Hnum : Hid (D ≤ 32 ∧ Z ≤ 4096) := ⟨h.d2, h.z2⟩
    clear h hx
    go_enter Try.func20, Try.ntmps20
    go_wp2_with fail
    refine (Hs.out _).mono ?_
    rintro e w1 ⟨rfl, rfl⟩
    clear Hs
    go_wp2_with fail
    go_loopw [5, 16] (fun sv iv wr => ∃ (i s : Nat), iv = .int .i64 (i : Int) ∧ sv = .int .i64 (s : Int) ∧ i ≤ D ∧ Hid (s = sumN (fun d => cnt (g d) k Z) i) ∧ Hid (Below w1.heap.size w1 wr)) (fun _ iv _ => D - (intOf iv).toNat)
    case atStart => exact ⟨0, 0, rfl, rfl, Nat.zero_le _, rfl, Below.refl _ _⟩
    case round =>
      obtain ⟨i, s, rfl, rfl, hi, hs, hb⟩ := hrel
      by_cases hlt : i < D
      · obtain ⟨k0, k1, k2, k3, k4, k5⟩ := Hrow.out wr hb.out i hlt
        have hlt' : (i : Int) < (D : Int) := by omega
        have hD : (D : Int) ≤ 32 := by have := Hnum.out; omega
        have hs1 : (s : Int) ≤ 131072 := by
          have := sum_le g Z k i
          have h2 : i * Z ≤ 32 * 4096 := Nat.mul_le_mul (by have := Hnum.out; omega) Hnum.out.2
          rw [hs.out]; omega
        obtain ⟨c, hc⟩ : ∃ c, c = cnt (g i) k Z := ⟨_, rfl⟩
        have hc1 : (c : Int) ≤ 4096 := by have := cnt_le (g i) k Z; have := Hnum.out; omega
        have Hnx : Hid (s + c = sumN (fun d => cnt (g d) k Z) (i + 1)) := by show _ = sumN (fun d => cnt (g d) k Z) i + cnt (g i) k Z; rw [hs.out, hc]
        have Hb2 : ∀ o, Hid (Below w1.heap.size w1 (wr.alloc o)) := fun o => hb.out.alloc hb.out.size o
        obtain rfl | rfl | rfl | rfl : k = 0 ∨ k = 1 ∨ k = 2 ∨ k = 3 := by omega
        all_goals
          try rw [← hc] at k0
          try rw [← hc] at k1
          try rw [← hc] at k2
          try rw [← hc] at k3
          try generalize cnt (g i) 0 Z = a0 at k0
          try generalize cnt (g i) 1 Z = a1 at k1
          try generalize cnt (g i) 2 Z = a2 at k2
          try generalize cnt (g i) 3 Z = a3 at k3
          generalize low (g i) Z = a5 at k5
          clear hs hb hc hlt Hrow
          go_wp2_with fail
          go_roundw
          case rel => exact ⟨i + 1, s + c, by go_num, by go_num, by omega, Hnx.out, Hb2 _⟩
          case measure => simp [intOf]; omega
      · obtain rfl : i = D := by omega
        have Hb := hb
        have Hss := hs
        clear hlt hb hs
        go_wp2_with fail
        go_ret
        exact ⟨congrArg (fun n : Nat => Ending.returned (.int .i64 (n : Int))) Hss.out, Hb.out⟩
  · rw [decide_eq_false hx] at Hs
    rw [show countOf g D Z x = 0 from if_neg hx]
    clear h hx
    go_enter Try.func20, Try.ntmps20
    go_wp2_with fail
    refine (Hs.out _).mono ?_
    rintro e w1 ⟨rfl, rfl⟩
    clear Hs
    go_wp2_with fail
    go_ret
    exact ⟨rfl, Below.refl _ _⟩
end
end Go.Proofs.Ytffmipmkbbholaa
