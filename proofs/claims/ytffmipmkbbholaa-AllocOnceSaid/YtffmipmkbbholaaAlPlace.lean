/-
  byPlace, cmp.Or: units by drive, then zone; SortFunc over it.
-/
import Derived.Test.YtffmipmkbbholaaAlKnown
namespace Go.Proofs.Ytffmipmkbbholaa
open Go.RowKit Go.Maps Go.Shelf Go.Lib Go.Sort

/-- the first that is not 0 -/
def orV (x y : Int) : Int := if x = 0 then y else x
/-- units by drive, then zone -/
def cfU (a b : Int × Int) : Int := orV (cmpI a.1 b.1) (cmpI a.2 b.2)
theorem cmpI_zero {a b : Int} : cmpI a b = 0 ↔ a = b := by unfold cmpI; (repeat' split) <;> omega
theorem cfU_neg {a b : Int × Int} : cfU a b < 0 ↔ a.1 < b.1 ∨ (a.1 = b.1 ∧ a.2 < b.2) := by
  unfold cfU orV
  by_cases h : cmpI a.1 b.1 = 0
  · rw [if_pos h, cmpI_neg]
    have := cmpI_zero.1 h
    omega
  · rw [if_neg h, cmpI_neg]
    have : a.1 ≠ b.1 := fun e => h (cmpI_zero.2 e)
    omega
def encU (u : Int × Int) : List Value := [.int .i64 u.1, .int .i64 u.2]
theorem cfU_swo : SWO (ltOf cfU) where
  irrefl x := decide_eq_false fun h => by have := cfU_neg.1 h; omega
  trans x y z h1 h2 := decide_eq_true (cfU_neg.2 (by have := cfU_neg.1 (of_decide_eq_true h1); have := cfU_neg.1 (of_decide_eq_true h2); omega))
  ntrans x y z h1 h2 := decide_eq_false fun h => by
    have a := fun q => (of_decide_eq_false h1) (cfU_neg.2 q)
    have b := fun q => (of_decide_eq_false h2) (cfU_neg.2 q)
    have c := cfU_neg.1 h
    by_cases q1 : x.1 < y.1
    · exact a (.inl q1)
    by_cases q2 : y.1 < z.1
    · exact b (.inl q2)
    have e1 : x.1 = y.1 := by omega
    have e2 : y.1 = z.1 := by omega
    by_cases q3 : x.2 < y.2
    · exact a (.inr ⟨e1, q3⟩)
    by_cases q4 : y.2 < z.2
    · exact b (.inr ⟨e2, q4⟩)
    omega
section
set_option maxRecDepth 100000
set_option maxHeartbeats 4000000
theorem or_any (b c : Nat) (x y : Int) (w : World) (h0 : w.cell? ⟨b, 0, none⟩ = some (.int .i64 x)) (h1 : w.cell? ⟨b, 1, none⟩ = some (.int .i64 y)) :
    Calls Try.prog 55 #[.slice (some ⟨b, 0, none⟩) 2 c] w fun e w' => e = .returned (.int .i64 (orV x y)) ∧ w' = w := by
  unfold orV
  by_cases hx : x = 0
  · rw [if_pos hx]
    by_cases hy : y = 0
    · subst hx; subst hy
      go_enter Try.func55, Try.ntmps55
      go_wp2_with fail
      refine wp_loop_rounds 3 ?_
      rw [rounds_succ]
      go_wp2_with fail
      rw [rounds_succ]
      go_wp2_with fail
      rw [rounds_succ]
      go_wp2_with fail
      go_ret
      exact ⟨rfl, rfl⟩
    · subst hx
      go_enter Try.func55, Try.ntmps55
      go_wp2_with fail
      refine wp_loop_rounds 2 ?_
      rw [rounds_succ]
      go_wp2_with fail
      rw [rounds_succ]
      go_wp2_with fail
      go_ret
      exact ⟨rfl, rfl⟩
  · rw [if_neg hx]
    go_enter Try.func55, Try.ntmps55
    go_wp2_with fail
    refine wp_loop_rounds 1 ?_
    rw [rounds_succ]
    go_wp2_with fail
    go_ret
    exact ⟨rfl, rfl⟩
theorem byPlace_any (a b : Int × Int) (w : World) : Calls Try.prog 41 #[.agg #[.int .i64 a.1, .int .i64 a.2], .agg #[.int .i64 b.1, .int .i64 b.2]] w fun e w' => e = .returned (.int .i64 (cfU a b)) ∧ ∃ q os, w' = grow (w.drewN q) os := by
  obtain ⟨a1, a2⟩ := a
  obtain ⟨b1, b2⟩ := b
  obtain ⟨W, hW⟩ : ∃ W, W = (w.alloc (.cells #[.int .i64 a1, .int .i64 a2] 24)).alloc (.cells #[.int .i64 b1, .int .i64 b2] 24) := ⟨_, rfl⟩
  have e1 : (w.alloc (.cells #[.int .i64 a1, .int .i64 a2] 24)).heap.size = w.heap.size + 1 := by simp
  have ka : Cells W w.heap.size 24 [.int .i64 a1, .int .i64 a2] := by rw [hW]; exact (Cells.new w _ _).alloc _
  have kb : Cells W (w.heap.size + 1) 24 [.int .i64 b1, .int .i64 b2] := by rw [hW, ← e1]; exact Cells.new _ _ _
  have p0 : W.cell? ⟨w.heap.size, 0, none⟩ = some (.int .i64 a1) := ka.cell rfl
  have p1 : W.cell? ⟨w.heap.size, 1, none⟩ = some (.int .i64 a2) := ka.cell rfl
  have p2 : W.cell? ⟨w.heap.size + 1, 0, none⟩ = some (.int .i64 b1) := kb.cell rfl
  have p3 : W.cell? ⟨w.heap.size + 1, 1, none⟩ = some (.int .i64 b2) := kb.cell rfl
  have Hc := Lib.hid fun (x y : Int) w => compare_any x y w
  have Ho : Hid (∀ x y, Calls Try.prog 55 #[.slice (some ⟨W.heap.size, 0, none⟩) 2 2] (W.drew.alloc (.cells #[.int .i64 x, .int .i64 y] 3)) fun e w' => e = .returned (.int .i64 (orV x y)) ∧ w' = W.drew.alloc (.cells #[.int .i64 x, .int .i64 y] 3)) :=
    fun x y => or_any W.heap.size 2 x y _ ((Cells.new W.drew _ _).cell rfl) ((Cells.new W.drew _ _).cell rfl)
  have Hend : Hid (∀ x y, ∃ q os, W.drew.alloc (.cells #[.int .i64 x, .int .i64 y] 3) = grow (w.drewN q) os) := fun x y => by
    rw [hW]
    refine ⟨1, #[.cells #[.int .i64 a1, .int .i64 a2] 24, .cells #[.int .i64 b1, .int .i64 b2] 24, .cells #[.int .i64 x, .int .i64 y] 3], ?_⟩
    have e : ∀ (u : World) (o1 o2 o3 : Obj), ((u.alloc o1).alloc o2).drew.alloc o3 = (((u.drewN 1).alloc o1).alloc o2).alloc o3 := fun _ _ _ _ => rfl
    rw [e, alloc_eq_grow, alloc_eq_grow, alloc_eq_grow, grow_grow, grow_grow]
    rfl
  have pB : ∀ o : Obj, (W.alloc o).drew.cell? ⟨w.heap.size, 0, none⟩ = some (.int .i64 a1) ∧ (W.alloc o).drew.cell? ⟨w.heap.size, 1, none⟩ = some (.int .i64 a2) ∧ (W.alloc o).drew.cell? ⟨w.heap.size + 1, 0, none⟩ = some (.int .i64 b1) ∧ (W.alloc o).drew.cell? ⟨w.heap.size + 1, 1, none⟩ = some (.int .i64 b2) := fun o => ⟨(ka.alloc o).drew.cell rfl, (ka.alloc o).drew.cell rfl, (kb.alloc o).drew.cell rfl, (kb.alloc o).drew.cell rfl⟩
  have Hw : Hid (W.drew.heap.size = W.heap.size) := (rfl : W.drew.heap.size = W.heap.size)
  clear ka kb e1
  go_enter Try.func41, Try.ntmps41
  go_wp2_with fail
  rw [← hW]
  clear hW
  go_region_held3 (fun X => X.cell? ⟨w.heap.size, 0, none⟩ = some (.int .i64 a1) ∧ X.cell? ⟨w.heap.size, 1, none⟩ = some (.int .i64 a2) ∧ X.cell? ⟨w.heap.size + 1, 0, none⟩ = some (.int .i64 b1) ∧ X.cell? ⟨w.heap.size + 1, 1, none⟩ = some (.int .i64 b2)) (first | exact ⟨p0, p1, p2, p3⟩ | exact pB _) (first
    | (go_at_call 49; refine (Hc.out _ _ _).mono ?_; rintro e w2 ⟨rfl, rfl⟩)
    | (go_at_call 55; refine (Ho.out _ _).mono ?_; rintro e w2 ⟨rfl, rfl⟩))
  all_goals
    go_wp2_with fail
    go_ret
    exact ⟨rfl, Hend.out _ _⟩
end
end Go.Proofs.Ytffmipmkbbholaa
