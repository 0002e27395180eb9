/-
  Facts compared: cmp.Compare, cmp.Or, the program's Compare, the second saying's.
-/
import Derived.Test.YtghcfmkmndldoaaFa2
import Derived.Test.YtghcfmkmndldoaaSg1
import Derived.Deep.RegionHeld3
import Derived.StillTailTactics
namespace Go.Proofs.Ytghcfmkmndldoaa
open Go.RowKit Go.Sort Go.Lib

/-- the first that is not 0 -/
def orI (x y : Int) : Int := if x = 0 then y else x
def cmpN (a b : Nat) : Int := if a < b then -1 else if b < a then 1 else 0
theorem cmpF_or (a b : Fc) : cmpF a b = orI (cmpK a.1 b.1) (cmpN b.2.1 a.2.1) := by
  unfold cmpF orI cmpN
  by_cases h : cmpK a.1 b.1 = 0
  · rw [if_neg (by simp [h]), if_pos h]
  · rw [if_pos h, if_neg h]
/-- a fact as a value, its value being V -/
def fcV (f : Fc) (V : Value) : Value := .agg #[.string f.1, .int .u64 (f.2.1 : Int), V]
section
set_option maxRecDepth 100000
set_option maxHeartbeats 4000000
theorem nanS_any (a : ByteArray) (w : World) : Calls Try.prog 66 #[.string a] w fun e w' => e = .returned (.bool false) ∧ w' = w := by
  go_enter Try.func66, Try.ntmps66
  go_wp2_with fail
  go_ret
  exact ⟨by simp, rfl⟩
theorem nanU_any (a : Int) (w : World) : Calls Try.prog 67 #[.int .u64 a] w fun e w' => e = .returned (.bool false) ∧ w' = w := by
  go_enter Try.func67, Try.ntmps67
  go_wp2_with fail
  go_ret
  exact ⟨by simp, rfl⟩
theorem cmpS_any (a b : ByteArray) (w : World) : Calls Try.prog 46 #[.string a, .string b] w fun e w' => e = .returned (.int .i64 (cmpK a b)) ∧ w' = w := by
  have Hn := Lib.hid fun a => nanS_any a w
  unfold cmpK
  rcases less_total a.toList b.toList with h | h | h
  · rw [if_pos h]
    go_enter Try.func46, Try.ntmps46
    go_wp2_with fail
    refine (Hn.out _).mono ?_
    rintro e w1 ⟨rfl, rfl⟩
    go_wp2_with fail
    refine (Hn.out _).mono ?_
    rintro e w1 ⟨rfl, rfl⟩
    go_wp2_with fail
    go_ret
    exact ⟨rfl, rfl⟩
  · have := array_inj h
    subst this
    have h2 := less_irrefl a.toList
    have h3 : (a.toList == a.toList) = true := by simp
    rw [if_neg (by rw [h2]; simp)]
    go_enter Try.func46, Try.ntmps46
    go_wp2_with fail
    refine (Hn.out _).mono ?_
    rintro e w1 ⟨rfl, rfl⟩
    go_wp2_with fail
    refine (Hn.out _).mono ?_
    rintro e w1 ⟨rfl, rfl⟩
    go_wp2_with fail
    all_goals
      go_ret
      exact ⟨rfl, rfl⟩
  · have h2 := less_asymm h
    have h3 : (a.toList == b.toList) = false := by
      rw [beq_eq_false_iff_ne]
      intro e
      rw [e, less_irrefl] at h
      cases h
    have h4 : ¬ a.toList = b.toList := by
      intro e
      rw [e, less_irrefl] at h
      cases h
    rw [if_neg (by rw [h2]; simp), if_pos h]
    go_enter Try.func46, Try.ntmps46
    go_wp2_with fail
    refine (Hn.out _).mono ?_
    rintro e w1 ⟨rfl, rfl⟩
    go_wp2_with fail
    refine (Hn.out _).mono ?_
    rintro e w1 ⟨rfl, rfl⟩
    go_wp2_with fail
    go_ret
    exact ⟨rfl, rfl⟩
theorem cmpU_any (a b : Nat) (w : World) : Calls Try.prog 47 #[.int .u64 (a : Int), .int .u64 (b : Int)] w fun e w' => e = .returned (.int .i64 (cmpN a b)) ∧ w' = w := by
  have Hn := Lib.hid fun a => nanU_any a w
  unfold cmpN
  rcases Nat.lt_trichotomy a b with h | h | h
  · rw [if_pos h]
    go_enter Try.func47, Try.ntmps47
    go_wp2_with fail
    refine (Hn.out _).mono ?_
    rintro e w1 ⟨rfl, rfl⟩
    go_wp2_with fail
    refine (Hn.out _).mono ?_
    rintro e w1 ⟨rfl, rfl⟩
    go_wp2_with fail
    go_ret
    exact ⟨rfl, rfl⟩
  · subst h
    rw [if_neg (Nat.lt_irrefl a), if_neg (Nat.lt_irrefl a)]
    go_enter Try.func47, Try.ntmps47
    go_wp2_with fail
    refine (Hn.out _).mono ?_
    rintro e w1 ⟨rfl, rfl⟩
    go_wp2_with fail
    refine (Hn.out _).mono ?_
    rintro e w1 ⟨rfl, rfl⟩
    go_wp2_with fail
    go_ret
    exact ⟨rfl, rfl⟩
  · have h' : ¬ a < b := by omega
    rw [if_neg h', if_pos h]
    go_enter Try.func47, Try.ntmps47
    go_wp2_with fail
    refine (Hn.out _).mono ?_
    rintro e w1 ⟨rfl, rfl⟩
    go_wp2_with fail
    refine (Hn.out _).mono ?_
    rintro e w1 ⟨rfl, rfl⟩
    go_wp2_with fail
    go_ret
    exact ⟨rfl, rfl⟩
theorem orI_any (b c : Nat) (x y : Int) (w : World) (h0 : w.cell? ⟨b, 0, none⟩ = some (.int .i64 x)) (h1 : w.cell? ⟨b, 1, none⟩ = some (.int .i64 y)) :
    Calls Try.prog 45 #[.slice (some ⟨b, 0, none⟩) 2 c] w fun e w' => e = .returned (.int .i64 (orI x y)) ∧ w' = w := by
  unfold orI
  by_cases hx : x = 0
  · rw [if_pos hx]
    by_cases hy : y = 0
    · subst hx; subst hy
      go_enter Try.func45, Try.ntmps45
      go_wp2_with fail
      refine wp_loop_rounds 3 ?_
      rw [rounds_succ]
      go_wp2_with fail
      rw [rounds_succ]
      go_wp2_with fail
      rw [rounds_succ]
      go_wp2_with fail
      go_ret
      exact ⟨rfl, rfl⟩
    · subst hx
      go_enter Try.func45, Try.ntmps45
      go_wp2_with fail
      refine wp_loop_rounds 2 ?_
      rw [rounds_succ]
      go_wp2_with fail
      rw [rounds_succ]
      go_wp2_with fail
      go_ret
      exact ⟨rfl, rfl⟩
  · rw [if_neg hx]
    go_enter Try.func45, Try.ntmps45
    go_wp2_with fail
    refine wp_loop_rounds 1 ?_
    rw [rounds_succ]
    go_wp2_with fail
    go_ret
    exact ⟨rfl, rfl⟩
theorem cmp_any (a b : Fc) (va vb : Value) (w : World) : Calls Try.prog 69 #[fcV a va, fcV b vb] w fun e w' => e = .returned (.int .i64 (cmpF a b)) ∧ Gr w w' := by
  rw [cmpF_or]
  obtain ⟨k1, s1, l1⟩ := a
  obtain ⟨k2, s2, l2⟩ := b
  unfold fcV
  dsimp only
  obtain ⟨W, hW⟩ : ∃ W, W = (w.alloc (.cells #[.string k1, .int .u64 (s1 : Int), va] 50)).alloc (.cells #[.string k2, .int .u64 (s2 : Int), vb] 50) := ⟨_, rfl⟩
  have e1 : (w.alloc (.cells #[.string k1, .int .u64 (s1 : Int), va] 50)).heap.size = w.heap.size + 1 := by simp
  have ka : Cells W w.heap.size 50 [.string k1, .int .u64 (s1 : Int), va] := by rw [hW]; exact (Cells.new w _ _).alloc _
  have kb : Cells W (w.heap.size + 1) 50 [.string k2, .int .u64 (s2 : Int), vb] := by rw [hW, ← e1]; exact Cells.new _ _ _
  have p0 : W.cell? ⟨w.heap.size, 0, none⟩ = some (.string k1) := ka.cell rfl
  have p1 : W.cell? ⟨w.heap.size, 1, none⟩ = some (.int .u64 (s1 : Int)) := ka.cell rfl
  have p2 : W.cell? ⟨w.heap.size + 1, 0, none⟩ = some (.string k2) := kb.cell rfl
  have p3 : W.cell? ⟨w.heap.size + 1, 1, none⟩ = some (.int .u64 (s2 : Int)) := kb.cell rfl
  have Hc := Lib.hid fun (x y : ByteArray) w => cmpS_any x y w
  have Hu := Lib.hid fun (x y : Nat) w => cmpU_any x y w
  have Ho : Hid (∀ x y, Calls Try.prog 45 #[.slice (some ⟨W.heap.size, 0, none⟩) 2 2] (W.drew.alloc (.cells #[.int .i64 x, .int .i64 y] 3)) fun e w' => e = .returned (.int .i64 (orI x y)) ∧ w' = W.drew.alloc (.cells #[.int .i64 x, .int .i64 y] 3)) :=
    fun x y => orI_any W.heap.size 2 x y _ ((Cells.new W.drew _ _).cell rfl) ((Cells.new W.drew _ _).cell rfl)
  have Hend : Hid (∀ x y, Gr w (W.drew.alloc (.cells #[.int .i64 x, .int .i64 y] 3))) := fun x y => by
    rw [hW]
    exact ((Gr.alloc w _).trans (Gr.alloc _ _)).trans ((Gr.drewN _ 1).trans (Gr.alloc _ _))
  have pB : ∀ o : Obj, (W.alloc o).drew.cell? ⟨w.heap.size, 0, none⟩ = some (.string k1) ∧ (W.alloc o).drew.cell? ⟨w.heap.size, 1, none⟩ = some (.int .u64 (s1 : Int)) ∧ (W.alloc o).drew.cell? ⟨w.heap.size + 1, 0, none⟩ = some (.string k2) ∧ (W.alloc o).drew.cell? ⟨w.heap.size + 1, 1, none⟩ = some (.int .u64 (s2 : Int)) := fun o => ⟨(ka.alloc o).drew.cell rfl, (ka.alloc o).drew.cell rfl, (kb.alloc o).drew.cell rfl, (kb.alloc o).drew.cell rfl⟩
  have Hw : Hid (W.drew.heap.size = W.heap.size) := (rfl : W.drew.heap.size = W.heap.size)
  clear ka kb e1
  go_enter Try.func69, Try.ntmps69
  go_wp2_with fail
  rw [← hW]
  clear hW
  go_region_held3 (fun X => X.cell? ⟨w.heap.size, 0, none⟩ = some (.string k1) ∧ X.cell? ⟨w.heap.size, 1, none⟩ = some (.int .u64 (s1 : Int)) ∧ X.cell? ⟨w.heap.size + 1, 0, none⟩ = some (.string k2) ∧ X.cell? ⟨w.heap.size + 1, 1, none⟩ = some (.int .u64 (s2 : Int))) (first | exact ⟨p0, p1, p2, p3⟩ | exact pB _) (first
    | (go_at_call 46; refine (Hc.out _ _ _).mono ?_; rintro e w2 ⟨rfl, rfl⟩)
    | (go_at_call 47; refine (Hu.out _ _ _).mono ?_; rintro e w2 ⟨rfl, rfl⟩)
    | (go_at_call 45; refine (Ho.out _ _).mono ?_; rintro e w2 ⟨rfl, rfl⟩))
  all_goals
    go_wp2_with fail
    go_ret
    exact ⟨rfl, Hend.out _ _⟩
end
end Go.Proofs.Ytghcfmkmndldoaa
