/-
  Elisions compared: by the program, by the second saying.
-/
import Derived.Test.YtghcfmkmndldoaaKEl13
import Derived.Test.YtghcfmkmndldoaaFa3
namespace Go.Proofs.Ytghcfmkmndldoaa
open Go.RowKit Go.Sort Go.Lib

def cmpE (a b : Ec) : Int := orI (cmpK a.1 b.1) (orI (cmpK a.2.1 b.2.1) (cmpN a.2.2 b.2.2))
section
set_option maxRecDepth 100000
set_option maxHeartbeats 4000000
theorem orI3_any (b c : Nat) (x y z : Int) (w : World) (h0 : w.cell? ⟨b, 0, none⟩ = some (.int .i64 x)) (h1 : w.cell? ⟨b, 1, none⟩ = some (.int .i64 y)) (h2 : w.cell? ⟨b, 2, none⟩ = some (.int .i64 z)) :
    Calls Try.prog 45 #[.slice (some ⟨b, 0, none⟩) 3 c] w fun e w' => e = .returned (.int .i64 (orI x (orI y z))) ∧ w' = w := by
  unfold orI
  by_cases hx : x = 0
  · rw [if_pos hx]
    by_cases hy : y = 0
    · rw [if_pos hy]
      by_cases hz : z = 0
      · subst hx; subst hy; subst hz
        go_enter Try.func45, Try.ntmps45
        go_wp2_with fail
        refine wp_loop_rounds 4 ?_
        rw [rounds_succ]
        go_wp2_with fail
        rw [rounds_succ]
        go_wp2_with fail
        rw [rounds_succ]
        go_wp2_with fail
        rw [rounds_succ]
        go_wp2_with fail
        go_ret
        exact ⟨rfl, rfl⟩
      · subst hx; subst hy
        go_enter Try.func45, Try.ntmps45
        go_wp2_with fail
        refine wp_loop_rounds 3 ?_
        rw [rounds_succ]
        go_wp2_with fail
        rw [rounds_succ]
        go_wp2_with fail
        rw [rounds_succ]
        go_wp2_with fail
        go_ret
        exact ⟨rfl, rfl⟩
    · rw [if_neg hy]
      subst hx
      go_enter Try.func45, Try.ntmps45
      go_wp2_with fail
      refine wp_loop_rounds 2 ?_
      rw [rounds_succ]
      go_wp2_with fail
      rw [rounds_succ]
      go_wp2_with fail
      go_ret
      exact ⟨rfl, rfl⟩
  · rw [if_neg hx]
    go_enter Try.func45, Try.ntmps45
    go_wp2_with fail
    refine wp_loop_rounds 1 ?_
    rw [rounds_succ]
    go_wp2_with fail
    go_ret
    exact ⟨rfl, rfl⟩
theorem ecmp_any (a b : Ec) (w : World) : Calls Try.prog 22 #[eV a, eV b] w fun e w' => e = .returned (.int .i64 (cmpE a b)) ∧ Gr w w' := by
  obtain ⟨k1, h1, s1⟩ := a
  obtain ⟨k2, h2, s2⟩ := b
  unfold eV cmpE
  dsimp only
  obtain ⟨W, hW⟩ : ∃ W, W = (w.alloc (.cells #[.string k1, .string h1, .int .u64 (s1 : Int)] 32)).alloc (.cells #[.string k2, .string h2, .int .u64 (s2 : Int)] 32) := ⟨_, rfl⟩
  have e1 : (w.alloc (.cells #[.string k1, .string h1, .int .u64 (s1 : Int)] 32)).heap.size = w.heap.size + 1 := by simp
  have ka : Cells W w.heap.size 32 [.string k1, .string h1, .int .u64 (s1 : Int)] := by rw [hW]; exact (Cells.new w _ _).alloc _
  have kb : Cells W (w.heap.size + 1) 32 [.string k2, .string h2, .int .u64 (s2 : Int)] := by rw [hW, ← e1]; exact Cells.new _ _ _
  have p0 : W.cell? ⟨w.heap.size, 0, none⟩ = some (.string k1) := ka.cell rfl
  have p1 : W.cell? ⟨w.heap.size, 1, none⟩ = some (.string h1) := ka.cell rfl
  have p2 : W.cell? ⟨w.heap.size, 2, none⟩ = some (.int .u64 (s1 : Int)) := ka.cell rfl
  have p3 : W.cell? ⟨w.heap.size + 1, 0, none⟩ = some (.string k2) := kb.cell rfl
  have p4 : W.cell? ⟨w.heap.size + 1, 1, none⟩ = some (.string h2) := kb.cell rfl
  have p5 : W.cell? ⟨w.heap.size + 1, 2, none⟩ = some (.int .u64 (s2 : Int)) := kb.cell rfl
  have Hc := Lib.hid fun (x y : ByteArray) w => cmpS_any x y w
  have Hu := Lib.hid fun (x y : Nat) w => cmpU_any x y w
  have Ho : Hid (∀ x y z, Calls Try.prog 45 #[.slice (some ⟨W.heap.size, 0, none⟩) 3 3] (W.drew.alloc (.cells #[.int .i64 x, .int .i64 y, .int .i64 z] 3)) fun e w' => e = .returned (.int .i64 (orI x (orI y z))) ∧ w' = W.drew.alloc (.cells #[.int .i64 x, .int .i64 y, .int .i64 z] 3)) :=
    fun x y z => orI3_any W.heap.size 3 x y z _ ((Cells.new W.drew _ _).cell rfl) ((Cells.new W.drew _ _).cell rfl) ((Cells.new W.drew _ _).cell rfl)
  have Hend : Hid (∀ x y z, Gr w (W.drew.alloc (.cells #[.int .i64 x, .int .i64 y, .int .i64 z] 3))) := fun x y z => by
    rw [hW]
    exact ((Gr.alloc w _).trans (Gr.alloc _ _)).trans ((Gr.drewN _ 1).trans (Gr.alloc _ _))
  have pB : ∀ o : Obj, (W.alloc o).drew.cell? ⟨w.heap.size, 0, none⟩ = some (.string k1) ∧ (W.alloc o).drew.cell? ⟨w.heap.size, 1, none⟩ = some (.string h1) ∧ (W.alloc o).drew.cell? ⟨w.heap.size, 2, none⟩ = some (.int .u64 (s1 : Int)) ∧ (W.alloc o).drew.cell? ⟨w.heap.size + 1, 0, none⟩ = some (.string k2) ∧ (W.alloc o).drew.cell? ⟨w.heap.size + 1, 1, none⟩ = some (.string h2) ∧ (W.alloc o).drew.cell? ⟨w.heap.size + 1, 2, none⟩ = some (.int .u64 (s2 : Int)) := fun o => ⟨(ka.alloc o).drew.cell rfl, (ka.alloc o).drew.cell rfl, (ka.alloc o).drew.cell rfl, (kb.alloc o).drew.cell rfl, (kb.alloc o).drew.cell rfl, (kb.alloc o).drew.cell rfl⟩
  have Hw : Hid (W.drew.heap.size = W.heap.size) := (rfl : W.drew.heap.size = W.heap.size)
  clear ka kb e1
  go_enter Try.func22, Try.ntmps22
  go_wp2_with fail
  rw [← hW]
  clear hW
  go_region_held3 (fun X => X.cell? ⟨w.heap.size, 0, none⟩ = some (.string k1) ∧ X.cell? ⟨w.heap.size, 1, none⟩ = some (.string h1) ∧ X.cell? ⟨w.heap.size, 2, none⟩ = some (.int .u64 (s1 : Int)) ∧ X.cell? ⟨w.heap.size + 1, 0, none⟩ = some (.string k2) ∧ X.cell? ⟨w.heap.size + 1, 1, none⟩ = some (.string h2) ∧ X.cell? ⟨w.heap.size + 1, 2, none⟩ = some (.int .u64 (s2 : Int))) (first | exact ⟨p0, p1, p2, p3, p4, p5⟩ | exact pB _) (first
    | (go_at_call 46; refine (Hc.out _ _ _).mono ?_; rintro e w2 ⟨rfl, rfl⟩)
    | (go_at_call 47; refine (Hu.out _ _ _).mono ?_; rintro e w2 ⟨rfl, rfl⟩)
    | (go_at_call 45; refine (Ho.out _ _ _).mono ?_; rintro e w2 ⟨rfl, rfl⟩))
  all_goals
    go_wp2_with fail
    go_ret
    exact ⟨rfl, Hend.out _ _ _⟩
end
end Go.Proofs.Ytghcfmkmndldoaa

/-
  Elisions compared by the second saying.
-/
namespace Go.Proofs.Ytghcfmkmndldoaa
open Go.RowKit Go.Sort Go.Lib

section
set_option maxRecDepth 100000
set_option maxHeartbeats 4000000
theorem rcmpE_any (a b : Ec) (w : World) : Calls Try.prog 23 #[eV a, eV b] w fun e w' => e = .returned (.int .i64 (cmpE a b)) ∧ Gr w w' := by
  obtain ⟨k1, h1, s1⟩ := a
  obtain ⟨k2, h2, s2⟩ := b
  unfold eV cmpE
  dsimp only
  obtain ⟨W, hW⟩ : ∃ W, W = (w.alloc (.cells #[.string k1, .string h1, .int .u64 (s1 : Int)] 32)).alloc (.cells #[.string k2, .string h2, .int .u64 (s2 : Int)] 32) := ⟨_, rfl⟩
  have e1 : (w.alloc (.cells #[.string k1, .string h1, .int .u64 (s1 : Int)] 32)).heap.size = w.heap.size + 1 := by simp
  have ka : Cells W w.heap.size 32 [.string k1, .string h1, .int .u64 (s1 : Int)] := by rw [hW]; exact (Cells.new w _ _).alloc _
  have kb : Cells W (w.heap.size + 1) 32 [.string k2, .string h2, .int .u64 (s2 : Int)] := by rw [hW, ← e1]; exact Cells.new _ _ _
  have p0 : W.cell? ⟨w.heap.size, 0, none⟩ = some (.string k1) := ka.cell rfl
  have p1 : W.cell? ⟨w.heap.size, 1, none⟩ = some (.string h1) := ka.cell rfl
  have p2 : W.cell? ⟨w.heap.size, 2, none⟩ = some (.int .u64 (s1 : Int)) := ka.cell rfl
  have p3 : W.cell? ⟨w.heap.size + 1, 0, none⟩ = some (.string k2) := kb.cell rfl
  have p4 : W.cell? ⟨w.heap.size + 1, 1, none⟩ = some (.string h2) := kb.cell rfl
  have p5 : W.cell? ⟨w.heap.size + 1, 2, none⟩ = some (.int .u64 (s2 : Int)) := kb.cell rfl
  have Hend : Hid (Gr w W) := by rw [hW]; exact (Gr.alloc w _).trans (Gr.alloc _ _)
  clear ka kb e1
  have K1 : ∀ x y : ByteArray, Op.bytesLess x.toList y.toList = true → cmpK x y = -1 := fun x y h => by unfold cmpK; rw [if_pos h]
  have K2 : ∀ x y : ByteArray, Op.bytesLess y.toList x.toList = true → cmpK x y = 1 := fun x y h => by unfold cmpK; rw [if_neg (by rw [less_asymm h]; simp), if_pos h]
  have O1 : ∀ x y : Int, x ≠ 0 → orI x y = x := fun x y h => by unfold orI; rw [if_neg h]
  have O0 : ∀ y : Int, orI 0 y = y := fun y => rfl
  have N : ∀ x y : ByteArray, Op.bytesLess x.toList y.toList = true → (x.toList == y.toList) = false := fun x y h => by
    rw [beq_eq_false_iff_ne]
    intro e
    rw [e, less_irrefl] at h
    cases h
  have N2 : ∀ x y : ByteArray, Op.bytesLess y.toList x.toList = true → (x.toList == y.toList) = false := fun x y h => by
    rw [beq_eq_false_iff_ne]
    intro e
    rw [e, less_irrefl] at h
    cases h
  rcases less_total k1.toList k2.toList with h | h | h
  · rw [K1 _ _ h, O1 _ _ (by decide)]
    have q1 := N _ _ h
    clear K1 K2 O1 O0 N N2
    go_enter Try.func23, Try.ntmps23
    go_wp2_with fail
    rw [← hW]
    clear hW
    go_wp2_with fail
    all_goals
      go_ret
      exact ⟨rfl, Hend.out⟩
  · have := array_inj h
    subst this
    have q3 : (k1.toList == k1.toList) = true := by simp
    rw [cmpK_zero.2 rfl, O0]
    rcases less_total h1.toList h2.toList with h | h | h
    · rw [K1 _ _ h, O1 _ _ (by decide)]
      have q1 := N _ _ h
      clear K1 K2 O1 O0 N N2
      go_enter Try.func23, Try.ntmps23
      go_wp2_with fail
      rw [← hW]
      clear hW
      go_wp2_with fail
      all_goals
        go_ret
        exact ⟨rfl, Hend.out⟩
    · have := array_inj h
      subst this
      have q4 : (h1.toList == h1.toList) = true := by simp
      rw [cmpK_zero.2 rfl, O0]
      unfold cmpN
      clear K1 K2 O1 O0 N N2
      rcases Nat.lt_trichotomy s1 s2 with q | q | q
      · rw [if_pos q]
        have q' : (s1 : Int) < (s2 : Int) := by omega
        go_enter Try.func23, Try.ntmps23
        go_wp2_with fail
        rw [← hW]
        clear hW
        go_wp2_with fail
        all_goals
          go_ret
          exact ⟨rfl, Hend.out⟩
      · subst q
        rw [if_neg (Nat.lt_irrefl _), if_neg (Nat.lt_irrefl _)]
        have q' : ¬ (s1 : Int) < (s1 : Int) := by omega
        go_enter Try.func23, Try.ntmps23
        go_wp2_with fail
        rw [← hW]
        clear hW
        go_wp2_with fail
        all_goals
          go_ret
          exact ⟨rfl, Hend.out⟩
      · rw [if_neg (by omega), if_pos q]
        have q' : ¬ (s1 : Int) < (s2 : Int) := by omega
        have q'' : (s1 : Int) > (s2 : Int) := by omega
        go_enter Try.func23, Try.ntmps23
        go_wp2_with fail
        rw [← hW]
        clear hW
        go_wp2_with fail
        all_goals
          go_ret
          exact ⟨rfl, Hend.out⟩
    · rw [K2 _ _ h, O1 _ _ (by decide)]
      have q1 := N2 _ _ h
      have q2 := less_asymm h
      clear K1 K2 O1 O0 N N2
      go_enter Try.func23, Try.ntmps23
      go_wp2_with fail
      rw [← hW]
      clear hW
      go_wp2_with fail
      all_goals
        go_ret
        exact ⟨rfl, Hend.out⟩
  · rw [K2 _ _ h, O1 _ _ (by decide)]
    have q1 := N2 _ _ h
    have q2 := less_asymm h
    clear K1 K2 O1 O0 N N2
    go_enter Try.func23, Try.ntmps23
    go_wp2_with fail
    rw [← hW]
    clear hW
    go_wp2_with fail
    all_goals
      go_ret
      exact ⟨rfl, Hend.out⟩
end
end Go.Proofs.Ytghcfmkmndldoaa
