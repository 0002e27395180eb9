/-
  The laws' Same, SameRows.
-/
import Derived.Test.YtghcfmkmndldoaaFa4
import Derived.Test.YtghcfmkmndldoaaZText
namespace Go.Proofs.Ytghcfmkmndldoaa
open Go.RowKit Go.Sort Go.Lib

theorem textB_eq (a b : ByteArray) : (a.toList == b.toList) = decide (a = b) := by
  rw [Bool.eq_iff_iff]
  simp only [beq_iff_eq, decide_eq_true_eq]
  exact ⟨array_inj, fun h => by rw [h]⟩
theorem mk_inj {a b : List UInt8} : (⟨a.toArray⟩ : ByteArray) = ⟨b.toArray⟩ ↔ a = b :=
  ⟨fun h => by have := congrArg (fun x : ByteArray => x.data.toList) h; simpa using this, fun h => by rw [h]⟩
section
set_option maxRecDepth 100000
set_option maxHeartbeats 4000000
theorem same_anyF (a b : Fc) (va vb : Value) (w : World) (hva : Vb w w.heap.size va a.2.2) (hvb : Vb w w.heap.size vb b.2.2) :
    Calls Try.prog 29 #[fcV a va, fcV b vb] w fun e w' => e = .returned (.bool (decide (a = b))) ∧ Gr w w' := by
  obtain ⟨k1, s1, l1⟩ := a
  obtain ⟨k2, s2, l2⟩ := b
  unfold fcV
  dsimp only at hva hvb ⊢
  obtain ⟨A1, c1, rfl, _, _, hr1⟩ := hva
  obtain ⟨A2, c2, rfl, _, _, hr2⟩ := hvb
  obtain ⟨W, hW⟩ : ∃ W, W = (w.alloc (.cells #[.string k1, .int .u64 (s1 : Int), .slice A1 l1.length c1] 50)).alloc (.cells #[.string k2, .int .u64 (s2 : Int), .slice A2 l2.length c2] 50) := ⟨_, rfl⟩
  have e1 : (w.alloc (.cells #[.string k1, .int .u64 (s1 : Int), .slice A1 l1.length c1] 50)).heap.size = w.heap.size + 1 := by simp
  have ka : Cells W w.heap.size 50 [.string k1, .int .u64 (s1 : Int), .slice A1 l1.length c1] := by rw [hW]; exact (Cells.new w _ _).alloc _
  have kb : Cells W (w.heap.size + 1) 50 [.string k2, .int .u64 (s2 : Int), .slice A2 l2.length c2] := by rw [hW, ← e1]; exact Cells.new _ _ _
  have p0 : W.cell? ⟨w.heap.size, 0, none⟩ = some (.string k1) := ka.cell rfl
  have p1 : W.cell? ⟨w.heap.size, 1, none⟩ = some (.int .u64 (s1 : Int)) := ka.cell rfl
  have p2 : W.cell? ⟨w.heap.size, 2, none⟩ = some (.slice A1 l1.length c1) := ka.cell rfl
  have q0 : W.cell? ⟨w.heap.size + 1, 0, none⟩ = some (.string k2) := kb.cell rfl
  have q1 : W.cell? ⟨w.heap.size + 1, 1, none⟩ = some (.int .u64 (s2 : Int)) := kb.cell rfl
  have q2 : W.cell? ⟨w.heap.size + 1, 2, none⟩ = some (.slice A2 l2.length c2) := kb.cell rfl
  have hg : Gr w W := by rw [hW]; exact (Gr.alloc w _).trans (Gr.alloc _ _)
  have t1 := text_run W w.heap.size A1 l1 c1 (hr1.below hg.below)
  have t2 := text_run W w.heap.size A2 l2 c2 (hr2.below hg.below)
  have Hend := Lib.hid hg
  have hm : (⟨l1.toArray⟩ : ByteArray) = ⟨l2.toArray⟩ ↔ l1 = l2 := mk_inj
  generalize (⟨l1.toArray⟩ : ByteArray) = x1 at *
  generalize (⟨l2.toArray⟩ : ByteArray) = x2 at *
  have Hd : Hid (decide ((k1, s1, l1) = (k2, s2, l2)) = (decide (k1 = k2) && (decide (s1 = s2) && decide (x1 = x2)))) := by
    show _ = _
    rw [Bool.eq_iff_iff]
    simp only [decide_eq_true_eq, Bool.and_eq_true, Prod.mk.injEq, hm]
  clear hm ka kb e1 hg hr1 hr2
  rw [Hd.out]
  clear Hd
  have hk : (k1.toList == k2.toList) = decide (k1 = k2) := textB_eq k1 k2
  have hx : (x1.toList == x2.toList) = decide (x1 = x2) := textB_eq x1 x2
  by_cases e1 : k1 = k2
  · rw [decide_eq_true e1] at hk ⊢
    subst e1
    by_cases e2 : s1 = s2
    · rw [decide_eq_true e2] at ⊢
      subst e2
      have e2b : ((s1 : Int) == (s1 : Int)) = true := by rw [beq_iff_eq]
      by_cases e3 : x1 = x2
      · rw [decide_eq_true e3] at hx ⊢
        subst e3
        go_enter Try.func29, Try.ntmps29
        go_upto_region 1 with fail
        rw [← hW]
        clear hW
        go_wp2_with fail
        all_goals
          go_ret
          exact ⟨by simp_all, Hend.out⟩
      · rw [decide_eq_false e3] at hx ⊢
        go_enter Try.func29, Try.ntmps29
        go_upto_region 1 with fail
        rw [← hW]
        clear hW
        go_wp2_with fail
        all_goals
          go_ret
          exact ⟨by simp_all, Hend.out⟩
    · rw [decide_eq_false e2] at ⊢
      have e2' : ¬ (s1 : Int) = (s2 : Int) := by omega
      have e2b : ((s1 : Int) == (s2 : Int)) = false := by rw [beq_eq_false_iff_ne]; exact e2'
      go_enter Try.func29, Try.ntmps29
      go_upto_region 1 with fail
      rw [← hW]
      clear hW
      go_wp2_with fail
      all_goals
        go_ret
        exact ⟨by simp_all, Hend.out⟩
  · rw [decide_eq_false e1] at hk ⊢
    go_enter Try.func29, Try.ntmps29
    go_upto_region 1 with fail
    rw [← hW]
    clear hW
    go_wp2_with fail
    all_goals
      go_ret
      exact ⟨by simp_all, Hend.out⟩
end
end Go.Proofs.Ytghcfmkmndldoaa
