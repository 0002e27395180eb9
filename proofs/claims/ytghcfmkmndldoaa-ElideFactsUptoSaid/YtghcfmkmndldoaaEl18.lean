/-
  The second saying's Add.
-/
import Derived.Test.YtghcfmkmndldoaaEl17
import Derived.Deep.RegionHeldLaw
namespace Go.Proofs.Ytghcfmkmndldoaa
open Go.RowKit Go.Sort Go.Lib

theorem OwnE.notSet {w : World} {base g : Nat} {v u : Value} {es : List Ec} (h : OwnE w base v es) (hc : Cells w g 29 [u]) : v.ownBlock ≠ some g := fun e => by
  rcases h.2 with ⟨e1, _⟩ | ⟨b, cap, cur, e1, _, hh, _⟩
  · rw [e1] at e; cases e
  · rw [e1] at e
    cases e
    unfold Cells at hc
    rw [hh] at hc
    cases hc
section
set_option maxRecDepth 100000
set_option maxHeartbeats 8000000
theorem radd_any (e : Ec) (base g : Nat) (v : Value) (l : List Ec) (w : World) (h : RefSet w base g v l) (hb : base ≤ w.heap.size) (hl : l.length < 1000000) :
    Calls Try.prog 9 #[.pointer (some ⟨g, 0, none⟩), eV e] w fun r w' => r = .returned (.int .i64 (chkE e)) ∧
      ((chkE e = 0 ∧ ∃ v', RefSet w' base g v' (l ++ [e]) ∧ (v'.ownBlock = v.ownBlock ∨ ∀ b, v'.ownBlock = some b → w.heap.size ≤ b)) ∨ (chkE e = 1 ∧ RefSet w' base g v l)) ∧ Kept (fun k => k ≠ g ∧ v.ownBlock ≠ some k) w w' := by
  obtain ⟨W1, hW1⟩ : ∃ W1, W1 = w.alloc (.cells #[.string e.1, .string e.2.1, .int .u64 (e.2.2 : Int)] 32) := ⟨_, rfl⟩
  have hb1 : Below w.heap.size w W1 := by rw [hW1]; exact (Below.refl _ _).alloc (Nat.le_refl _) _
  have hC1 : Cells W1 w.heap.size 32 (cellE e) := by rw [hW1]; exact Cells.new w _ _
  have HCk := Lib.hid (rcheck_any e W1)
  have H0 : Hid (RefSet w base g v l ∧ base ≤ w.heap.size ∧ l.length < 1000000 ∧ Below w.heap.size w W1 ∧ Cells W1 w.heap.size 32 (cellE e)) := ⟨h, hb, hl, hb1, hC1⟩
  have e0 := hC1.cell (i := 0) rfl
  have e1 := hC1.cell (i := 1) rfl
  have e2 := hC1.cell (i := 2) rfl
  have hce : chkE e = 0 ∨ chkE e = 1 := by unfold chkE; split <;> simp
  unfold eV at HCk ⊢
  clear h hb hl hb1 hC1
  rw [hW1] at e0 e1 e2
  go_enter Try.func9, Try.ntmps9
  go_wp2_with fail
  rw [← hW1]
  clear hW1 e0 e1 e2
  refine HCk.out.mono ?_
  rintro r w2 ⟨rfl, hb2⟩
  have hbw2 : Below w.heap.size w w2 := H0.out.2.2.2.1.trans (hb2.mono H0.out.2.2.2.1.size)
  have hC2 := H0.out.2.2.2.2.move (hb2.block _ H0.out.2.2.2.2.lt)
  have hR2 := H0.out.1.below hbw2
  have H2 : Hid (Below w.heap.size w w2 ∧ RefSet w2 base g v l) := ⟨hbw2, hR2⟩
  have e0 := hC2.cell (i := 0) rfl
  have e1 := hC2.cell (i := 1) rfl
  have e2 := hC2.cell (i := 2) rfl
  have g0 := hR2.cell.cell (i := 0) rfl
  have d0 : w2.drew.cell? ⟨w.heap.size, 0, none⟩ = some (.string e.1) := e0
  have d1 : w2.drew.cell? ⟨w.heap.size, 1, none⟩ = some (.string e.2.1) := e1
  have d2 : w2.drew.cell? ⟨w.heap.size, 2, none⟩ = some (.int .u64 (e.2.2 : Int)) := e2
  have d3 : w2.drew.cell? ⟨g, 0, none⟩ = some v := g0
  clear hb2 hbw2 hC2 hR2 HCk
  rcases hce with hce | hce
  · have Hce := Lib.hid hce
    rw [hce]
    clear hce
    obtain ⟨Y, hY⟩ : ∃ Y, Y = w2.alloc (.cells #[.string e.1, .string e.2.1, .int .u64 (e.2.2 : Int)] 32) := ⟨_, rfl⟩
    have hYb : Below w2.heap.size w2 Y := by rw [hY]; exact (Below.refl _ _).alloc (Nat.le_refl _) _
    have hYr : RE Y (w2.heap.size + 1) (some ⟨w2.heap.size, 0, none⟩) [e] := by rw [hY]; exact RE.one w2 e
    have hYw : Below w.heap.size w Y := H2.out.1.trans (hYb.mono H2.out.1.size)
    have hYs := H2.out.2.below hYb
    have Hst : Hid (∀ X, (X = Y ∨ X = Y.drew) → OwnE X base v l ∧ RE X (w2.heap.size + 1) (some ⟨w2.heap.size, 0, none⟩) [e] ∧ base ≤ X.heap.size) := fun X hX => by
      have hs := hYw.size
      have h9 := H0.out.2.1
      rcases hX with rfl | rfl
      · exact ⟨hYs.own, hYr, by omega⟩
      · exact ⟨hYs.own, hYr, by show base ≤ Y.heap.size; omega⟩
    have Haft : Hid (∀ X v6 w6, (X = Y ∨ X = Y.drew) → OwnE w6 base v6 (l ++ [e]) → X.grownBy w6 v.ownBlock → (v6.ownBlock = v.ownBlock ∨ v6.ownBlock = some X.heap.size) →
        Cells w6 g 29 [v] ∧ Hid (RefSet (w6.setCell ⟨g, 0, none⟩ v6) base g v6 (l ++ [e]) ∧ (v6.ownBlock = v.ownBlock ∨ ∀ b, v6.ownBlock = some b → w.heap.size ≤ b) ∧ Kept (fun k => k ≠ g ∧ v.ownBlock ≠ some k) w (w6.setCell ⟨g, 0, none⟩ v6))) := fun X v6 w6 hX r6 g6 h6 => by
      have hcX : Cells X g 29 [v] := by
        rcases hX with rfl | rfl
        · exact hYs.cell
        · exact hYs.cell
      have hXw : Below w.heap.size w X := by
        rcases hX with rfl | rfl
        · exact hYw
        · exact hYw.drew
      have hc6 : Cells w6 g 29 [v] := hcX.move (g6.block _ hcX.lt (fun q => hYs.own.notSet hYs.cell q.symm))
      refine ⟨hc6, ⟨hc6.set 0 v6, r6.move fun b hb => Below.heap_setCell _ _ _ _ (fun q => r6.notSet hc6 (by rw [hb]; exact congrArg some q)), by have := H0.out.2.2.1; simp; omega⟩, ?_, ?_⟩
      · rcases h6 with q | q
        · exact .inl q
        · right
          intro b hb
          rw [q] at hb
          cases hb
          exact hXw.size
      · have k1 : Kept (fun k => k ≠ g ∧ v.ownBlock ≠ some k) w X := ⟨hXw.os, hXw.tape, hXw.output, hXw.size, fun b hb _ => hXw.block b hb⟩
        exact (k1.grown g6 fun b hb q => q.2 hb).setCell (p := ⟨g, 0, none⟩) (fun q => q.1 rfl) _
    have d4 : Y.cell? ⟨g, 0, none⟩ = some v := hYs.cell.cell (i := 0) rfl
    rw [hY] at Hst Haft d4
    clear hY hYb hYr hYw hYs
    have Hlen : Hid (l.length + 1 ≤ 1099511627776) := by show _ ≤ _; have := H0.out.2.2.1; omega
    clear H2 H0
    go_upto_region 3 with fail
    go_region_law (first | (go_must (refine step_app_elisions (fs := [e]) (by rfl) (.tmp 12) (.tmp 14) (by rfl) (by rfl) (Hst.out _ (by first | exact .inl (by with_reducible rfl) | exact .inr (by with_reducible rfl))).1 1 1 (by rfl) rfl (Hst.out _ (by first | exact .inl (by with_reducible rfl) | exact .inr (by with_reducible rfl))).2.1 Hlen.out (Hst.out _ (by first | exact .inl (by with_reducible rfl) | exact .inr (by with_reducible rfl))).2.2 ?_); intro v6 w6 r6 g6 h6; obtain ⟨A6, n6, e6, _⟩ := r6.rd; rw [show (l ++ [e]).length = l.length + 1 by simp] at e6; subst e6; obtain ⟨c6, H6⟩ := Haft.out _ _ w6 (by first | exact .inl (by with_reducible rfl) | exact .inr (by with_reducible rfl)) r6 g6 h6; have x6 := c6.cell (i := 0) rfl; have z6 := c6.frozen 0; clear r6 g6 h6 c6))
    all_goals
      go_wp2_with fail
      go_ret
      exact ⟨by rw [Hce.out]; rfl, .inl ⟨Hce.out, _, H6.out.1, H6.out.2.1⟩, H6.out.2.2⟩
  · have Hce := Lib.hid hce
    rw [hce]
    clear hce
    have Hf : Hid (RefSet w2 base g v l ∧ Kept (fun k => k ≠ g ∧ v.ownBlock ≠ some k) w w2) := ⟨H2.out.2, H2.out.1.os, H2.out.1.tape, H2.out.1.output, H2.out.1.size, fun b hb _ => H2.out.1.block b hb⟩
    clear H0 H2 d0 d1 d2 d3
    go_wp2_with fail
    go_ret
    exact ⟨by rw [Hce.out]; rfl, .inr ⟨Hce.out, Hf.out.1⟩, Hf.out.2⟩
end
end Go.Proofs.Ytghcfmkmndldoaa
