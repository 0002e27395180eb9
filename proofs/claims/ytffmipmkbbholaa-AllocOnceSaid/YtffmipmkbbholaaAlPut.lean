/-
  put: a unit gets a state.
-/
import Derived.Test.YtffmipmkbbholaaAlSeek
namespace Go.Proofs.Ytffmipmkbbholaa
open Go.RowKit Go.Maps

section
variable {w w' : World} {tb db mb cap D Z : Nat} {g : St}
set_option maxRecDepth 20000
set_option maxHeartbeats 1600000
/-- one less of the old state, one more of the new -/
theorem put_counts {c : Nat → Nat → Int} {d z k Z : Nat} (g : St) (hz : z < Z) (hc : ∀ d k, c d k = (cnt (g d) k Z : Nat)) (d' k' : Nat) :
    upd (upd c d (g d z) (c d (g d z) - 1)) d k (upd c d (g d z) (c d (g d z) - 1) d k + 1) d' k' = (cnt (upd g d z k d') k' Z : Nat) := by
  by_cases hd : d' = d
  · subst hd
    have h := cnt_upd g (d := d') (z := z) (k := k) (j := k') hz
    simp only [b2n] at h
    by_cases h1 : k' = k
    · subst h1
      by_cases h2 : g d' z = k'
      · simp only [upd, h2, and_self, if_true, hc] at h ⊢
        simp at h
        omega
      · have h2' : ¬ k' = g d' z := fun e => h2 e.symm
        simp [h2] at h
        simp only [upd, h2', and_self, and_false, if_true, if_false, hc] at h ⊢
        omega
    · have h1' : ¬ k = k' := fun e => h1 e.symm
      by_cases h2 : g d' z = k'
      · simp [h2, h1'] at h
        simp only [upd, h2, h1, and_self, and_false, if_true, if_false, hc] at h ⊢
        omega
      · have h2' : ¬ k' = g d' z := fun e => h2 e.symm
        simp [h2, h1'] at h
        simp only [upd, h1, h2', and_false, if_false, hc] at h ⊢
        omega
  · rw [upd_other _ _ (fun q => hd q.1), upd_other _ _ (fun q => hd q.1), hc, upd_row g k hd]
theorem TabL.turned {w5 : World} {g g' : St} {c : Nat → Nat → Int} {l : Nat → Int} (h : TabL w tb db mb cap D Z g c l) (hu : UM w5 mb 3 (stU g') D Z) (hmt : w.mapTurned w5 mb) : TabL w5 tb db mb cap D Z g' c l :=
  ⟨h.tc.move (hmt.grown.block tb h.tc.lt (fun e => h.tb_mb (by cases e; rfl))), h.dc.move (hmt.grown.block db h.dc.lt (fun e => h.db_mb (by cases e; rfl))), hu⟩
/-- u == v, of units -/
theorem eql_unit (w : World) (a b c d : Int) : (Op.equalIn 10000 24 (.agg #[.int .i64 a, .int .i64 b]) (.agg #[.int .i64 c, .int .i64 d])).run Try.prog w = .ok (decide (a = c ∧ b = d)) w := by
  have u3 := Try.underlying3
  have a3 := Try.isAgg3
  have z3 := Try.sizeOf3
  have hS : Try.prog.underlying 24 = some (.struct (Try.prog.fieldsOf 24)) := by kernel_rfl
  rw [show (10000 : Nat) = 9999 + 1 from rfl, run_equalIn_agg w 9999 24 _ _ hS (by kernel_rfl)]
  simp only [Program.fieldsOf, Try.underlying24]
  go_simp
  by_cases h1 : a = c <;> by_cases h2 : b = d <;> simp [h1, h2]
theorem put_any (d z k : Nat) (hd : d < D) (hz : z < Z) (hk : k < 4) (h : TabAt w tb db mb cap D Z g) :
    Calls Try.prog 38 #[.pointer (some ⟨tb, 0, none⟩), uV d z, .int .i64 (k : Int)] w fun e w' => e = .returned (.tuple #[]) ∧ TabAt w' tb db mb cap D Z (upd g d z k) ∧ Kept (fun x => x ≠ db ∧ x ≠ mb) w w' := by
  unfold uV
  obtain ⟨W, hW⟩ : ∃ W, W = w.alloc (.cells #[.int .i64 (d : Int), .int .i64 (z : Int)] 24) := ⟨_, rfl⟩
  have h1 := h.alloc (.cells #[.int .i64 (d : Int), .int .i64 (z : Int)] 24)
  have Hk0 : Hid (Kept (fun x => x ≠ db ∧ x ≠ mb) w W) := by rw [hW]; exact (Kept.refl _ _).alloc _
  have Hbx : Hid (Cells W w.heap.size 24 [.int .i64 (d : Int), .int .i64 (z : Int)] ∧ w.heap.size ≠ db ∧ w.heap.size ≠ mb) := by
    rw [hW]
    exact ⟨Cells.new w _ _, (by have := h.dc.lt; omega), (by have := h.mc.lt; omega)⟩
  rw [← hW] at h1
  have hn := h1.d2
  have hn2 := h1.z2
  have H1 := Lib.hid h1
  have t1 := h1.t1
  have c0 : W.cell? ⟨w.heap.size, 0, none⟩ = some (.int .i64 (d : Int)) := Hbx.out.1.cell rfl
  have c1 : W.cell? ⟨w.heap.size, 1, none⟩ = some (.int .i64 (z : Int)) := Hbx.out.1.cell rfl
  have hdD : (d : Int) < (D : Int) := by omega
  generalize hB : w.heap.size = B at *
  have eg := Try.eqGuardType24
  clear h h1
  go_enter Try.func38, Try.ntmps38
  go_wp2_with fail
  rw [← hW]
  clear hW hB
  go_quiet (fail)
  have H2 := Lib.hid (H1.out.drewN nq)
  have Hk2 := Lib.hid (Hk0.out.drewN nq)
  have Hb2 : Hid (Cells (W.drewN nq) B 24 [.int .i64 (d : Int), .int .i64 (z : Int)]) := Hbx.out.1
  have HB := Lib.hid Hbx.out.2
  clear t1 c0 c1 H1 Hk0 Hbx
  generalize W.drewN nq = w2 at H2 Hk2 Hb2 ⊢
  have m2 := H2.out.m2
  have c0 : w2.cell? ⟨B, 0, none⟩ = some (.int .i64 (d : Int)) := Hb2.out.cell rfl
  have c1 : w2.cell? ⟨B, 1, none⟩ = some (.int .i64 (z : Int)) := Hb2.out.cell rfl
  have hlk : (Instr.lookup 58 (.map (some mb)) (.agg #[.int .i64 (d : Int), .int .i64 (z : Int)]) false).run Try.prog w2.drew = .ok (.int .i64 (g d z : Nat)) w2.drew := (H2.out.mc.drewN 1).look Try.underlying58 (by omega) (by omega) (stU_get g d z)
  have hs4 : g d z < 4 := by have := H2.out.le d z; omega
  have k2 : w2.cell? ⟨db, d * 6 + g d z, none⟩ = some (.int .i64 (cnt (g d) (g d z) Z : Nat)) := by rw [show d * 6 = 6 * d by omega]; exact H2.out.dc.cell hd hs4
  have hc1 : ((cnt (g d) (g d z) Z : Nat) : Int) ≤ 4096 := by have := cnt_le (g d) (g d z) Z; omega
  have Hst : Hid (TabL ((w2.setCell ⟨db, d * 6 + g d z, none⟩ (.int .i64 ((cnt (g d) (g d z) Z : Nat) - 1))).drew) tb db mb cap D Z g (upd (fun d k => (cnt (g d) k Z : Nat)) d (g d z) (((cnt (g d) (g d z) Z : Nat) : Int) - 1)) (fun d => (low (g d) Z : Nat)) ∧ Kept (fun x => x ≠ db ∧ x ≠ mb) w ((w2.setCell ⟨db, d * 6 + g d z, none⟩ (.int .i64 ((cnt (g d) (g d z) Z : Nat) - 1))).drew) ∧ Cells ((w2.setCell ⟨db, d * 6 + g d z, none⟩ (.int .i64 ((cnt (g d) (g d z) Z : Nat) - 1))).drew) B 24 [.int .i64 (d : Int), .int .i64 (z : Int)]) := by
    refine ⟨?_, (Hk2.out.drewN 1).setCell (fun q => q.1 rfl) _, Hb2.out.move (set_other (w := w2.drew) _ _ HB.out.1)⟩
    rw [show d * 6 = 6 * d by omega]
    exact (H2.out.toL.drewN 1).setC hd hs4 _
  have f2 : w2.frozen? ⟨db, d * 6 + g d z, none⟩ = false := H2.out.dc.frozen _
  obtain ⟨s, hs⟩ : ∃ s, s = g d z := ⟨_, rfl⟩
  obtain ⟨cs, hcs⟩ : ∃ cs, cs = cnt (g d) s Z := ⟨_, rfl⟩
  rw [← hs] at hlk hs4 k2 hc1 Hst f2
  rw [← hcs] at k2 hc1 Hst
  have Hs := Lib.hid (And.intro hs hcs)
  have hs4' : (s : Int) < 4 := by omega
  have Hg := Lib.hid (And.intro H2.out.le H2.out.out)
  have Hz := Lib.hid (And.intro H2.out.z1 H2.out.d1)
  have Hcap := Lib.hid H2.out.hcap
  clear H2 Hk2 Hb2 hs hcs
  go_wp2_with fail
  refine wp_region_still_tail 15 (by kernel_rfl) (by kernel_rfl) ?_
  simp only [List.take_succ_cons, List.take_zero, List.drop_succ_cons, List.drop_zero]
  repeat still_step
  refine wpStill_nil ?_
  change wpList _ _ _ _ _ w2.drew
  go_wp2_with fail
  clear m2 c0 c1 hlk k2 f2
  generalize (w2.setCell ⟨db, d * 6 + s, none⟩ (.int .i64 ((cs : Int) - 1))).drew = w3 at Hst ⊢
  obtain ⟨ck, hck⟩ : ∃ ck, ck = upd (fun d k => ((cnt (g d) k Z : Nat) : Int)) d s ((cs : Int) - 1) d k := ⟨_, rfl⟩
  have k3 : w3.cell? ⟨db, d * 6 + k, none⟩ = some (.int .i64 ck) := by rw [show d * 6 = 6 * d by omega, hck]; exact Hst.out.1.dc.cell hd hk
  have f3 : w3.frozen? ⟨db, d * 6 + k, none⟩ = false := Hst.out.1.dc.frozen _
  have hck1 : -1 ≤ ck ∧ ck ≤ 4096 := by
    rw [hck]
    simp only [upd]
    split
    · omega
    · have := cnt_le (g d) k Z; omega
  obtain ⟨hck2, hck3⟩ := hck1
  have hk4 : (k : Int) < 4 := by omega
  have Hst3 : Hid (TabL ((w3.setCell ⟨db, d * 6 + k, none⟩ (.int .i64 (ck + 1))).drew) tb db mb cap D Z g (fun d' k' => (cnt (upd g d z k d') k' Z : Nat)) (fun d => (low (g d) Z : Nat)) ∧ Kept (fun x => x ≠ db ∧ x ≠ mb) w ((w3.setCell ⟨db, d * 6 + k, none⟩ (.int .i64 (ck + 1))).drew) ∧ Cells ((w3.setCell ⟨db, d * 6 + k, none⟩ (.int .i64 (ck + 1))).drew) B 24 [.int .i64 (d : Int), .int .i64 (z : Int)]) := by
    refine ⟨?_, (Hst.out.2.1.drewN 1).setCell (fun q => q.1 rfl) _, Hst.out.2.2.move (set_other (w := w3.drew) _ _ HB.out.1)⟩
    rw [show d * 6 = 6 * d by omega, hck]
    refine ((Hst.out.1.drewN 1).setC hd hk _).congr (fun d' k' _ _ => ?_) fun _ _ => rfl
    have hp := put_counts (c := fun d k => ((cnt (g d) k Z : Nat) : Int)) (d := d) (z := z) (k := k) g hz (fun _ _ => rfl) d' k'
    rw [← Hs.out.1] at hp
    rw [← hp]
    simp only [Hs.out.2]
  clear Hst hck
  refine wp_region_still_tail 10 (by kernel_rfl) (by kernel_rfl) ?_
  simp only [List.take_succ_cons, List.take_zero, List.drop_succ_cons, List.drop_zero]
  repeat still_step
  refine wpStill_nil ?_
  change wpList _ _ _ _ _ w3.drew
  have Hg' : Hid ((∀ d' z', upd g d z k d' z' ≤ 3) ∧ ∀ d' z', ¬ (d' < D ∧ z' < Z) → upd g d z k d' z' = 0) := by
    refine ⟨fun d' z' => ?_, fun d' z' hq => ?_⟩
    · by_cases q : d' = d ∧ z' = z
      · simp only [upd, q, and_self, if_true]; omega
      · rw [upd_other _ _ q]; exact Hg.out.1 d' z'
    · rw [upd_other _ _ (fun e => hq ⟨by omega, by omega⟩)]; exact Hg.out.2 d' z' hq
  by_cases hk0 : k = 0
  · have hkb : ((k : Int) == 0) = true := by simp [hk0]
    have Hk0 := Lib.hid hk0
    clear hk0
    go_wp2_with fail
    clear k3 f3 hkb
    generalize (w3.setCell ⟨db, d * 6 + k, none⟩ (.int .i64 (ck + 1))).drew = w4 at *
    have m4 := Hst3.out.1.m2
    have c4 : w4.cell? ⟨B, 0, none⟩ = some (.int .i64 (d : Int)) := Hst3.out.2.2.cell rfl
    have c5 : w4.cell? ⟨B, 1, none⟩ = some (.int .i64 (z : Int)) := Hst3.out.2.2.cell rfl
    refine wp_region_still_tail 5 (by kernel_rfl) (by kernel_rfl) ?_
    simp only [List.take_succ_cons, List.take_zero, List.drop_succ_cons, List.drop_zero]
    repeat still_step
    refine wpStill_nil ?_
    change wpList _ _ _ _ _ w4.drew
    refine um_drop (e := 3) (t := 58) (d := d) (z := z) rfl _ _ rfl Try.underlying58 (Hst3.out.1.mc.drewN 1) hd hz rfl rfl ?_
    intro w5 hum hmt
    have Hst5 : Hid (TabL w5 tb db mb cap D Z (upd g d z k) (fun d' k' => (cnt (upd g d z k d') k' Z : Nat)) (fun d => (low (g d) Z : Nat)) ∧ Kept (fun x => x ≠ db ∧ x ≠ mb) w w5 ∧ Cells w5 B 24 [.int .i64 (d : Int), .int .i64 (z : Int)]) := by
      refine ⟨(Hst3.out.1.drewN 1).turned (w := w4.drew) ?_ hmt, (Hst3.out.2.1.drewN 1).grown hmt.grown (fun g e q => q.2 (by cases e; rfl)), Hst3.out.2.2.move (hmt.grown.block B Hst3.out.2.2.lt (fun e => HB.out.2 (by cases e; rfl)))⟩
      rw [Hk0.out, stU_zero]
      exact hum
    clear Hst3 hum hmt m4 c4 c5
    obtain ⟨L, hL⟩ : ∃ L, L = low (g d) Z := ⟨_, rfl⟩
    have hL1 : (L : Int) ≤ 4096 := by have := low_le (g d) Z; omega
    have k5 : w5.cell? ⟨db, d * 6 + 5, none⟩ = some (.int .i64 (L : Int)) := by rw [show d * 6 + 5 = 6 * d + 5 by omega, hL]; exact Hst5.out.1.dc.cellL hd
    have f5 : w5.frozen? ⟨db, d * 6 + 5, none⟩ = false := Hst5.out.1.dc.frozen _
    have c5 : w5.cell? ⟨B, 1, none⟩ = some (.int .i64 (z : Int)) := Hst5.out.2.2.cell rfl
    have Hfin : Hid (∀ m : Nat, m = min L z → TabAt (w5.setCell ⟨db, d * 6 + 5, none⟩ (.int .i64 (m : Int))).drew tb db mb cap D Z (upd g d z k) ∧ Kept (fun x => x ≠ db ∧ x ≠ mb) w (w5.setCell ⟨db, d * 6 + 5, none⟩ (.int .i64 (m : Int))).drew) := by
      intro m hm
      refine ⟨?_, (Hst5.out.2.1.setCell (fun q => q.1 rfl) _).drewN 1⟩
      have h6 := ((Hst5.out.1.setL hd (m : Int)).drewN 1).congr (c' := fun d' k' => (cnt (upd g d z k d') k' Z : Nat)) (l' := fun d' => (low (upd g d z k d') Z : Nat)) (fun _ _ _ _ => rfl) (fun d' _ => by
        rw [Hk0.out]
        by_cases q : d' = d
        · subst q; rw [if_pos rfl, low_freed g hz, ← hL, hm]
        · rw [if_neg q, upd_row g 0 q])
      rw [show d * 6 + 5 = 6 * d + 5 by omega]
      exact ⟨Hz.out.2, hn, Hz.out.1, hn2, Hcap.out, h6.tc, h6.dc, h6.mc, Hg'.out.1, Hg'.out.2⟩
    clear Hst5 hL
    by_cases hmin : z < L
    · have Hf := Lib.hid (Hfin.out z (by omega))
      have hmin' : (z : Int) < (L : Int) := by omega
      clear Hfin hmin
      go_wp2_with fail
      refine wp_region_still_tail 12 (by kernel_rfl) (by kernel_rfl) ?_
      simp only [List.take_succ_cons, List.take_zero, List.drop_succ_cons, List.drop_zero]
      repeat still_step
      refine wpStill_nil ?_
      change wpList _ _ _ _ _ w5.drew
      go_wp2_with fail
      try simp only [Exit.inBlock, Exit.then]
      refine bodyPost_ret (results_none rfl _ _ _) rfl ?_
      exact ⟨rfl, Hf.out⟩
    · have Hf := Lib.hid (Hfin.out L (by omega))
      have hmin' : ¬ (z : Int) < (L : Int) := by omega
      clear Hfin hmin
      go_wp2_with fail
      refine wp_region_still_tail 12 (by kernel_rfl) (by kernel_rfl) ?_
      simp only [List.take_succ_cons, List.take_zero, List.drop_succ_cons, List.drop_zero]
      repeat still_step
      refine wpStill_nil ?_
      change wpList _ _ _ _ _ w5.drew
      go_wp2_with fail
      try simp only [Exit.inBlock, Exit.then]
      refine bodyPost_ret (results_none rfl _ _ _) rfl ?_
      exact ⟨rfl, Hf.out⟩
  · have hk0' : ¬ (k : Int) = 0 := by omega
    go_wp2_with fail
    clear k3 f3
    generalize (w3.setCell ⟨db, d * 6 + k, none⟩ (.int .i64 (ck + 1))).drew = w4 at *
    have m4 := Hst3.out.1.m2
    have c4 : w4.cell? ⟨B, 0, none⟩ = some (.int .i64 (d : Int)) := Hst3.out.2.2.cell rfl
    have c5 : w4.cell? ⟨B, 1, none⟩ = some (.int .i64 (z : Int)) := Hst3.out.2.2.cell rfl
    refine wp_region_still_tail 6 (by kernel_rfl) (by kernel_rfl) ?_
    simp only [List.take_succ_cons, List.take_zero, List.drop_succ_cons, List.drop_zero]
    repeat still_step
    refine wpStill_nil ?_
    change wpList _ _ _ _ _ w4.drew
    refine um_store (e := 3) (t := 58) (d := d) (z := z) rfl _ _ _ rfl Try.underlying58 (Hst3.out.1.mc.drewN 1) hd hz (.int .i64 (k : Int)) (.lit (.int .i64 (k : Nat))) (plainElem_int Try.underlying3 (i64_nat (by omega)).wf) rfl rfl rfl ?_
    intro w5 hum hmt
    have Hst5 : Hid (TabL w5 tb db mb cap D Z (upd g d z k) (fun d' k' => (cnt (upd g d z k d') k' Z : Nat)) (fun d => (low (g d) Z : Nat)) ∧ Kept (fun x => x ≠ db ∧ x ≠ mb) w w5 ∧ Cells w5 B 24 [.int .i64 (d : Int), .int .i64 (z : Int)]) := by
      refine ⟨(Hst3.out.1.drewN 1).turned (w := w4.drew) ?_ hmt, (Hst3.out.2.1.drewN 1).grown hmt.grown (fun g e q => q.2 (by cases e; rfl)), Hst3.out.2.2.move (hmt.grown.block B Hst3.out.2.2.lt (fun e => HB.out.2 (by cases e; rfl)))⟩
      rw [stU_set _ _ _ _ hk0]
      exact hum
    clear Hst3 hum hmt m4 c4 c5
    obtain ⟨L, hL⟩ : ∃ L, L = low (g d) Z := ⟨_, rfl⟩
    have hL1 : (L : Int) ≤ 4096 := by have := low_le (g d) Z; omega
    have k4 : w5.cell? ⟨db, d * 6 + 4, none⟩ = some (.int .i64 (d : Int)) := by rw [show d * 6 + 4 = 6 * d + 4 by omega]; exact Hst5.out.1.dc.cellD hd
    have k5 : w5.cell? ⟨db, d * 6 + 5, none⟩ = some (.int .i64 (L : Int)) := by rw [show d * 6 + 5 = 6 * d + 5 by omega, hL]; exact Hst5.out.1.dc.cellL hd
    have c4 : w5.cell? ⟨B, 0, none⟩ = some (.int .i64 (d : Int)) := Hst5.out.2.2.cell rfl
    have c5 : w5.cell? ⟨B, 1, none⟩ = some (.int .i64 (z : Int)) := Hst5.out.2.2.cell rfl
    have HL := Lib.hid hL
    clear hL
    by_cases hzl : z = L
    · have hq : ∀ n, (Op.equalIn 10000 24 (.agg #[.int .i64 (d : Int), .int .i64 (z : Int)]) (.agg #[.int .i64 (d : Int), .int .i64 (L : Int)])).run Try.prog (w5.drewN n) = .ok true (w5.drewN n) := fun n => by
        rw [eql_unit, decide_eq_true ⟨rfl, by omega⟩]
      have Hseek : Hid (∀ n, Calls Try.prog 53 #[.pointer (some ⟨tb, 0, none⟩), .pointer (some ⟨db, d * 6, none⟩)] (w5.drewN n) fun e w' => e = .returned (.tuple #[]) ∧ TabAt w' tb db mb cap D Z (upd g d z k) ∧ Kept (fun x => x ≠ db ∧ x ≠ mb) w w') := by
        intro n
        have hsk := seek_any (w := w5.drewN n) (l := fun d' => (low (upd g d z k d') Z : Nat)) d L (by rw [HL.out]; exact low_le _ _) hd hn2 hn (g := upd g d z k) (fun y hy => by
          rw [upd_other _ _ (fun e => by omega)]
          rw [HL.out] at hy
          exact low_below _ _ _ hy) (Hg'.out.2 d Z (fun q => by omega)) ((Hst5.out.1.drewN n).congr (fun _ _ _ _ => rfl) (fun d' _ => by
            by_cases q : d' = d
            · subst q; rw [if_pos rfl, HL.out]
            · rw [if_neg q, upd_row g k q]))
        refine hsk.mono ?_
        rintro e w' ⟨he, h6, hk6⟩
        have h7 := h6.congr (c' := fun d' k' => (cnt (upd g d z k d') k' Z : Nat)) (l' := fun d' => (low (upd g d z k d') Z : Nat)) (fun _ _ _ _ => rfl) (fun d' _ => by
          by_cases q : d' = d
          · subst q; rw [if_pos rfl]
          · rw [if_neg q])
        refine ⟨he, ⟨Hz.out.2, hn, Hz.out.1, hn2, Hcap.out, h7.tc, h7.dc, h7.mc, Hg'.out.1, Hg'.out.2⟩, ?_⟩
        exact ((Hst5.out.2.1.drewN n).trans (hk6.mono fun b _ q => q.1))
      have hzt : ((z : Int) = (L : Int)) = True := by rw [hzl]; exact eq_self _
      clear Hst5 HL hzl
      go_wp2_with fail
      go_quiet (fail)
      go_wp2_with fail
      refine (Hseek.out nq).mono ?_
      rintro e w7 ⟨rfl, h7⟩
      have H7 := Lib.hid h7
      clear h7
      go_wp2_with fail
      go_end0
      exact ⟨rfl, H7.out⟩
    · have hq : ∀ n, (Op.equalIn 10000 24 (.agg #[.int .i64 (d : Int), .int .i64 (z : Int)]) (.agg #[.int .i64 (d : Int), .int .i64 (L : Int)])).run Try.prog (w5.drewN n) = .ok false (w5.drewN n) := fun n => by
        rw [eql_unit, decide_eq_false (by omega)]
      have Hf : Hid (∀ n, TabAt (w5.drewN n) tb db mb cap D Z (upd g d z k) ∧ Kept (fun x => x ≠ db ∧ x ≠ mb) w (w5.drewN n)) := by
        intro n
        have h7 := (Hst5.out.1.drewN n).congr (c' := fun d' k' => (cnt (upd g d z k d') k' Z : Nat)) (l' := fun d' => (low (upd g d z k d') Z : Nat)) (fun _ _ _ _ => rfl) (fun d' _ => by
          by_cases q : d' = d
          · subst q; rw [low_other g hz hk0 (by rw [← HL.out]; exact hzl)]
          · rw [upd_row g k q])
        exact ⟨⟨Hz.out.2, hn, Hz.out.1, hn2, Hcap.out, h7.tc, h7.dc, h7.mc, Hg'.out.1, Hg'.out.2⟩, Hst5.out.2.1.drewN n⟩
      have hzf : ((z : Int) = (L : Int)) = False := eq_false (by omega)
      clear Hst5 HL hzl
      go_wp2_with fail
      go_quiet (fail)
      go_wp2_with fail
      go_end0
      exact ⟨rfl, Hf.out nq⟩
end
end Go.Proofs.Ytffmipmkbbholaa
