/-
  seek: a drive's lowest free unit is looked for.
-/
import Derived.Test.YtajpnjapfiffmaaKAlRead
import Derived.Deep.LoopGhost
namespace Go.Proofs.Ytajpnjapfiffmaa
open Go.RowKit Go.Maps

/-- a table whose drives' lowest ones are l's -/
structure TabL (w : World) (tb db mb cap D Z : Nat) (g : St) (c : Nat → Nat → Int) (l : Nat → Int) : Prop where
  tc : Cells w tb 61 [.int .i64 (Z : Int), .slice (some ⟨db, 0, none⟩) D cap, .map (some mb)]
  dc : DC w db D c l
  mc : UM w mb 3 (stU g) D Z
section
variable {w w' : World} {tb db mb cap D Z : Nat} {g : St} {c : Nat → Nat → Int} {l : Nat → Int}
theorem TabAt.toL (h : TabAt w tb db mb cap D Z g) : TabL w tb db mb cap D Z g (fun d k => (cnt (g d) k Z : Nat)) (fun d => (low (g d) Z : Nat)) := ⟨h.tc, h.dc, h.mc⟩
theorem TabL.drewN (h : TabL w tb db mb cap D Z g c l) (n : Nat) : TabL (w.drewN n) tb db mb cap D Z g c l := ⟨h.tc, h.dc, h.mc⟩
theorem TabL.drew (h : TabL w tb db mb cap D Z g c l) : TabL w.drew tb db mb cap D Z g c l := ⟨h.tc, h.dc, h.mc⟩
theorem TabL.tb_db (h : TabL w tb db mb cap D Z g c l) : tb ≠ db := fun e => by
  obtain ⟨cur, h1, _⟩ := h.dc
  have := h.tc
  unfold Cells at this
  rw [e, h1] at this
  simp at this
theorem TabL.tb_mb (h : TabL w tb db mb cap D Z g c l) : tb ≠ mb := fun e => h.mc.not_cells (e ▸ h.tc)
theorem TabL.db_mb (h : TabL w tb db mb cap D Z g c l) : db ≠ mb := fun e => by
  obtain ⟨cur, h1, _⟩ := h.dc
  exact h.mc.not_cells (e ▸ h1)
theorem set_other {w : World} {b x : Nat} (i : Nat) (v : Value) (h : x ≠ b) : (w.setCell ⟨b, i, none⟩ v).heap[x]? = w.heap[x]? := Below.heap_setCell _ _ _ _ h
theorem TabL.setC (h : TabL w tb db mb cap D Z g c l) {d k : Nat} (hd : d < D) (hk : k < 4) (x : Int) : TabL (w.setCell ⟨db, 6 * d + k, none⟩ (.int .i64 x)) tb db mb cap D Z g (upd c d k x) l :=
  ⟨h.tc.move (set_other _ _ h.tb_db), h.dc.set hd hk x, h.mc.move (set_other _ _ h.db_mb.symm)⟩
theorem TabL.setL (h : TabL w tb db mb cap D Z g c l) {d : Nat} (hd : d < D) (x : Int) : TabL (w.setCell ⟨db, 6 * d + 5, none⟩ (.int .i64 x)) tb db mb cap D Z g c (fun d' => if d' = d then x else l d') :=
  ⟨h.tc.move (set_other _ _ h.tb_db), h.dc.setL hd x, h.mc.move (set_other _ _ h.db_mb.symm)⟩
theorem TabL.congr {c' : Nat → Nat → Int} {l' : Nat → Int} (h : TabL w tb db mb cap D Z g c l) (hc : ∀ d k, d < D → k < 4 → c' d k = c d k) (hl : ∀ d, d < D → l' d = l d) : TabL w tb db mb cap D Z g c' l' :=
  ⟨h.tc, h.dc.congr hc hl, h.mc⟩
theorem TabL.m2 (h : TabL w tb db mb cap D Z g c l) : w.cell? ⟨tb, 2, none⟩ = some (.map (some mb)) := h.tc.cell rfl
theorem TabL.t1 (h : TabL w tb db mb cap D Z g c l) : w.cell? ⟨tb, 1, none⟩ = some (.slice (some ⟨db, 0, none⟩) D cap) := h.tc.cell rfl
theorem Kept.setDb {K : Nat → Prop} (h : Kept K w w') {b : Nat} (hb : ¬ K b) (i : Nat) (v : Value) : Kept K w (w'.setCell ⟨b, i, none⟩ v) := h.setCell hb v
theorem drewN_kept {K : Nat → Prop} (h : Kept K w w') (n : Nat) : Kept K w (w'.drewN n) := h.drewN n

set_option maxRecDepth 20000
set_option maxHeartbeats 1600000
theorem seek_any (d l0 : Nat) (hl0 : l0 ≤ Z) (hd : d < D) (hZ : Z ≤ 4096) (hD : D ≤ 32) (hlow : ∀ z, z < l0 → g d z ≠ 0) (hz : g d Z = 0) (h : TabL w tb db mb cap D Z g c (fun d' => if d' = d then (l0 : Int) else l d')) :
    Calls Try.prog 53 #[.pointer (some ⟨tb, 0, none⟩), .pointer (some ⟨db, d * 6, none⟩)] w fun e w' => e = .returned (.tuple #[]) ∧ TabL w' tb db mb cap D Z g c (fun d' => if d' = d then (low (g d) Z : Nat) else l d') ∧ Kept (fun x => x ≠ db) w w' := by
  have H0 := Lib.hid h
  have Hl := Lib.hid hlow
  have Hz := Lib.hid hz
  clear h hlow hz
  go_enter Try.func53, Try.ntmps53
  go_wp2_with fail
  go_loopg [4] (Z - l0) (fun gk _ wr => ∃ l1 : Nat, l1 ≤ Z ∧ Z - l1 ≤ gk ∧ Hid (∀ z, z < l1 → g d z ≠ 0) ∧ Hid (TabL wr tb db mb cap D Z g c (fun d' => if d' = d then (l1 : Int) else l d')) ∧ Hid (Kept (fun x => x ≠ db) w wr))
  case atStart => exact ⟨l0, hl0, Nat.le_refl _, Hl.out, H0.out, Kept.refl _ _⟩
  case round =>
    obtain ⟨l1, h1, hgk, hne, ht, hk⟩ := hrel
    have m2 := ht.out.m2
    have k4 : wr.cell? ⟨db, d * 6 + 4, none⟩ = some (.int .i64 (d : Int)) := by rw [show d * 6 + 4 = 6 * d + 4 by omega]; exact ht.out.dc.cellD hd
    have k5 : wr.cell? ⟨db, d * 6 + 5, none⟩ = some (.int .i64 (l1 : Int)) := by rw [show d * 6 + 5 = 6 * d + 5 by omega, ht.out.dc.cellL hd, if_pos rfl]
    have hlk : ∀ n, (Instr.lookup 58 (.map (some mb)) (.agg #[.int .i64 (d : Int), .int .i64 (l1 : Int)]) false).run Try.prog (wr.drewN n) = .ok (.int .i64 (g d l1 : Nat)) (wr.drewN n) := fun n => (ht.out.mc.drewN n).look Try.underlying58 (by omega) (by omega) (stU_get g d l1)
    obtain ⟨s, hs⟩ : ∃ s, s = g d l1 := ⟨_, rfl⟩
    rw [← hs] at hlk
    have Hs := Lib.hid hs
    clear hs
    go_wp2_with fail
    go_quiet (fail)
    have Ht := Lib.hid (ht.out.drewN nq)
    have Hk := Lib.hid (hk.out.drewN nq)
    clear m2 k4 k5 hlk ht hk
    generalize wr.drewN nq = w2 at Ht Hk ⊢
    by_cases h0 : s = 0
    · subst h0
      have Hend : Hid (TabL w2 tb db mb cap D Z g c (fun d' => if d' = d then (low (g d) Z : Nat) else l d') ∧ Kept (fun x => x ≠ db) w w2) := by
        have e : l1 = low (g d) Z := low_uniq h1 hne.out fun _ => Hs.out.symm
        rw [← e]
        exact ⟨Ht.out, Hk.out⟩
      clear Ht Hk Hs hne
      go_wp2_with fail
      go_end0
      exact ⟨rfl, Hend.out⟩
    · have hlt : l1 < Z := by
        rcases Nat.lt_or_ge l1 Z with q | q
        · exact q
        · obtain rfl : l1 = Z := by omega
          exact absurd (Hs.out.trans Hz.out) h0
      have hs0 : ¬ (s : Int) = 0 := by omega
      have k5 : w2.cell? ⟨db, d * 6 + 5, none⟩ = some (.int .i64 (l1 : Int)) := by rw [show d * 6 + 5 = 6 * d + 5 by omega, Ht.out.dc.cellL hd, if_pos rfl]
      have f5 : w2.frozen? ⟨db, d * 6 + 5, none⟩ = false := Ht.out.dc.frozen _
      have hl1 : (l1 : Int) ≤ 4096 := by omega
      have Hn : Hid (TabL (w2.setCell ⟨db, d * 6 + 5, none⟩ (.int .i64 ((l1 : Int) + 1))) tb db mb cap D Z g c (fun d' => if d' = d then ((l1 + 1 : Nat) : Int) else l d') ∧ Kept (fun x => x ≠ db) w (w2.setCell ⟨db, d * 6 + 5, none⟩ (.int .i64 ((l1 : Int) + 1))) ∧ ∀ z, z < l1 + 1 → g d z ≠ 0) := by
        refine ⟨?_, Hk.out.setCell (fun q => q rfl) _, fun z hz => ?_⟩
        · rw [show d * 6 + 5 = 6 * d + 5 by omega]
          refine (Ht.out.setL hd ((l1 : Int) + 1)).congr (fun _ _ _ _ => rfl) fun d' _ => ?_
          by_cases q : d' = d
          · simp [q]
          · simp [q]
        · by_cases q : z = l1
          · subst q; rw [← Hs.out]; exact h0
          · exact hne.out z (by omega)
      clear Ht Hk Hs hne h0 h1
      go_wp2_with fail
      go_roundg (Z - (l1 + 1))
      case measure => omega
      case rel => exact ⟨l1 + 1, by omega, by omega, Hn.out.2.2, Hn.out.1, Hn.out.2.1⟩
end
end Go.Proofs.Ytajpnjapfiffmaa

/-
  put: a unit gets a state.
-/
namespace Go.Proofs.Ytajpnjapfiffmaa
open Go.RowKit Go.Maps

section
variable {w w' : World} {tb db mb cap D Z : Nat} {g : St}
set_option maxRecDepth 20000
set_option maxHeartbeats 1600000
/-- one less of the old state, one more of the new -/
theorem put_counts {c : Nat → Nat → Int} {d z k Z : Nat} (g : St) (hz : z < Z) (hc : ∀ d k, c d k = (cnt (g d) k Z : Nat)) (d' k' : Nat) :
    upd (upd c d (g d z) (c d (g d z) - 1)) d k (upd c d (g d z) (c d (g d z) - 1) d k + 1) d' k' = (cnt (upd g d z k d') k' Z : Nat) := by
  by_cases hd : d' = d
  · subst hd
    have h := cnt_upd g (d := d') (z := z) (k := k) (j := k') hz
    simp only [b2n] at h
    by_cases h1 : k' = k
    · subst h1
      by_cases h2 : g d' z = k'
      · simp only [upd, h2, and_self, if_true, hc] at h ⊢
        simp at h
        omega
      · have h2' : ¬ k' = g d' z := fun e => h2 e.symm
        simp [h2] at h
        simp only [upd, h2', and_self, and_false, if_true, if_false, hc] at h ⊢
        omega
    · have h1' : ¬ k = k' := fun e => h1 e.symm
      by_cases h2 : g d' z = k'
      · simp [h2, h1'] at h
        simp only [upd, h2, h1, and_self, and_false, if_true, if_false, hc] at h ⊢
        omega
      · have h2' : ¬ k' = g d' z := fun e => h2 e.symm
        simp [h2, h1'] at h
        simp only [upd, h1, h2', and_false, if_false, hc] at h ⊢
        omega
  · rw [upd_other _ _ (fun q => hd q.1), upd_other _ _ (fun q => hd q.1), hc, upd_row g k hd]
theorem TabL.turned {w5 : World} {g g' : St} {c : Nat → Nat → Int} {l : Nat → Int} (h : TabL w tb db mb cap D Z g c l) (hu : UM w5 mb 3 (stU g') D Z) (hmt : w.mapTurned w5 mb) : TabL w5 tb db mb cap D Z g' c l :=
  ⟨h.tc.move (hmt.grown.block tb h.tc.lt (fun e => h.tb_mb (by cases e; rfl))), h.dc.move (hmt.grown.block db h.dc.lt (fun e => h.db_mb (by cases e; rfl))), hu⟩
/-- u == v, of units -/
theorem eql_unit (w : World) (a b c d : Int) : (Op.equalIn 10000 24 (.agg #[.int .i64 a, .int .i64 b]) (.agg #[.int .i64 c, .int .i64 d])).run Try.prog w = .ok (decide (a = c ∧ b = d)) w := by
  have u3 := Try.underlying3
  have a3 := Try.isAgg3
  have z3 := Try.sizeOf3
  have hS : Try.prog.underlying 24 = some (.struct (Try.prog.fieldsOf 24)) := by kernel_rfl
  rw [show (10000 : Nat) = 9999 + 1 from rfl, run_equalIn_agg w 9999 24 _ _ hS (by kernel_rfl)]
  simp only [Program.fieldsOf, Try.underlying24]
  go_simp
  by_cases h1 : a = c <;> by_cases h2 : b = d <;> simp [h1, h2]
theorem put_any (d z k : Nat) (hd : d < D) (hz : z < Z) (hk : k < 4) (h : TabAt w tb db mb cap D Z g) :
    Calls Try.prog 38 #[.pointer (some ⟨tb, 0, none⟩), uV d z, .int .i64 (k : Int)] w fun e w' => e = .returned (.tuple #[]) ∧ TabAt w' tb db mb cap D Z (upd g d z k) ∧ Kept (fun x => x ≠ db ∧ x ≠ mb) w w' := by
  unfold uV
  obtain ⟨W, hW⟩ : ∃ W, W = w.alloc (.cells #[.int .i64 (d : Int), .int .i64 (z : Int)] 24) := ⟨_, rfl⟩
  have h1 := h.alloc (.cells #[.int .i64 (d : Int), .int .i64 (z : Int)] 24)
  have Hk0 : Hid (Kept (fun x => x ≠ db ∧ x ≠ mb) w W) := by rw [hW]; exact (Kept.refl _ _).alloc _
  have Hbx : Hid (Cells W w.heap.size 24 [.int .i64 (d : Int), .int .i64 (z : Int)] ∧ w.heap.size ≠ db ∧ w.heap.size ≠ mb) := by
    rw [hW]
    exact ⟨Cells.new w _ _, (by have := h.dc.lt; omega), (by have := h.mc.lt; omega)⟩
  rw [← hW] at h1
  have hn := h1.d2
  have hn2 := h1.z2
  have H1 := Lib.hid h1
  have t1 := h1.t1
  have c0 : W.cell? ⟨w.heap.size, 0, none⟩ = some (.int .i64 (d : Int)) := Hbx.out.1.cell rfl
  have c1 : W.cell? ⟨w.heap.size, 1, none⟩ = some (.int .i64 (z : Int)) := Hbx.out.1.cell rfl
  have hdD : (d : Int) < (D : Int) := by omega
  generalize hB : w.heap.size = B at *
  have eg := Try.eqGuardType24
  clear h h1
  go_enter Try.func38, Try.ntmps38
  go_wp2_with fail
  rw [← hW]
  clear hW hB
  go_quiet (fail)
  have H2 := Lib.hid (H1.out.drewN nq)
  have Hk2 := Lib.hid (Hk0.out.drewN nq)
  have Hb2 : Hid (Cells (W.drewN nq) B 24 [.int .i64 (d : Int), .int .i64 (z : Int)]) := Hbx.out.1
  have HB := Lib.hid Hbx.out.2
  clear t1 c0 c1 H1 Hk0 Hbx
  generalize W.drewN nq = w2 at H2 Hk2 Hb2 ⊢
  have m2 := H2.out.m2
  have c0 : w2.cell? ⟨B, 0, none⟩ = some (.int .i64 (d : Int)) := Hb2.out.cell rfl
  have c1 : w2.cell? ⟨B, 1, none⟩ = some (.int .i64 (z : Int)) := Hb2.out.cell rfl
  have hlk : (Instr.lookup 58 (.map (some mb)) (.agg #[.int .i64 (d : Int), .int .i64 (z : Int)]) false).run Try.prog w2.drew = .ok (.int .i64 (g d z : Nat)) w2.drew := (H2.out.mc.drewN 1).look Try.underlying58 (by omega) (by omega) (stU_get g d z)
  have hs4 : g d z < 4 := by have := H2.out.le d z; omega
  have k2 : w2.cell? ⟨db, d * 6 + g d z, none⟩ = some (.int .i64 (cnt (g d) (g d z) Z : Nat)) := by rw [show d * 6 = 6 * d by omega]; exact H2.out.dc.cell hd hs4
  have hc1 : ((cnt (g d) (g d z) Z : Nat) : Int) ≤ 4096 := by have := cnt_le (g d) (g d z) Z; omega
  have Hst : Hid (TabL ((w2.setCell ⟨db, d * 6 + g d z, none⟩ (.int .i64 ((cnt (g d) (g d z) Z : Nat) - 1))).drew) tb db mb cap D Z g (upd (fun d k => (cnt (g d) k Z : Nat)) d (g d z) (((cnt (g d) (g d z) Z : Nat) : Int) - 1)) (fun d => (low (g d) Z : Nat)) ∧ Kept (fun x => x ≠ db ∧ x ≠ mb) w ((w2.setCell ⟨db, d * 6 + g d z, none⟩ (.int .i64 ((cnt (g d) (g d z) Z : Nat) - 1))).drew) ∧ Cells ((w2.setCell ⟨db, d * 6 + g d z, none⟩ (.int .i64 ((cnt (g d) (g d z) Z : Nat) - 1))).drew) B 24 [.int .i64 (d : Int), .int .i64 (z : Int)]) := by
    refine ⟨?_, (Hk2.out.drewN 1).setCell (fun q => q.1 rfl) _, Hb2.out.move (set_other (w := w2.drew) _ _ HB.out.1)⟩
    rw [show d * 6 = 6 * d by omega]
    exact (H2.out.toL.drewN 1).setC hd hs4 _
  have f2 : w2.frozen? ⟨db, d * 6 + g d z, none⟩ = false := H2.out.dc.frozen _
  obtain ⟨s, hs⟩ : ∃ s, s = g d z := ⟨_, rfl⟩
  obtain ⟨cs, hcs⟩ : ∃ cs, cs = cnt (g d) s Z := ⟨_, rfl⟩
  rw [← hs] at hlk hs4 k2 hc1 Hst f2
  rw [← hcs] at k2 hc1 Hst
  have Hs := Lib.hid (And.intro hs hcs)
  have hs4' : (s : Int) < 4 := by omega
  have Hg := Lib.hid (And.intro H2.out.le H2.out.out)
  have Hz := Lib.hid (And.intro H2.out.z1 H2.out.d1)
  have Hcap := Lib.hid H2.out.hcap
  clear H2 Hk2 Hb2 hs hcs
  go_wp2_with fail
  refine wp_region_still_tail 15 (by kernel_rfl) (by kernel_rfl) ?_
  simp only [List.take_succ_cons, List.take_zero, List.drop_succ_cons, List.drop_zero]
  repeat still_step
  refine wpStill_nil ?_
  change wpList _ _ _ _ _ w2.drew
  go_wp2_with fail
  clear m2 c0 c1 hlk k2 f2
  generalize (w2.setCell ⟨db, d * 6 + s, none⟩ (.int .i64 ((cs : Int) - 1))).drew = w3 at Hst ⊢
  obtain ⟨ck, hck⟩ : ∃ ck, ck = upd (fun d k => ((cnt (g d) k Z : Nat) : Int)) d s ((cs : Int) - 1) d k := ⟨_, rfl⟩
  have k3 : w3.cell? ⟨db, d * 6 + k, none⟩ = some (.int .i64 ck) := by rw [show d * 6 = 6 * d by omega, hck]; exact Hst.out.1.dc.cell hd hk
  have f3 : w3.frozen? ⟨db, d * 6 + k, none⟩ = false := Hst.out.1.dc.frozen _
  have hck1 : -1 ≤ ck ∧ ck ≤ 4096 := by
    rw [hck]
    simp only [upd]
    split
    · omega
    · have := cnt_le (g d) k Z; omega
  obtain ⟨hck2, hck3⟩ := hck1
  have hk4 : (k : Int) < 4 := by omega
  have Hst3 : Hid (TabL ((w3.setCell ⟨db, d * 6 + k, none⟩ (.int .i64 (ck + 1))).drew) tb db mb cap D Z g (fun d' k' => (cnt (upd g d z k d') k' Z : Nat)) (fun d => (low (g d) Z : Nat)) ∧ Kept (fun x => x ≠ db ∧ x ≠ mb) w ((w3.setCell ⟨db, d * 6 + k, none⟩ (.int .i64 (ck + 1))).drew) ∧ Cells ((w3.setCell ⟨db, d * 6 + k, none⟩ (.int .i64 (ck + 1))).drew) B 24 [.int .i64 (d : Int), .int .i64 (z : Int)]) := by
    refine ⟨?_, (Hst.out.2.1.drewN 1).setCell (fun q => q.1 rfl) _, Hst.out.2.2.move (set_other (w := w3.drew) _ _ HB.out.1)⟩
    rw [show d * 6 = 6 * d by omega, hck]
    refine ((Hst.out.1.drewN 1).setC hd hk _).congr (fun d' k' _ _ => ?_) fun _ _ => rfl
    have hp := put_counts (c := fun d k => ((cnt (g d) k Z : Nat) : Int)) (d := d) (z := z) (k := k) g hz (fun _ _ => rfl) d' k'
    rw [← Hs.out.1] at hp
    rw [← hp]
    simp only [Hs.out.2]
  clear Hst hck
  refine wp_region_still_tail 10 (by kernel_rfl) (by kernel_rfl) ?_
  simp only [List.take_succ_cons, List.take_zero, List.drop_succ_cons, List.drop_zero]
  repeat still_step
  refine wpStill_nil ?_
  change wpList _ _ _ _ _ w3.drew
  have Hg' : Hid ((∀ d' z', upd g d z k d' z' ≤ 3) ∧ ∀ d' z', ¬ (d' < D ∧ z' < Z) → upd g d z k d' z' = 0) := by
    refine ⟨fun d' z' => ?_, fun d' z' hq => ?_⟩
    · by_cases q : d' = d ∧ z' = z
      · simp only [upd, q, and_self, if_true]; omega
      · rw [upd_other _ _ q]; exact Hg.out.1 d' z'
    · rw [upd_other _ _ (fun e => hq ⟨by omega, by omega⟩)]; exact Hg.out.2 d' z' hq
  by_cases hk0 : k = 0
  · have hkb : ((k : Int) == 0) = true := by simp [hk0]
    have Hk0 := Lib.hid hk0
    clear hk0
    go_wp2_with fail
    clear k3 f3 hkb
    generalize (w3.setCell ⟨db, d * 6 + k, none⟩ (.int .i64 (ck + 1))).drew = w4 at *
    have m4 := Hst3.out.1.m2
    have c4 : w4.cell? ⟨B, 0, none⟩ = some (.int .i64 (d : Int)) := Hst3.out.2.2.cell rfl
    have c5 : w4.cell? ⟨B, 1, none⟩ = some (.int .i64 (z : Int)) := Hst3.out.2.2.cell rfl
    refine wp_region_still_tail 5 (by kernel_rfl) (by kernel_rfl) ?_
    simp only [List.take_succ_cons, List.take_zero, List.drop_succ_cons, List.drop_zero]
    repeat still_step
    refine wpStill_nil ?_
    change wpList _ _ _ _ _ w4.drew
    refine um_drop (e := 3) (t := 58) (d := d) (z := z) rfl _ _ rfl Try.underlying58 (Hst3.out.1.mc.drewN 1) hd hz rfl rfl ?_
    intro w5 hum hmt
    have Hst5 : Hid (TabL w5 tb db mb cap D Z (upd g d z k) (fun d' k' => (cnt (upd g d z k d') k' Z : Nat)) (fun d => (low (g d) Z : Nat)) ∧ Kept (fun x => x ≠ db ∧ x ≠ mb) w w5 ∧ Cells w5 B 24 [.int .i64 (d : Int), .int .i64 (z : Int)]) := by
      refine ⟨(Hst3.out.1.drewN 1).turned (w := w4.drew) ?_ hmt, (Hst3.out.2.1.drewN 1).grown hmt.grown (fun g e q => q.2 (by cases e; rfl)), Hst3.out.2.2.move (hmt.grown.block B Hst3.out.2.2.lt (fun e => HB.out.2 (by cases e; rfl)))⟩
      rw [Hk0.out, stU_zero]
      exact hum
    clear Hst3 hum hmt m4 c4 c5
    obtain ⟨L, hL⟩ : ∃ L, L = low (g d) Z := ⟨_, rfl⟩
    have hL1 : (L : Int) ≤ 4096 := by have := low_le (g d) Z; omega
    have k5 : w5.cell? ⟨db, d * 6 + 5, none⟩ = some (.int .i64 (L : Int)) := by rw [show d * 6 + 5 = 6 * d + 5 by omega, hL]; exact Hst5.out.1.dc.cellL hd
    have f5 : w5.frozen? ⟨db, d * 6 + 5, none⟩ = false := Hst5.out.1.dc.frozen _
    have c5 : w5.cell? ⟨B, 1, none⟩ = some (.int .i64 (z : Int)) := Hst5.out.2.2.cell rfl
    have Hfin : Hid (∀ m : Nat, m = min L z → TabAt (w5.setCell ⟨db, d * 6 + 5, none⟩ (.int .i64 (m : Int))).drew tb db mb cap D Z (upd g d z k) ∧ Kept (fun x => x ≠ db ∧ x ≠ mb) w (w5.setCell ⟨db, d * 6 + 5, none⟩ (.int .i64 (m : Int))).drew) := by
      intro m hm
      refine ⟨?_, (Hst5.out.2.1.setCell (fun q => q.1 rfl) _).drewN 1⟩
      have h6 := ((Hst5.out.1.setL hd (m : Int)).drewN 1).congr (c' := fun d' k' => (cnt (upd g d z k d') k' Z : Nat)) (l' := fun d' => (low (upd g d z k d') Z : Nat)) (fun _ _ _ _ => rfl) (fun d' _ => by
        rw [Hk0.out]
        by_cases q : d' = d
        · subst q; rw [if_pos rfl, low_freed g hz, ← hL, hm]
        · rw [if_neg q, upd_row g 0 q])
      rw [show d * 6 + 5 = 6 * d + 5 by omega]
      exact ⟨Hz.out.2, hn, Hz.out.1, hn2, Hcap.out, h6.tc, h6.dc, h6.mc, Hg'.out.1, Hg'.out.2⟩
    clear Hst5 hL
    by_cases hmin : z < L
    · have Hf := Lib.hid (Hfin.out z (by omega))
      have hmin' : (z : Int) < (L : Int) := by omega
      clear Hfin hmin
      go_wp2_with fail
      refine wp_region_still_tail 12 (by kernel_rfl) (by kernel_rfl) ?_
      simp only [List.take_succ_cons, List.take_zero, List.drop_succ_cons, List.drop_zero]
      repeat still_step
      refine wpStill_nil ?_
      change wpList _ _ _ _ _ w5.drew
      go_wp2_with fail
      try simp only [Exit.inBlock, Exit.then]
      refine bodyPost_ret (results_none rfl _ _ _) rfl ?_
      exact ⟨rfl, Hf.out⟩
    · have Hf := Lib.hid (Hfin.out L (by omega))
      have hmin' : ¬ (z : Int) < (L : Int) := by omega
      clear Hfin hmin
      go_wp2_with fail
      refine wp_region_still_tail 12 (by kernel_rfl) (by kernel_rfl) ?_
      simp only [List.take_succ_cons, List.take_zero, List.drop_succ_cons, List.drop_zero]
      repeat still_step
      refine wpStill_nil ?_
      change wpList _ _ _ _ _ w5.drew
      go_wp2_with fail
      try simp only [Exit.inBlock, Exit.then]
      refine bodyPost_ret (results_none rfl _ _ _) rfl ?_
      exact ⟨rfl, Hf.out⟩
  · have hk0' : ¬ (k : Int) = 0 := by omega
    go_wp2_with fail
    clear k3 f3
    generalize (w3.setCell ⟨db, d * 6 + k, none⟩ (.int .i64 (ck + 1))).drew = w4 at *
    have m4 := Hst3.out.1.m2
    have c4 : w4.cell? ⟨B, 0, none⟩ = some (.int .i64 (d : Int)) := Hst3.out.2.2.cell rfl
    have c5 : w4.cell? ⟨B, 1, none⟩ = some (.int .i64 (z : Int)) := Hst3.out.2.2.cell rfl
    refine wp_region_still_tail 6 (by kernel_rfl) (by kernel_rfl) ?_
    simp only [List.take_succ_cons, List.take_zero, List.drop_succ_cons, List.drop_zero]
    repeat still_step
    refine wpStill_nil ?_
    change wpList _ _ _ _ _ w4.drew
    refine um_store (e := 3) (t := 58) (d := d) (z := z) rfl _ _ _ rfl Try.underlying58 (Hst3.out.1.mc.drewN 1) hd hz (.int .i64 (k : Int)) (.lit (.int .i64 (k : Nat))) (plainElem_int Try.underlying3 (i64_nat (by omega)).wf) rfl rfl rfl ?_
    intro w5 hum hmt
    have Hst5 : Hid (TabL w5 tb db mb cap D Z (upd g d z k) (fun d' k' => (cnt (upd g d z k d') k' Z : Nat)) (fun d => (low (g d) Z : Nat)) ∧ Kept (fun x => x ≠ db ∧ x ≠ mb) w w5 ∧ Cells w5 B 24 [.int .i64 (d : Int), .int .i64 (z : Int)]) := by
      refine ⟨(Hst3.out.1.drewN 1).turned (w := w4.drew) ?_ hmt, (Hst3.out.2.1.drewN 1).grown hmt.grown (fun g e q => q.2 (by cases e; rfl)), Hst3.out.2.2.move (hmt.grown.block B Hst3.out.2.2.lt (fun e => HB.out.2 (by cases e; rfl)))⟩
      rw [stU_set _ _ _ _ hk0]
      exact hum
    clear Hst3 hum hmt m4 c4 c5
    obtain ⟨L, hL⟩ : ∃ L, L = low (g d) Z := ⟨_, rfl⟩
    have hL1 : (L : Int) ≤ 4096 := by have := low_le (g d) Z; omega
    have k4 : w5.cell? ⟨db, d * 6 + 4, none⟩ = some (.int .i64 (d : Int)) := by rw [show d * 6 + 4 = 6 * d + 4 by omega]; exact Hst5.out.1.dc.cellD hd
    have k5 : w5.cell? ⟨db, d * 6 + 5, none⟩ = some (.int .i64 (L : Int)) := by rw [show d * 6 + 5 = 6 * d + 5 by omega, hL]; exact Hst5.out.1.dc.cellL hd
    have c4 : w5.cell? ⟨B, 0, none⟩ = some (.int .i64 (d : Int)) := Hst5.out.2.2.cell rfl
    have c5 : w5.cell? ⟨B, 1, none⟩ = some (.int .i64 (z : Int)) := Hst5.out.2.2.cell rfl
    have HL := Lib.hid hL
    clear hL
    by_cases hzl : z = L
    · have hq : ∀ n, (Op.equalIn 10000 24 (.agg #[.int .i64 (d : Int), .int .i64 (z : Int)]) (.agg #[.int .i64 (d : Int), .int .i64 (L : Int)])).run Try.prog (w5.drewN n) = .ok true (w5.drewN n) := fun n => by
        rw [eql_unit, decide_eq_true ⟨rfl, by omega⟩]
      have Hseek : Hid (∀ n, Calls Try.prog 53 #[.pointer (some ⟨tb, 0, none⟩), .pointer (some ⟨db, d * 6, none⟩)] (w5.drewN n) fun e w' => e = .returned (.tuple #[]) ∧ TabAt w' tb db mb cap D Z (upd g d z k) ∧ Kept (fun x => x ≠ db ∧ x ≠ mb) w w') := by
        intro n
        have hsk := seek_any (w := w5.drewN n) (l := fun d' => (low (upd g d z k d') Z : Nat)) d L (by rw [HL.out]; exact low_le _ _) hd hn2 hn (g := upd g d z k) (fun y hy => by
          rw [upd_other _ _ (fun e => by omega)]
          rw [HL.out] at hy
          exact low_below _ _ _ hy) (Hg'.out.2 d Z (fun q => by omega)) ((Hst5.out.1.drewN n).congr (fun _ _ _ _ => rfl) (fun d' _ => by
            by_cases q : d' = d
            · subst q; rw [if_pos rfl, HL.out]
            · rw [if_neg q, upd_row g k q]))
        refine hsk.mono ?_
        rintro e w' ⟨he, h6, hk6⟩
        have h7 := h6.congr (c' := fun d' k' => (cnt (upd g d z k d') k' Z : Nat)) (l' := fun d' => (low (upd g d z k d') Z : Nat)) (fun _ _ _ _ => rfl) (fun d' _ => by
          by_cases q : d' = d
          · subst q; rw [if_pos rfl]
          · rw [if_neg q])
        refine ⟨he, ⟨Hz.out.2, hn, Hz.out.1, hn2, Hcap.out, h7.tc, h7.dc, h7.mc, Hg'.out.1, Hg'.out.2⟩, ?_⟩
        exact ((Hst5.out.2.1.drewN n).trans (hk6.mono fun b _ q => q.1))
      have hzt : ((z : Int) = (L : Int)) = True := by rw [hzl]; exact eq_self _
      clear Hst5 HL hzl
      go_wp2_with fail
      go_quiet (fail)
      go_wp2_with fail
      refine (Hseek.out nq).mono ?_
      rintro e w7 ⟨rfl, h7⟩
      have H7 := Lib.hid h7
      clear h7
      go_wp2_with fail
      go_end0
      exact ⟨rfl, H7.out⟩
    · have hq : ∀ n, (Op.equalIn 10000 24 (.agg #[.int .i64 (d : Int), .int .i64 (z : Int)]) (.agg #[.int .i64 (d : Int), .int .i64 (L : Int)])).run Try.prog (w5.drewN n) = .ok false (w5.drewN n) := fun n => by
        rw [eql_unit, decide_eq_false (by omega)]
      have Hf : Hid (∀ n, TabAt (w5.drewN n) tb db mb cap D Z (upd g d z k) ∧ Kept (fun x => x ≠ db ∧ x ≠ mb) w (w5.drewN n)) := by
        intro n
        have h7 := (Hst5.out.1.drewN n).congr (c' := fun d' k' => (cnt (upd g d z k d') k' Z : Nat)) (l' := fun d' => (low (upd g d z k d') Z : Nat)) (fun _ _ _ _ => rfl) (fun d' _ => by
          by_cases q : d' = d
          · subst q; rw [low_other g hz hk0 (by rw [← HL.out]; exact hzl)]
          · rw [upd_row g k q])
        exact ⟨⟨Hz.out.2, hn, Hz.out.1, hn2, Hcap.out, h7.tc, h7.dc, h7.mc, Hg'.out.1, Hg'.out.2⟩, Hst5.out.2.1.drewN n⟩
      have hzf : ((z : Int) = (L : Int)) = False := eq_false (by omega)
      clear Hst5 HL hzl
      go_wp2_with fail
      go_quiet (fail)
      go_wp2_with fail
      go_end0
      exact ⟨rfl, Hf.out nq⟩
end
end Go.Proofs.Ytajpnjapfiffmaa

/-
  take, TakeOn: a drive's lowest free unit is taken.
-/
namespace Go.Proofs.Ytajpnjapfiffmaa
open Go.RowKit Go.Maps

theorem load_unit (w : World) (b o : Nat) (x y : Int) (h0 : w.cell? ⟨b, o, none⟩ = some (.int .i64 x)) (h1 : w.cell? ⟨b, o + 1, none⟩ = some (.int .i64 y)) : (loadVar 24 ⟨b, o, none⟩).run Try.prog w = .ok (uV x y) w := by
  have hl := run_loadCells_list (P := Try.prog) (w := w) ⟨b, o, none⟩ [.int .i64 x, .int .i64 y] (fun j v hv => by
    rw [add_flat]
    match j with
    | 0 => simp at hv; subst hv; exact h0
    | 1 => simp at hv; subst hv; exact h1
    | j + 2 => simp at hv)
  simp only [loadVar, Sem.run_bind, Try.isAgg24, Result.andThen_ok, if_true, Try.sizeOf24]
  rw [show ([Value.int .i64 x, Value.int .i64 y] : List Value).length = 2 from rfl] at hl
  rw [hl]
  rfl
theorem results_cell1 {fn : Func} {p : Tmp} {s : TypeId} (h : fn.results = #[.cell p s]) (tmps : Array Value) (w : World) (a : Addr) (u : Value) (ha : tmps.getD p undef = .pointer (some a))
    (h1 : (loadVar s a).run Try.prog w = .ok u w) : (results fn tmps).run Try.prog w = .ok u w := by
  have ha' : tmps[p]?.getD undef = .pointer (some a) := by simpa using ha
  simp [results, h, ha', asAddr, h1]
theorem results_cell_tmp {fn : Func} {p q : Tmp} {s : TypeId} (h : fn.results = #[.cell p s, .tmp q]) (tmps : Array Value) (w : World) (a : Addr) (u : Value) (y : Value) (ha : tmps.getD p undef = .pointer (some a)) (hy : tmps.getD q undef = y)
    (h1 : (loadVar s a).run Try.prog w = .ok u w) : (results fn tmps).run Try.prog w = .ok (.tuple #[u, y]) w := by
  have ha' : tmps[p]?.getD undef = .pointer (some a) := by simpa using ha
  have hy' : tmps[q]?.getD undef = y := by simpa using hy
  simp [results, h, ha', hy', asAddr, h1]
theorem Kept.setNew {K : Nat → Prop} {w w' : World} (h : Kept K w w') {p : Addr} (hp : w.heap.size ≤ p.block) (u : Value) : Kept K w (w'.setCell p u) :=
  ⟨h.os, h.tape, h.output, by have := h.size; simp [World.setCell]; exact this, fun b hb hK => (Below.heap_setCell _ _ _ _ (by omega)).trans (h.block b hb hK)⟩
theorem TabAt.setNew {w w1 : World} {tb db mb cap D Z : Nat} {g g' : St} (h : TabAt w tb db mb cap D Z g) (h1 : TabAt w1 tb db mb cap D Z g') {b : Nat} (hb : w.heap.size ≤ b) (i : Nat) (v : Value) : TabAt (w1.setCell ⟨b, i, none⟩ v) tb db mb cap D Z g' :=
  h1.move (set_other _ _ (by have := h.tc.lt; omega)) (set_other _ _ (by have := h.dc.lt; omega)) (set_other _ _ (by have := h.mc.lt; omega))
/-- the lowest free unit of a drive is taken -/
def takeU (g : St) (Z d : Nat) : St := upd g d (low (g d) Z) 1
section
variable {w w' : World} {tb db mb cap D Z : Nat} {g : St}
set_option maxRecDepth 20000
set_option maxHeartbeats 1600000
theorem take_any (d : Nat) (hd : d < D) (hf : 0 < cnt (g d) 0 Z) (h : TabAt w tb db mb cap D Z g) :
    Calls Try.prog 32 #[.pointer (some ⟨tb, 0, none⟩), .int .i64 (d : Int)] w fun e w' => e = .returned (uV d (low (g d) Z : Nat)) ∧ TabAt w' tb db mb cap D Z (takeU g Z d) ∧ Kept (fun x => x ≠ db ∧ x ≠ mb) w w' := by
  have hl : low (g d) Z < Z := (low_free (g d) Z).2 hf
  have Hput : Hid (∀ w1, Kept (fun _ => True) w w1 → Calls Try.prog 38 #[.pointer (some ⟨tb, 0, none⟩), .agg #[.int .i64 (d : Int), .int .i64 (low (g d) Z : Nat)], .int .i64 1] w1 fun e w' => e = .returned (.tuple #[]) ∧ TabAt w' tb db mb cap D Z (takeU g Z d) ∧ Kept (fun x => x ≠ db ∧ x ≠ mb) w1 w') :=
    fun w1 hk => put_any (w := w1) d (low (g d) Z) 1 hd hl (by omega) (h.kept hk trivial trivial trivial)
  have t1 := fun o => (h.alloc o).t1
  have k4 : ∀ o, (w.alloc o).cell? ⟨db, d * 6 + 4, none⟩ = some (.int .i64 (d : Int)) := fun o => by rw [show d * 6 + 4 = 6 * d + 4 by omega]; exact (h.alloc o).dc.cellD hd
  have k5 : ∀ o, (w.alloc o).cell? ⟨db, d * 6 + 5, none⟩ = some (.int .i64 (low (g d) Z : Nat)) := fun o => by rw [show d * 6 + 5 = 6 * d + 5 by omega]; exact (h.alloc o).dc.cellL hd
  have hD : (D : Int) ≤ 32 := by have := h.d2; omega
  have hd' : (d : Int) < (D : Int) := by omega
  have Hne : Hid (w.heap.size ≠ db ∧ w.heap.size ≠ mb ∧ w.heap.size + 1 ≠ db ∧ w.heap.size + 1 ≠ mb) := by
    have := h.dc.lt
    have := h.mc.lt
    exact ⟨by omega, by omega, by omega, by omega⟩
  have H0 := Lib.hid h
  generalize low (g d) Z = L at *
  clear h
  go_enter Try.func32, Try.ntmps32
  go_wp2_with fail
  refine (Hput.out _ (((Kept.refl _ w).alloc _).alloc _)).mono ?_
  rintro e w1 ⟨rfl, h1⟩
  have Hc : Hid (Cells w1 w.heap.size 24 [.int .i64 0, .int .i64 0] ∧ Cells w1 (w.heap.size + 1) 24 [.int .i64 (d : Int), .int .i64 (L : Int)] ∧ TabAt w1 tb db mb cap D Z (takeU g Z d) ∧ Kept (fun x => x ≠ db ∧ x ≠ mb) w w1) := by
    have e1 : (w.alloc (.cells #[.int .i64 0, .int .i64 0] 24)).heap.size = w.heap.size + 1 := by simp
    refine ⟨((Cells.new w #[.int .i64 0, .int .i64 0] 24).alloc (.cells #[.int .i64 (d : Int), .int .i64 (L : Int)] 24)).move (h1.2.block _ (by simp; omega) ⟨Hne.out.1, Hne.out.2.1⟩), ?_, h1.1, (((Kept.refl _ w).alloc _).alloc _).trans h1.2⟩
    have := Cells.new (w.alloc (.cells #[.int .i64 0, .int .i64 0] 24)) #[.int .i64 (d : Int), .int .i64 (L : Int)] 24
    rw [e1] at this
    exact this.move (h1.2.block _ (by simp) ⟨Hne.out.2.2.1, Hne.out.2.2.2⟩)
  have a0 : w1.cell? ⟨w.heap.size + 1, 0, none⟩ = some (.int .i64 (d : Int)) := Hc.out.2.1.cell rfl
  have a1 : w1.cell? ⟨w.heap.size + 1, 1, none⟩ = some (.int .i64 (L : Int)) := Hc.out.2.1.cell rfl
  have b0 : w1.cell? ⟨w.heap.size, 0, none⟩ = some (.int .i64 0) := Hc.out.1.cell rfl
  have b1 : w1.cell? ⟨w.heap.size, 1, none⟩ = some (.int .i64 0) := Hc.out.1.cell rfl
  have f0 : w1.frozen? ⟨w.heap.size, 0, none⟩ = false := Hc.out.1.frozen 0
  have f1 : w1.frozen? ⟨w.heap.size, 1, none⟩ = false := Hc.out.1.frozen 1
  clear h1 t1 k4 k5
  go_wp2_with fail
  refine bodyPost_ret (v := uV d L) (results_cell1 rfl _ _ _ _ rfl (load_unit _ _ _ _ _ ?_ ?_)) rfl ?_
  · rw [World.cell?_setCell_other _ _ _ _ (by intro e; simp only [Addr.mk.injEq] at e; omega)]
    exact World.cell?_setCell_same _ _ _ b0
  · exact World.cell?_setCell_same' _ _ _ (by rw [World.cell?_setCell_other _ _ _ _ (by intro e; simp only [Addr.mk.injEq] at e; omega), b1]; rfl)
  · exact ⟨rfl, H0.out.setNew (H0.out.setNew Hc.out.2.2.1 (Nat.le_refl _) 0 _) (Nat.le_refl _) 1 _, ((Hc.out.2.2.2.setNew (p := ⟨w.heap.size, 0, none⟩) (Nat.le_refl _) _).setNew (p := ⟨w.heap.size, 1, none⟩) (Nat.le_refl _) _)⟩
/-- TakeOn's answer -/
def takeOnV (g : St) (D Z : Nat) (x : Int) : Value := if 0 ≤ x ∧ x < D then if 0 < cnt (g x.toNat) 0 Z then .tuple #[uV x (low (g x.toNat) Z : Nat), .int .i64 0] else .tuple #[uV 0 0, .int .i64 5] else .tuple #[uV 0 0, .int .i64 1]
def takeOnG (g : St) (D Z : Nat) (x : Int) : St := if 0 ≤ x ∧ x < D ∧ 0 < cnt (g x.toNat) 0 Z then takeU g Z x.toNat else g
theorem takeOn_any (x : Int) (h : TabAt w tb db mb cap D Z g) :
    Calls Try.prog 13 #[.pointer (some ⟨tb, 0, none⟩), .int .i64 x] w fun e w' => e = .returned (takeOnV g D Z x) ∧ TabAt w' tb db mb cap D Z (takeOnG g D Z x) ∧ Kept (fun x => x ≠ db ∧ x ≠ mb) w w' := by
  have Hh := Lib.hid fun o => has_any x (h.alloc o)
  have H0 := Lib.hid h
  by_cases hx : 0 ≤ x ∧ x < D
  · obtain ⟨d, rfl⟩ : ∃ d : Nat, x = (d : Int) := ⟨x.toNat, by omega⟩
    have hd : d < D := by omega
    rw [decide_eq_true hx] at Hh
    have Hf : Hid (∀ o, Calls Try.prog 22 #[.pointer (some ⟨tb, 0, none⟩), .int .i64 (d : Int)] (w.alloc o) fun e w' => e = .returned (.int .i64 (cnt (g d) 0 Z : Nat)) ∧ w' = w.alloc o) := fun o => by
      have := freeOn_any (d : Int) (h.alloc o)
      rwa [freeOn_nat g hd] at this
    by_cases hc : 0 < cnt (g d) 0 Z
    · rw [show takeOnV g D Z d = .tuple #[uV d (low (g d) Z : Nat), .int .i64 0] from by unfold takeOnV; rw [if_pos hx]; simp only [Int.toNat_natCast]; rw [if_pos hc],
        show takeOnG g D Z d = takeU g Z d from by unfold takeOnG; simp only [Int.toNat_natCast]; rw [if_pos ⟨hx.1, hx.2, hc⟩]]
      have Ht : Hid (∀ o, Calls Try.prog 32 #[.pointer (some ⟨tb, 0, none⟩), .int .i64 (d : Int)] (w.alloc o) fun e w' => e = .returned (uV d (low (g d) Z : Nat)) ∧ TabAt w' tb db mb cap D Z (takeU g Z d) ∧ Kept (fun x => x ≠ db ∧ x ≠ mb) (w.alloc o) w') := fun o => take_any d hd hc (h.alloc o)
      have hc' : ¬ ((cnt (g d) 0 Z : Nat) : Int) = 0 := by omega
      have Hne : Hid (w.heap.size ≠ db ∧ w.heap.size ≠ mb) := by
        have := h.dc.lt
        have := h.mc.lt
        exact ⟨by omega, by omega⟩
      generalize low (g d) Z = L at *
      generalize cnt (g d) 0 Z = C at *
      clear h hx hc
      go_enter Try.func13, Try.ntmps13
      go_wp2_with fail
      refine (Hh.out _).mono ?_
      rintro e w1 ⟨rfl, rfl⟩
      go_wp2_with fail
      refine (Hf.out _).mono ?_
      rintro e w1 ⟨rfl, rfl⟩
      go_wp2_with fail
      refine (Ht.out _).mono ?_
      rintro e w1 ⟨rfl, h1⟩
      have hcell : Cells w1 w.heap.size 24 [.int .i64 0, .int .i64 0] := (Cells.new w #[.int .i64 0, .int .i64 0] 24).move (h1.2.block _ (by simp) Hne.out)
      have Hc : Hid (TabAt w1 tb db mb cap D Z (takeU g Z d) ∧ Kept (fun x => x ≠ db ∧ x ≠ mb) w w1) := ⟨h1.1, ((Kept.refl _ w).alloc _).trans h1.2⟩
      have b0 : w1.cell? ⟨w.heap.size, 0, none⟩ = some (.int .i64 0) := hcell.cell rfl
      have b1 : w1.cell? ⟨w.heap.size, 1, none⟩ = some (.int .i64 0) := hcell.cell rfl
      have f0 : w1.frozen? ⟨w.heap.size, 0, none⟩ = false := hcell.frozen 0
      have f1 : w1.frozen? ⟨w.heap.size, 1, none⟩ = false := hcell.frozen 1
      unfold uV
      clear h1 hcell
      go_wp2_with fail
      refine bodyPost_ret (v := .tuple #[uV d L, .int .i64 0]) (results_cell_tmp rfl _ _ _ _ _ rfl rfl (load_unit _ _ _ _ _ ?_ ?_)) rfl ?_
      · rw [World.cell?_setCell_other _ _ _ _ (by intro e; simp only [Addr.mk.injEq] at e; omega)]
        exact World.cell?_setCell_same _ _ _ b0
      · exact World.cell?_setCell_same' _ _ _ (by rw [World.cell?_setCell_other _ _ _ _ (by intro e; simp only [Addr.mk.injEq] at e; omega), b1]; rfl)
      · exact ⟨rfl, H0.out.setNew (H0.out.setNew Hc.out.1 (Nat.le_refl _) 0 _) (Nat.le_refl _) 1 _, ((Hc.out.2.setNew (p := ⟨w.heap.size, 0, none⟩) (Nat.le_refl _) _).setNew (p := ⟨w.heap.size, 1, none⟩) (Nat.le_refl _) _)⟩
    · rw [show takeOnV g D Z d = .tuple #[uV 0 0, .int .i64 5] from by unfold takeOnV; rw [if_pos hx]; simp only [Int.toNat_natCast]; rw [if_neg hc],
        show takeOnG g D Z d = g from by unfold takeOnG; simp only [Int.toNat_natCast]; rw [if_neg (fun q => hc q.2.2)]]
      have hc0 : cnt (g d) 0 Z = 0 := by omega
      rw [hc0] at Hf
      clear h hx hc hc0
      go_enter Try.func13, Try.ntmps13
      go_wp2_with fail
      refine (Hh.out _).mono ?_
      rintro e w1 ⟨rfl, rfl⟩
      go_wp2_with fail
      refine (Hf.out _).mono ?_
      rintro e w1 ⟨rfl, rfl⟩
      go_wp2_with fail
      refine bodyPost_ret (v := .tuple #[uV 0 0, .int .i64 5]) (results_cell_tmp rfl _ _ _ _ _ rfl rfl (load_unit _ _ _ _ _ ?_ ?_)) rfl ?_
      · exact (Cells.new w #[.int .i64 0, .int .i64 0] 24).cell rfl
      · exact (Cells.new w #[.int .i64 0, .int .i64 0] 24).cell rfl
      · exact ⟨rfl, H0.out.alloc _, (Kept.refl _ w).alloc _⟩
  · rw [decide_eq_false hx] at Hh
    rw [show takeOnV g D Z x = .tuple #[uV 0 0, .int .i64 1] from by unfold takeOnV; rw [if_neg hx], show takeOnG g D Z x = g from by unfold takeOnG; rw [if_neg (fun q => hx ⟨q.1, q.2.1⟩)]]
    clear h hx
    go_enter Try.func13, Try.ntmps13
    go_wp2_with fail
    refine (Hh.out _).mono ?_
    rintro e w1 ⟨rfl, rfl⟩
    go_wp2_with fail
    refine bodyPost_ret (v := .tuple #[uV 0 0, .int .i64 1]) (results_cell_tmp rfl _ _ _ _ _ rfl rfl (load_unit _ _ _ _ _ ?_ ?_)) rfl ?_
    · exact (Cells.new w #[.int .i64 0, .int .i64 0] 24).cell rfl
    · exact (Cells.new w #[.int .i64 0, .int .i64 0] 24).cell rfl
    · exact ⟨rfl, H0.out.alloc _, (Kept.refl _ w).alloc _⟩
end
end Go.Proofs.Ytajpnjapfiffmaa

/-
  Set: units that are there get a state.
-/
namespace Go.Proofs.Ytajpnjapfiffmaa
open Go.RowKit Go.Maps

/-- THE SLICE AT A READS AS the units us, and lies below block B -/
def RU (w : World) (B : Nat) (A : Option Addr) (us : List (Int × Int)) : Prop :=
  ∀ k u, us[k]? = some u → ∃ b o, A = some ⟨b, o, none⟩ ∧ b < B ∧ w.cell? ⟨b, o + k * 2, none⟩ = some (.int .i64 u.1) ∧ w.cell? ⟨b, o + k * 2 + 1, none⟩ = some (.int .i64 u.2)
theorem RU.below {w w' : World} {B : Nat} {A : Option Addr} {us : List (Int × Int)} (h : RU w B A us) (hb : Below B w w') : RU w' B A us := fun k u hk => by
  obtain ⟨b, o, e, hlt, h0, h1⟩ := h k u hk
  exact ⟨b, o, e, hlt, (hb.cell hlt).trans h0, (hb.cell hlt).trans h1⟩
theorem RU.move {w w' : World} {B : Nat} {A : Option Addr} {us : List (Int × Int)} (h : RU w B A us) (hk : ∀ b o, A = some ⟨b, o, none⟩ → w'.heap[b]? = w.heap[b]?) : RU w' B A us := fun k u hk' => by
  obtain ⟨b, o, e, hlt, h0, h1⟩ := h k u hk'
  exact ⟨b, o, e, hlt, (World.cell?_of_block (hk b o e)).trans h0, (World.cell?_of_block (hk b o e)).trans h1⟩
/-- are all of them there? -/
def allUnits (D Z : Nat) (us : List (Int × Int)) : Bool := us.all fun u => isUnit D Z u.1 u.2
/-- all of them get a state -/
def setAll (g : St) (k : Nat) : List (Int × Int) → St
  | [] => g
  | u :: us => setAll (upd g u.1.toNat u.2.toNat k) k us
theorem setAll_snoc (k : Nat) (u : Int × Int) : ∀ (us : List (Int × Int)) (g : St), setAll g k (us ++ [u]) = upd (setAll g k us) u.1.toNat u.2.toNat k
  | [], _ => rfl
  | v :: us, g => setAll_snoc k u us _
def setG (g : St) (D Z : Nat) (x : Int) (us : List (Int × Int)) : St := if (0 ≤ x ∧ x ≤ 3) ∧ allUnits D Z us = true then setAll g x.toNat us else g
def setE (D Z : Nat) (x : Int) (us : List (Int × Int)) : Int := if (0 ≤ x ∧ x ≤ 3) ∧ allUnits D Z us = true then 0 else 1
section
variable {w w' : World} {tb db mb cap D Z : Nat} {g : St}
set_option maxRecDepth 20000
set_option maxHeartbeats 1600000
/-- the first that is not there -/
def idxU (D Z : Nat) (us : List (Int × Int)) : Int := match us.findIdx? (fun u => !isUnit D Z u.1 u.2) with | some i => (i : Int) | none => -1
theorem index_any (A : Option Addr) (c : Nat) (us : List (Int × Int)) (hl : us.length ≤ 1099511627776) (hr : RU w w.heap.size A us) (h : TabAt w tb db mb cap D Z g) :
    Calls Try.prog 52 #[.slice A us.length c, .func (.func 37) #[.pointer (some ⟨tb, 0, none⟩)] #[]] w fun e w' => ∃ i : Int, e = .returned (.int .i64 i) ∧ (i < 0 ↔ allUnits D Z us = true) ∧ Below w.heap.size w w' := by
  have H0 := Lib.hid h
  have Hr := Lib.hid hr
  have hl' : ((us.length : Nat) : Int) ≤ 1099511627776 := by omega
  have Hlen : Hid (∀ k : Nat, k < us.length → ∃ u, us[k]? = some u) := fun k hk => ⟨_, List.getElem?_eq_getElem hk⟩
  obtain ⟨n, hn⟩ : ∃ n, n = us.length := ⟨_, rfl⟩
  rw [← hn] at hl' Hlen ⊢
  have Hn := Lib.hid hn
  clear h hr hl hn
  go_enter Try.func52, Try.ntmps52
  go_wp2_with fail
  go_loopw [8] (fun iv wr => ∃ i : Nat, iv = .int .i64 (i : Int) ∧ i ≤ n ∧ Hid (allUnits D Z (us.take i) = true) ∧ Hid (Below w.heap.size w wr)) (fun iv _ => n - (intOf iv).toNat)
  case atStart => exact ⟨0, rfl, Nat.zero_le _, rfl, Below.refl _ _⟩
  case round =>
    obtain ⟨i, rfl, hi, hall, hb⟩ := hrel
    by_cases hlt : i < n
    · obtain ⟨u, hu⟩ := Hlen.out i hlt
      obtain ⟨b, o, rfl, hblt, c0, c1⟩ := (Hr.out.below hb.out) i u hu
      have hlt' : (i : Int) < (n : Int) := by omega
      have Hlk := Lib.hid (lacks_any u.1 u.2 (H0.out.below hb.out))
      unfold uV at Hlk
      have Hb2 : Hid (∀ w', (∃ q, w' = (wr.alloc (.cells #[.int .i64 u.1, .int .i64 u.2] 24)).drewN q) → Below w.heap.size w w') := by
        rintro w' ⟨q, rfl⟩
        exact drewN_below (hb.out.alloc hb.out.size _) q
      have Hall : Hid (isUnit D Z u.1 u.2 = true → allUnits D Z (us.take (i + 1)) = true) := fun hq => by
        rw [List.take_add_one, hu]
        unfold allUnits
        rw [List.all_append]
        have := hall.out
        unfold allUnits at this
        rw [this]
        simp [hq]
      have Hno : Hid (isUnit D Z u.1 u.2 = false → allUnits D Z us = false) := fun hq => by
        unfold allUnits
        rw [List.all_eq_false]
        exact ⟨u, List.mem_of_getElem? hu, by simp [hq]⟩
      generalize u.1 = x at *
      generalize u.2 = y at *
      clear hu hall hb hlt Hlen
      by_cases hq : isUnit D Z x y = true
      · rw [hq] at Hlk
        have Ha := Lib.hid (Hall.out hq)
        clear hq Hall Hno
        go_wp2_with fail
        refine Hlk.out.mono ?_
        rintro e w1 ⟨rfl, hw1⟩
        have Hb3 := Lib.hid (Hb2.out w1 hw1)
        clear hw1 Hb2 Hlk c0 c1
        go_wp2_with fail
        go_roundw
        case rel => exact ⟨i + 1, by go_num, by omega, Ha.out, Hb3.out⟩
        case measure => simp [intOf]; omega
      · rw [Bool.not_eq_true] at hq
        rw [hq] at Hlk
        have Ha := Lib.hid (Hno.out hq)
        clear hq Hall Hno
        go_wp2_with fail
        refine Hlk.out.mono ?_
        rintro e w1 ⟨rfl, hw1⟩
        have Hb3 := Lib.hid (Hb2.out w1 hw1)
        clear hw1 Hb2 Hlk c0 c1
        go_wp2_with fail
        go_ret
        exact ⟨i, rfl, ⟨fun q => by omega, fun q => by rw [Ha.out] at q; cases q⟩, Hb3.out⟩
    · obtain rfl : i = n := by omega
      have Ha : Hid (allUnits D Z us = true) := by
        have := hall.out
        rw [Hn.out, List.take_of_length_le (Nat.le_refl _)] at this
        exact this
      have Hb := hb
      clear hall hb hlt
      go_wp2_with fail
      go_ret
      exact ⟨-1, rfl, ⟨fun _ => Ha.out, fun _ => by omega⟩, Hb.out⟩
theorem contains_any (A : Option Addr) (c : Nat) (us : List (Int × Int)) (hl : us.length ≤ 1099511627776) (hr : RU w w.heap.size A us) (h : TabAt w tb db mb cap D Z g) :
    Calls Try.prog 36 #[.slice A us.length c, .func (.func 37) #[.pointer (some ⟨tb, 0, none⟩)] #[]] w fun e w' => e = .returned (.bool (!allUnits D Z us)) ∧ Below w.heap.size w w' := by
  have Hi := Lib.hid (index_any A c us hl hr h)
  clear hr h
  go_enter Try.func36, Try.ntmps36
  go_wp2_with fail
  refine Hi.out.mono ?_
  rintro e w1 ⟨i, rfl, hiff, hb⟩
  have Hb := Lib.hid hb
  cases hA : allUnits D Z us with
  | true =>
    have hi : i < 0 := hiff.2 hA
    have HA := Lib.hid hA
    clear hb hiff hA Hi
    go_wp2_with fail
    go_ret
    refine ⟨?_, Hb.out⟩
    show Ending.returned (.bool (decide (0 ≤ i))) = _
    rw [HA.out, decide_eq_false (by omega)]
    rfl
  | false =>
    have hi : ¬ i < 0 := fun q => by rw [hiff.1 q] at hA; cases hA
    have HA := Lib.hid hA
    clear hb hiff hA Hi
    go_wp2_with fail
    go_ret
    refine ⟨?_, Hb.out⟩
    rw [HA.out]
    rfl
theorem set_any (x : Int) (A : Option Addr) (c : Nat) (us : List (Int × Int)) (hl : us.length ≤ 1099511627776) (hr : RU w w.heap.size A us) (hA : ∀ b o, A = some ⟨b, o, none⟩ → us ≠ [] → b ≠ db ∧ b ≠ mb) (h : TabAt w tb db mb cap D Z g) :
    Calls Try.prog 15 #[.pointer (some ⟨tb, 0, none⟩), .int .i64 x, .slice A us.length c] w fun e w' => e = .returned (.int .i64 (setE D Z x us)) ∧ TabAt w' tb db mb cap D Z (setG g D Z x us) ∧ Kept (fun y => y ≠ db ∧ y ≠ mb) w w' := by
  have Hs := Lib.hid (isState_any x w)
  have Hc := Lib.hid (contains_any A c us hl hr h)
  have H0 := Lib.hid h
  by_cases hx : 0 ≤ x ∧ x ≤ 3
  case neg =>
    rw [decide_eq_false hx] at Hs
    rw [show setE D Z x us = 1 from if_neg (fun q => hx q.1), show setG g D Z x us = g from if_neg (fun q => hx q.1)]
    clear hr h hx Hc
    go_enter Try.func15, Try.ntmps15
    go_wp2_with fail
    refine Hs.out.mono ?_
    rintro e w1 ⟨rfl, rfl⟩
    go_wp2_with fail
    go_ret
    exact ⟨rfl, H0.out, Kept.refl _ _⟩
  rw [decide_eq_true hx] at Hs
  by_cases ha : allUnits D Z us = true
  case neg =>
    rw [show setE D Z x us = 1 from if_neg (fun q => ha q.2), show setG g D Z x us = g from if_neg (fun q => ha q.2)]
    rw [Bool.not_eq_true] at ha
    rw [ha] at Hc
    clear hr h hx
    go_enter Try.func15, Try.ntmps15
    go_wp2_with fail
    refine Hs.out.mono ?_
    rintro e w1 ⟨rfl, rfl⟩
    go_wp2_with fail
    refine Hc.out.mono ?_
    rintro e w2 ⟨rfl, hb⟩
    have Hb := Lib.hid hb
    clear hb Hs Hc
    go_wp2_with fail
    go_ret
    exact ⟨rfl, H0.out.below Hb.out, (Kept.refl _ w1).below Hb.out⟩
  obtain ⟨k, rfl⟩ : ∃ k : Nat, x = (k : Int) := ⟨x.toNat, by omega⟩
  have hk : k < 4 := by omega
  rw [show setE D Z k us = 0 from if_pos ⟨hx, ha⟩, show setG g D Z k us = setAll g k us from by unfold setG; rw [if_pos ⟨hx, ha⟩]; simp]
  rw [ha] at Hc
  have Hr := Lib.hid hr
  have HA := Lib.hid hA
  have hl' : ((us.length : Nat) : Int) ≤ 1099511627776 := by omega
  have Hall : Hid (∀ (i : Nat) u, us[i]? = some u → ∃ d z : Nat, u = ((d : Int), (z : Int)) ∧ d < D ∧ z < Z) := by
    intro i u hu
    have := List.all_eq_true.1 ha u (List.mem_of_getElem? hu)
    have hq := of_decide_eq_true this
    exact ⟨u.1.toNat, u.2.toNat, by ext <;> simp <;> omega, by omega, by omega⟩
  have Hlen : Hid (∀ k : Nat, k < us.length → ∃ u, us[k]? = some u) := fun k hk => ⟨_, List.getElem?_eq_getElem hk⟩
  obtain ⟨n, hn⟩ : ∃ n, n = us.length := ⟨_, rfl⟩
  rw [← hn] at hl' Hlen Hc ⊢
  have Hn := Lib.hid hn
  clear h hr hl hn hA ha hx
  go_enter Try.func15, Try.ntmps15
  go_wp2_with fail
  refine Hs.out.mono ?_
  rintro e w1 ⟨rfl, rfl⟩
  go_wp2_with fail
  refine Hc.out.mono ?_
  rintro e w2 ⟨rfl, hb⟩
  have H2 := Lib.hid (H0.out.below hb)
  have Hk2 : Hid (Kept (fun y => y ≠ db ∧ y ≠ mb) w1 w2) := (Kept.refl _ w1).below hb
  clear hb Hs Hc
  go_wp2_with fail
  go_loopw [20] (fun iv wr => ∃ i : Nat, iv = .int .i64 (i : Int) ∧ i ≤ n ∧ Hid (TabAt wr tb db mb cap D Z (setAll g k (us.take i))) ∧ Hid (Kept (fun y => y ≠ db ∧ y ≠ mb) w1 wr)) (fun iv _ => n - (intOf iv).toNat)
  case atStart => exact ⟨0, rfl, Nat.zero_le _, H2.out, Hk2.out⟩
  case round =>
    obtain ⟨i, rfl, hi, ht, hkp⟩ := hrel
    by_cases hlt : i < n
    · obtain ⟨u, hu⟩ := Hlen.out i hlt
      obtain ⟨d, z, rfl, hd, hz⟩ := Hall.out i u hu
      obtain ⟨b, o, rfl, hblt, c0, c1⟩ := (Hr.out.move (w' := wr) (fun b o e => hkp.out.block b (by
        obtain ⟨b', o', e', hlt', _⟩ := Hr.out i _ hu
        rw [e'] at e; cases e; exact hlt') (HA.out b o e (by intro q; rw [q] at hu; simp at hu)))) i _ hu
      simp only [] at c0 c1
      have hlt' : (i : Int) < (n : Int) := by omega
      have Hput := Lib.hid fun o => put_any d z k hd hz hk (ht.out.alloc o)
      unfold uV at Hput
      have Hnx : Hid (upd (setAll g k (us.take i)) d z k = setAll g k (us.take (i + 1))) := by
        rw [List.take_add_one, hu]
        show _ = setAll g k (us.take i ++ [((d : Int), (z : Int))])
        rw [setAll_snoc]
        simp
      clear hu hlt Hlen ht
      go_wp2_with fail
      refine (Hput.out _).mono ?_
      rintro e w3 ⟨rfl, h3⟩
      have H3 : Hid (TabAt w3 tb db mb cap D Z (setAll g k (us.take (i + 1))) ∧ Kept (fun y => y ≠ db ∧ y ≠ mb) w1 w3) := ⟨Hnx.out ▸ h3.1, (hkp.out.alloc _).trans h3.2⟩
      clear h3 hkp Hput c0 c1
      go_wp2_with fail
      go_roundw
      case rel => exact ⟨i + 1, by go_num, by omega, H3.out.1, H3.out.2⟩
      case measure => simp [intOf]; omega
    · obtain rfl : i = n := by omega
      have Hfin : Hid (TabAt wr tb db mb cap D Z (setAll g k us) ∧ Kept (fun y => y ≠ db ∧ y ≠ mb) w1 wr) := by
        have := ht.out
        rw [Hn.out, List.take_of_length_le (Nat.le_refl _)] at this
        exact ⟨this, hkp.out⟩
      clear ht hkp hlt
      go_wp2_with fail
      go_ret
      exact ⟨rfl, Hfin.out⟩
end
end Go.Proofs.Ytajpnjapfiffmaa
