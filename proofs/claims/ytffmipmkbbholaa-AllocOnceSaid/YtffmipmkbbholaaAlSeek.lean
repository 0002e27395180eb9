/-
  seek: a drive's lowest free unit is looked for.
-/
import Derived.Test.YtffmipmkbbholaaAlCount
import Derived.Deep.LoopGhost
namespace Go.Proofs.Ytffmipmkbbholaa
open Go.RowKit Go.Maps

/-- a table whose drives' lowest ones are l's -/
structure TabL (w : World) (tb db mb cap D Z : Nat) (g : St) (c : Nat → Nat → Int) (l : Nat → Int) : Prop where
  tc : Cells w tb 61 [.int .i64 (Z : Int), .slice (some ⟨db, 0, none⟩) D cap, .map (some mb)]
  dc : DC w db D c l
  mc : UM w mb 3 (stU g) D Z
section
variable {w w' : World} {tb db mb cap D Z : Nat} {g : St} {c : Nat → Nat → Int} {l : Nat → Int}
theorem TabAt.toL (h : TabAt w tb db mb cap D Z g) : TabL w tb db mb cap D Z g (fun d k => (cnt (g d) k Z : Nat)) (fun d => (low (g d) Z : Nat)) := ⟨h.tc, h.dc, h.mc⟩
theorem TabL.drewN (h : TabL w tb db mb cap D Z g c l) (n : Nat) : TabL (w.drewN n) tb db mb cap D Z g c l := ⟨h.tc, h.dc, h.mc⟩
theorem TabL.drew (h : TabL w tb db mb cap D Z g c l) : TabL w.drew tb db mb cap D Z g c l := ⟨h.tc, h.dc, h.mc⟩
theorem TabL.tb_db (h : TabL w tb db mb cap D Z g c l) : tb ≠ db := fun e => by
  obtain ⟨cur, h1, _⟩ := h.dc
  have := h.tc
  unfold Cells at this
  rw [e, h1] at this
  simp at this
theorem TabL.tb_mb (h : TabL w tb db mb cap D Z g c l) : tb ≠ mb := fun e => h.mc.not_cells (e ▸ h.tc)
theorem TabL.db_mb (h : TabL w tb db mb cap D Z g c l) : db ≠ mb := fun e => by
  obtain ⟨cur, h1, _⟩ := h.dc
  exact h.mc.not_cells (e ▸ h1)
theorem set_other {w : World} {b x : Nat} (i : Nat) (v : Value) (h : x ≠ b) : (w.setCell ⟨b, i, none⟩ v).heap[x]? = w.heap[x]? := Below.heap_setCell _ _ _ _ h
theorem TabL.setC (h : TabL w tb db mb cap D Z g c l) {d k : Nat} (hd : d < D) (hk : k < 4) (x : Int) : TabL (w.setCell ⟨db, 6 * d + k, none⟩ (.int .i64 x)) tb db mb cap D Z g (upd c d k x) l :=
  ⟨h.tc.move (set_other _ _ h.tb_db), h.dc.set hd hk x, h.mc.move (set_other _ _ h.db_mb.symm)⟩
theorem TabL.setL (h : TabL w tb db mb cap D Z g c l) {d : Nat} (hd : d < D) (x : Int) : TabL (w.setCell ⟨db, 6 * d + 5, none⟩ (.int .i64 x)) tb db mb cap D Z g c (fun d' => if d' = d then x else l d') :=
  ⟨h.tc.move (set_other _ _ h.tb_db), h.dc.setL hd x, h.mc.move (set_other _ _ h.db_mb.symm)⟩
theorem TabL.congr {c' : Nat → Nat → Int} {l' : Nat → Int} (h : TabL w tb db mb cap D Z g c l) (hc : ∀ d k, d < D → k < 4 → c' d k = c d k) (hl : ∀ d, d < D → l' d = l d) : TabL w tb db mb cap D Z g c' l' :=
  ⟨h.tc, h.dc.congr hc hl, h.mc⟩
theorem TabL.m2 (h : TabL w tb db mb cap D Z g c l) : w.cell? ⟨tb, 2, none⟩ = some (.map (some mb)) := h.tc.cell rfl
theorem TabL.t1 (h : TabL w tb db mb cap D Z g c l) : w.cell? ⟨tb, 1, none⟩ = some (.slice (some ⟨db, 0, none⟩) D cap) := h.tc.cell rfl
theorem Kept.setDb {K : Nat → Prop} (h : Kept K w w') {b : Nat} (hb : ¬ K b) (i : Nat) (v : Value) : Kept K w (w'.setCell ⟨b, i, none⟩ v) := h.setCell hb v
theorem drewN_kept {K : Nat → Prop} (h : Kept K w w') (n : Nat) : Kept K w (w'.drewN n) := h.drewN n

set_option maxRecDepth 20000
set_option maxHeartbeats 1600000
theorem seek_any (d l0 : Nat) (hl0 : l0 ≤ Z) (hd : d < D) (hZ : Z ≤ 4096) (hD : D ≤ 32) (hlow : ∀ z, z < l0 → g d z ≠ 0) (hz : g d Z = 0) (h : TabL w tb db mb cap D Z g c (fun d' => if d' = d then (l0 : Int) else l d')) :
    Calls Try.prog 53 #[.pointer (some ⟨tb, 0, none⟩), .pointer (some ⟨db, d * 6, none⟩)] w fun e w' => e = .returned (.tuple #[]) ∧ TabL w' tb db mb cap D Z g c (fun d' => if d' = d then (low (g d) Z : Nat) else l d') ∧ Kept (fun x => x ≠ db) w w' := by
  have H0 := Lib.hid h
  have Hl := Lib.hid hlow
  have Hz := Lib.hid hz
  clear h hlow hz
  go_enter Try.func53, Try.ntmps53
  go_wp2_with fail
  go_loopg [4] (Z - l0) (fun gk _ wr => ∃ l1 : Nat, l1 ≤ Z ∧ Z - l1 ≤ gk ∧ Hid (∀ z, z < l1 → g d z ≠ 0) ∧ Hid (TabL wr tb db mb cap D Z g c (fun d' => if d' = d then (l1 : Int) else l d')) ∧ Hid (Kept (fun x => x ≠ db) w wr))
  case atStart => exact ⟨l0, hl0, Nat.le_refl _, Hl.out, H0.out, Kept.refl _ _⟩
  case round =>
    obtain ⟨l1, h1, hgk, hne, ht, hk⟩ := hrel
    have m2 := ht.out.m2
    have k4 : wr.cell? ⟨db, d * 6 + 4, none⟩ = some (.int .i64 (d : Int)) := by rw [show d * 6 + 4 = 6 * d + 4 by omega]; exact ht.out.dc.cellD hd
    have k5 : wr.cell? ⟨db, d * 6 + 5, none⟩ = some (.int .i64 (l1 : Int)) := by rw [show d * 6 + 5 = 6 * d + 5 by omega, ht.out.dc.cellL hd, if_pos rfl]
    have hlk : ∀ n, (Instr.lookup 58 (.map (some mb)) (.agg #[.int .i64 (d : Int), .int .i64 (l1 : Int)]) false).run Try.prog (wr.drewN n) = .ok (.int .i64 (g d l1 : Nat)) (wr.drewN n) := fun n => (ht.out.mc.drewN n).look Try.underlying58 (by omega) (by omega) (stU_get g d l1)
    obtain ⟨s, hs⟩ : ∃ s, s = g d l1 := ⟨_, rfl⟩
    rw [← hs] at hlk
    have Hs := Lib.hid hs
    clear hs
    go_wp2_with fail
    go_quiet (fail)
    have Ht := Lib.hid (ht.out.drewN nq)
    have Hk := Lib.hid (hk.out.drewN nq)
    clear m2 k4 k5 hlk ht hk
    generalize wr.drewN nq = w2 at Ht Hk ⊢
    by_cases h0 : s = 0
    · subst h0
      have Hend : Hid (TabL w2 tb db mb cap D Z g c (fun d' => if d' = d then (low (g d) Z : Nat) else l d') ∧ Kept (fun x => x ≠ db) w w2) := by
        have e : l1 = low (g d) Z := low_uniq h1 hne.out fun _ => Hs.out.symm
        rw [← e]
        exact ⟨Ht.out, Hk.out⟩
      clear Ht Hk Hs hne
      go_wp2_with fail
      go_end0
      exact ⟨rfl, Hend.out⟩
    · have hlt : l1 < Z := by
        rcases Nat.lt_or_ge l1 Z with q | q
        · exact q
        · obtain rfl : l1 = Z := by omega
          exact absurd (Hs.out.trans Hz.out) h0
      have hs0 : ¬ (s : Int) = 0 := by omega
      have k5 : w2.cell? ⟨db, d * 6 + 5, none⟩ = some (.int .i64 (l1 : Int)) := by rw [show d * 6 + 5 = 6 * d + 5 by omega, Ht.out.dc.cellL hd, if_pos rfl]
      have f5 : w2.frozen? ⟨db, d * 6 + 5, none⟩ = false := Ht.out.dc.frozen _
      have hl1 : (l1 : Int) ≤ 4096 := by omega
      have Hn : Hid (TabL (w2.setCell ⟨db, d * 6 + 5, none⟩ (.int .i64 ((l1 : Int) + 1))) tb db mb cap D Z g c (fun d' => if d' = d then ((l1 + 1 : Nat) : Int) else l d') ∧ Kept (fun x => x ≠ db) w (w2.setCell ⟨db, d * 6 + 5, none⟩ (.int .i64 ((l1 : Int) + 1))) ∧ ∀ z, z < l1 + 1 → g d z ≠ 0) := by
        refine ⟨?_, Hk.out.setCell (fun q => q rfl) _, fun z hz => ?_⟩
        · rw [show d * 6 + 5 = 6 * d + 5 by omega]
          refine (Ht.out.setL hd ((l1 : Int) + 1)).congr (fun _ _ _ _ => rfl) fun d' _ => ?_
          by_cases q : d' = d
          · simp [q]
          · simp [q]
        · by_cases q : z = l1
          · subst q; rw [← Hs.out]; exact h0
          · exact hne.out z (by omega)
      clear Ht Hk Hs hne h0 h1
      go_wp2_with fail
      go_roundg (Z - (l1 + 1))
      case measure => omega
      case rel => exact ⟨l1 + 1, by omega, by omega, Hn.out.2.2, Hn.out.1, Hn.out.2.1⟩
end
end Go.Proofs.Ytffmipmkbbholaa
