/-
  A table of mediums in memory; mayHave, mayLie, count.
-/
import Derived.Test.YtejimgjonhaocaaMe2
import Derived.Deep.RegionHeld3
import Derived.Deep.RegionLaw
import Derived.StillTailTactics
namespace Go.Proofs.Ytejimgjonhaocaa
open Go.RowKit Go.Maps Go.Lib

def rowV (m : Md) (u : Int) : Value := .agg #[.int .u64 (m.id : Int), .int .u64 (m.tgt : Int), .int .i64 (m.off : Int), .int .i64 (m.size : Int), .bool m.fixed, .int .i64 u]
def rowZ : Value := .agg #[.int .u64 0, .int .u64 0, .int .i64 0, .int .i64 0, .bool false, .int .i64 0]
theorem zero_row (w : World) : (zeroValue 75).run Try.prog w = .ok rowZ w := by kernel_rfl
def rowG (L : List Md) : Gm := fun n => (look L n).map fun m => rowV m (ups L n : Nat)
/-- A TABLE at tb, whose map is mb -/
structure TabG (w : World) (tb mb dep nxt : Nat) (g : Gm) (N : Nat) : Prop where
  tc : Cells w tb 67 [.int .i64 (dep : Int), .int .u64 (nxt : Int), .map (some mb)]
  mc : MapV w mb g N
section
variable {w w' : World} {tb mb dep nxt N M : Nat} {g : Gm}
theorem TabG.move (h : TabG w tb mb dep nxt g N) (e1 : w'.heap[tb]? = w.heap[tb]?) (e2 : w'.heap[mb]? = w.heap[mb]?) : TabG w' tb mb dep nxt g N := ⟨h.tc.move e1, h.mc.move e2⟩
theorem TabG.below (h : TabG w tb mb dep nxt g N) (hb : Below w.heap.size w w') : TabG w' tb mb dep nxt g N := h.move (hb.block _ h.tc.lt) (hb.block _ h.mc.lt)
theorem TabG.alloc (h : TabG w tb mb dep nxt g N) (o : Obj) : TabG (w.alloc o) tb mb dep nxt g N := h.below ((Below.refl _ _).alloc (Nat.le_refl _) _)
theorem TabG.drewN (h : TabG w tb mb dep nxt g N) (n : Nat) : TabG (w.drewN n) tb mb dep nxt g N := h.move rfl rfl
theorem TabG.drew (h : TabG w tb mb dep nxt g N) : TabG w.drew tb mb dep nxt g N := h.move rfl rfl
theorem TabG.mono (h : TabG w tb mb dep nxt g N) (hn : N ≤ M) : TabG w tb mb dep nxt g M := ⟨h.tc, h.mc.mono hn⟩
theorem TabG.ne (h : TabG w tb mb dep nxt g N) : tb ≠ mb := fun e => h.mc.not_cells (e ▸ h.tc)
theorem TabG.t0 (h : TabG w tb mb dep nxt g N) : w.cell? ⟨tb, 0, none⟩ = some (.int .i64 (dep : Int)) := h.tc.cell rfl
theorem TabG.t1 (h : TabG w tb mb dep nxt g N) : w.cell? ⟨tb, 1, none⟩ = some (.int .u64 (nxt : Int)) := h.tc.cell rfl
theorem TabG.t2 (h : TabG w tb mb dep nxt g N) : w.cell? ⟨tb, 2, none⟩ = some (.map (some mb)) := h.tc.cell rfl
theorem TabG.fetch (h : TabG w tb mb dep nxt g N) {n : Nat} (hn : n < T64) : (Instr.lookup 65 (.map (some mb)) (.int .u64 (n : Int)) true).run Try.prog w = .ok (.tuple #[(g n).getD rowZ, .bool (g n).isSome]) w :=
  h.mc.look Try.underlying65 (zero_row w) hn
theorem TabG.fetch_none (h : TabG w tb mb dep nxt g N) {n : Nat} (hn : n < T64) (hg : g n = none) : (Instr.lookup 65 (.map (some mb)) (.int .u64 (n : Int)) true).run Try.prog w = .ok (.tuple #[rowZ, .bool false]) w := by
  have := h.fetch hn; rw [hg] at this; exact this
theorem TabG.fetch_some (h : TabG w tb mb dep nxt g N) {n : Nat} (hn : n < T64) {v : Value} (hg : g n = some v) : (Instr.lookup 65 (.map (some mb)) (.int .u64 (n : Int)) true).run Try.prog w = .ok (.tuple #[v, .bool true]) w := by
  have := h.fetch hn; rw [hg] at this; exact this
/-- what a step that turns the map leaves -/
theorem TabG.turned {g' : Gm} (h : TabG w tb mb dep nxt g N) (hu : MapV w' mb g' M) (hmt : w.mapTurned w' mb) : TabG w' tb mb dep nxt g' M :=
  ⟨h.tc.move (hmt.grown.block tb h.tc.lt (fun e => h.ne (by cases e; rfl))), hu⟩
theorem load_cells (w : World) (t : TypeId) (b o : Nat) (cs : List Value) (ha : ∀ w, (isAgg t).run Try.prog w = .ok true w) (hs : ∀ w, (sizeOf t).run Try.prog w = .ok cs.length w) (h : ∀ j v, cs[j]? = some v → w.cell? ⟨b, o + j, none⟩ = some v) : (loadVar t ⟨b, o, none⟩).run Try.prog w = .ok (.agg cs.toArray) w := by
  have hl := run_loadCells_list (P := Try.prog) (w := w) ⟨b, o, none⟩ cs (fun j v hv => by rw [add_flat]; exact h j v hv)
  simp only [loadVar, Sem.run_bind, ha, Result.andThen_ok, if_true, hs]
  rw [hl]
  rfl
/-- OF THE OLD BLOCKS all are as they were but the table's two -/
abbrev Off (tb mb : Nat) : Nat → Prop := fun x => x ≠ tb ∧ x ≠ mb

set_option maxRecDepth 20000
set_option maxHeartbeats 1600000
theorem mayHave_any (x : Int) (w : World) : Calls Try.prog 36 #[.int .i64 x] w fun e w' => e = .returned (.bool (decide (1 ≤ x ∧ x ≤ 1048576))) ∧ w' = w := by
  by_cases h0 : 1 ≤ x
  · by_cases h1 : x ≤ 1048576
    · rw [decide_eq_true (show 1 ≤ x ∧ x ≤ 1048576 from ⟨h0, h1⟩)]
      go_enter Try.func36, Try.ntmps36
      go_wp2_with fail
      go_ret
      exact ⟨rfl, rfl⟩
    · rw [decide_eq_false (show ¬ (1 ≤ x ∧ x ≤ 1048576) from fun q => h1 q.2)]
      go_enter Try.func36, Try.ntmps36
      go_wp2_with fail
      go_ret
      exact ⟨rfl, rfl⟩
  · rw [decide_eq_false (show ¬ (1 ≤ x ∧ x ≤ 1048576) from fun q => h0 q.1)]
    go_enter Try.func36, Try.ntmps36
    go_wp2_with fail
    go_ret
    exact ⟨rfl, rfl⟩
theorem mayLie_any (x : Int) (w : World) : Calls Try.prog 37 #[.int .i64 x] w fun e w' => e = .returned (.bool (decide (0 ≤ x ∧ x ≤ 1048576))) ∧ w' = w := by
  by_cases h0 : 0 ≤ x
  · by_cases h1 : x ≤ 1048576
    · rw [decide_eq_true (show 0 ≤ x ∧ x ≤ 1048576 from ⟨h0, h1⟩)]
      go_enter Try.func37, Try.ntmps37
      go_wp2_with fail
      go_ret
      exact ⟨rfl, rfl⟩
    · rw [decide_eq_false (show ¬ (0 ≤ x ∧ x ≤ 1048576) from fun q => h1 q.2)]
      go_enter Try.func37, Try.ntmps37
      go_wp2_with fail
      go_ret
      exact ⟨rfl, rfl⟩
  · rw [decide_eq_false (show ¬ (0 ≤ x ∧ x ≤ 1048576) from fun q => h0 q.1)]
    go_enter Try.func37, Try.ntmps37
    go_wp2_with fail
    go_ret
    exact ⟨rfl, rfl⟩
theorem count_none (h : TabG w tb mb dep nxt g N) {n : Nat} (hn : n < T64) (hg : g n = none) (x : Int) : Calls Try.prog 38 #[.pointer (some ⟨tb, 0, none⟩), .int .u64 (n : Int), .int .i64 x] w fun e w' => e = .returned (.tuple #[]) ∧ Below w.heap.size w w' := by
  have c2 := h.t2
  have hlk := h.fetch_none hn hg
  unfold rowZ at hlk
  clear h hn hg
  go_enter Try.func38, Try.ntmps38
  go_wp2_with fail
  go_end0
  exact ⟨rfl, (Below.refl _ _).alloc (Nat.le_refl _) _⟩
theorem count_some (h : TabG w tb mb dep nxt g N) {n : Nat} (hn : n < T64) {m : Md} {u x : Int} (hg : g n = some (rowV m u)) (hN : N < 1000000) (hw : wrap64 (u + x) = u + x) : Calls Try.prog 38 #[.pointer (some ⟨tb, 0, none⟩), .int .u64 (n : Int), .int .i64 x] w fun e w' => e = .returned (.tuple #[]) ∧ TabG w' tb mb dep nxt (updG g n (some (rowV m (u + x)))) (N + 1) ∧ Kept (fun b => b ≠ mb) w w' := by
  have c2 := h.t2
  have hlk := h.fetch_some hn hg
  have H := Lib.hid h
  have Hn := Lib.hid hn
  have Hk : Hid (mb < w.heap.size ∧ tb < w.heap.size) := ⟨h.mc.lt, h.tc.lt⟩
  unfold rowV at hlk
  clear h hn hg
  go_enter Try.func38, Try.ntmps38
  go_wp2_with fail
  rw [hw]
  have e0 : w.heap.size ≠ mb ∧ w.heap.size ≠ tb := ⟨by have := Hk.out.1; omega, by have := Hk.out.2; omega⟩
  have H1 := Lib.hid (H.out.alloc (.cells #[.int .u64 (m.id : Int), .int .u64 (m.tgt : Int), .int .i64 (m.off : Int), .int .i64 (m.size : Int), .bool m.fixed, .int .i64 (u + x)] 75))
  have Hc := Lib.hid (Cells.new w #[.int .u64 (m.id : Int), .int .u64 (m.tgt : Int), .int .i64 (m.off : Int), .int .i64 (m.size : Int), .bool m.fixed, .int .i64 (u + x)] 75)
  have Hkp : Hid (Kept (fun b => b ≠ mb) w (w.alloc (.cells #[.int .u64 (m.id : Int), .int .u64 (m.tgt : Int), .int .i64 (m.off : Int), .int .i64 (m.size : Int), .bool m.fixed, .int .i64 (u + x)] 75))) := (Kept.refl _ _).alloc _
  clear hlk c2 H
  generalize w.alloc (.cells #[.int .u64 (m.id : Int), .int .u64 (m.tgt : Int), .int .i64 (m.off : Int), .int .i64 (m.size : Int), .bool m.fixed, .int .i64 (u + x)] 75) = w1 at *
  generalize w.heap.size = B at *
  have c2 := H1.out.t2
  have k0 := Hc.out.cell (i := 0) rfl
  have k1 := Hc.out.cell (i := 1) rfl
  have k2 := Hc.out.cell (i := 2) rfl
  have k3 := Hc.out.cell (i := 3) rfl
  have k4 := Hc.out.cell (i := 4) rfl
  have k5 := Hc.out.cell (i := 5) rfl
  clear hw
  refine wp_region_still_tail 6 (by kernel_rfl) (by kernel_rfl) ?_
  simp only [List.take_succ_cons, List.take_zero, List.drop_succ_cons, List.drop_zero]
  repeat still_step
  refine wpStill_nil ?_
  change wpList _ _ _ _ _ w1.drew
  refine mv_store rfl _ _ _ rfl Try.underlying65 H1.out.drew.mc hN Hn.out _ rfl rfl rfl ?_
  intro w2 hm2 ht2
  have H2 := Lib.hid (H1.out.drew.turned hm2 ht2)
  have Hk2 : Hid (Kept (fun b => b ≠ mb) w w2) := Hkp.out.drew.grown ht2.grown (fun g e => by cases e; exact fun q => q rfl)
  clear hm2 ht2
  go_wp2_with fail
  go_end0
  exact ⟨rfl, H2.out, Hk2.out⟩
end
end Go.Proofs.Ytejimgjonhaocaa
