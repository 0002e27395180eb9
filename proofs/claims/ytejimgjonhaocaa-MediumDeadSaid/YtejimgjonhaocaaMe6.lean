/-
  New, Next, Get, Fix, Resize walked.
-/
import Derived.Test.YtejimgjonhaocaaMe5
namespace Go.Proofs.Ytejimgjonhaocaa
open Go.RowKit Go.Maps Go.Lib

section
set_option maxRecDepth 20000
set_option maxHeartbeats 1600000
variable {w w' : World} {tb mb dep nxt N : Nat} {L : List Md}
theorem new_any (d : Nat) (h1 : 1 ≤ d) (h2 : d ≤ 64) (w : World) : Calls Try.prog 8 #[.int .i64 (d : Int)] w fun e w' => ∃ tb mb, e = .returned (.tuple #[.pointer (some ⟨tb, 0, none⟩), .int .i64 0]) ∧ TabG w' tb mb d 1 (rowG []) 0 ∧ Below w.heap.size w w' ∧ w.heap.size ≤ tb ∧ w.heap.size ≤ mb := by
  have a1 : ¬ (d : Int) < 1 := by omega
  have a2 : ¬ 64 < (d : Int) := by omega
  have hmm := @run_makeMap Try.prog
  go_enter Try.func8, Try.ntmps8
  go_wp2_with fail
  go_ret2
  have e1 : (w.alloc (.map #[] 0)).heap.size = w.heap.size + 1 := by simp
  have hb1 : Below w.heap.size w (w.alloc (.map #[] 0)) := (Below.refl _ _).alloc (Nat.le_refl _) _
  refine ⟨w.heap.size + 1, rfl, w.heap.size, ⟨?_, ?_⟩, hb1.alloc hb1.size _, by omega, Nat.le_refl _⟩
  · rw [← e1]; exact Cells.new _ _ _
  · exact (MapV.made w).alloc _
theorem new_bad (d : Int) (h : ¬ (1 ≤ d ∧ d ≤ 64)) (w : World) : Calls Try.prog 8 #[.int .i64 d] w fun e w' => e = .returned (.tuple #[.pointer none, .int .i64 1]) ∧ w' = w := by
  by_cases a1 : d < 1
  · go_enter Try.func8, Try.ntmps8
    go_wp2_with fail
    go_ret2
    exact ⟨rfl, rfl⟩
  · have a2 : 64 < d := by omega
    go_enter Try.func8, Try.ntmps8
    go_wp2_with fail
    go_ret2
    exact ⟨rfl, rfl⟩
theorem next_any {g : Gm} (h : TabG w tb mb dep nxt g N) : Calls Try.prog 12 #[.pointer (some ⟨tb, 0, none⟩)] w fun e w' => e = .returned (.int .u64 (nxt : Int)) ∧ w' = w := by
  have c1 := h.t1
  go_enter Try.func12, Try.ntmps12
  go_wp2_with fail
  go_ret
  exact ⟨rfl, rfl⟩
/-- what Fix answers -/
def haveE (L : List Md) (n : Nat) (x : Int) : Int := if (look L n).isSome = true then x else 4
theorem fix_any (h : TabG w tb mb dep nxt (rowG L) N) (hN : N < 900000) {n : Nat} (hn : n < T64) :
    Calls Try.prog 24 #[.pointer (some ⟨tb, 0, none⟩), .int .u64 (n : Int)] w fun e w' => e = .returned (.int .i64 (haveE L n 0)) ∧ TabG w' tb mb dep nxt (rowG (fixL L n)) (N + 2) ∧ Kept (Off tb mb) w w' := by
  have c2 := h.t2
  have H := Lib.hid h
  have Hn := Lib.hid hn
  cases hm : look L n with
  | none =>
    have hlk := h.fetch_none hn (rowG_none hm)
    unfold rowZ at hlk
    have He : Hid (haveE L n 0 = 4 ∧ fixL L n = L) := ⟨by unfold haveE; rw [hm]; rfl, chg_none hm⟩
    clear h hn hm
    go_enter Try.func24, Try.ntmps24
    go_wp2_with fail
    go_ret
    exact ⟨by rw [He.out.1]; rfl, by rw [He.out.2]; exact (H.out.alloc _).mono (by omega), (Kept.refl _ _).alloc _⟩
  | some m =>
    have hlk := h.fetch_some hn (rowG_some hm)
    unfold rowV at hlk
    have He : Hid (haveE L n 0 = 0 ∧ rowG (fixL L n) = updG (rowG L) n (some (rowV (gFix m) (ups L n : Nat)))) := ⟨by unfold haveE; rw [hm]; rfl, rowG_chg (g := gFix) (fun _ => rfl) (fun _ => rfl) hm⟩
    have Hk : Hid (mb < w.heap.size ∧ tb < w.heap.size) := ⟨h.mc.lt, h.tc.lt⟩
    clear h hn hm
    go_enter Try.func24, Try.ntmps24
    go_wp2_with fail
    have H1 := Lib.hid (H.out.alloc (.cells #[.int .u64 (m.id : Int), .int .u64 (m.tgt : Int), .int .i64 (m.off : Int), .int .i64 (m.size : Int), .bool true, .int .i64 (ups L n : Nat)] 75))
    have Hc := Lib.hid (Cells.new w #[.int .u64 (m.id : Int), .int .u64 (m.tgt : Int), .int .i64 (m.off : Int), .int .i64 (m.size : Int), .bool true, .int .i64 (ups L n : Nat)] 75)
    have Hkp : Hid (Kept (Off tb mb) w (w.alloc (.cells #[.int .u64 (m.id : Int), .int .u64 (m.tgt : Int), .int .i64 (m.off : Int), .int .i64 (m.size : Int), .bool true, .int .i64 (ups L n : Nat)] 75))) := (Kept.refl _ _).alloc _
    clear hlk c2 H
    generalize w.alloc (.cells #[.int .u64 (m.id : Int), .int .u64 (m.tgt : Int), .int .i64 (m.off : Int), .int .i64 (m.size : Int), .bool true, .int .i64 (ups L n : Nat)] 75) = w1 at *
    generalize w.heap.size = B at *
    have c2 := H1.out.t2
    have k0 := Hc.out.cell (i := 0) rfl
    have k1 := Hc.out.cell (i := 1) rfl
    have k2 := Hc.out.cell (i := 2) rfl
    have k3 := Hc.out.cell (i := 3) rfl
    have k4 := Hc.out.cell (i := 4) rfl
    have k5 := Hc.out.cell (i := 5) rfl
    refine wp_region_still_tail 6 (by kernel_rfl) (by kernel_rfl) ?_
    simp only [List.take_succ_cons, List.take_zero, List.drop_succ_cons, List.drop_zero]
    repeat still_step
    refine wpStill_nil ?_
    change wpList _ _ _ _ _ w1.drew
    refine mv_store rfl _ _ _ rfl Try.underlying65 H1.out.drew.mc (by omega) Hn.out _ rfl rfl rfl ?_
    intro w2 hm2 ht2
    have H2 := Lib.hid (H1.out.drew.turned hm2 ht2)
    have Hk2 : Hid (Kept (Off tb mb) w w2) := Hkp.out.drew.grown ht2.grown (fun g e => by cases e; exact fun q => q.2 rfl)
    clear hm2 ht2
    go_wp2_with fail
    go_ret
    exact ⟨by rw [He.out.1]; rfl, by rw [He.out.2]; exact H2.out.mono (by omega), Hk2.out⟩
end
end Go.Proofs.Ytejimgjonhaocaa
