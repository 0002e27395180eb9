/-
  Room; the second saying's Check, Row, Room.
-/
import Derived.Test.YtlficcdbnmheeaaDoorSg1
import Derived.Shelf.SlSortCmp.QuietGrown
import Derived.Test.YtlficcdbnmheeaaDoorKBase
namespace Go.Proofs.YtlficcdbnmheeaaDoor
open Go.RowKit Go.Sort Go.Lib
section
set_option maxRecDepth 20000
set_option maxHeartbeats 800000
theorem sroom_any (K P G : Int) (hP : -9223372036854775808 ≤ P ∧ P ≤ 9223372036854775807) (w : World) : Calls Tryd.prog 16 #[shV K P G] w fun e w' => e = .returned (.int .i64 (roomS K P G)) ∧ Gr w w' := by
  obtain ⟨W, hW⟩ : ∃ W, W = w.alloc (.cells #[.int .i64 K, .int .i64 P, .int .i64 G] 23) := ⟨_, rfl⟩
  have hG : Gr w W := by rw [hW]; exact Gr.alloc w _
  have hC : Cells W w.heap.size 23 [.int .i64 K, .int .i64 P, .int .i64 G] := by rw [hW]; exact Cells.new w _ _
  have c0 : ∀ n os, (grow (W.drewN n) os).cell? ⟨w.heap.size, 0, none⟩ = some (.int .i64 K) := fun n os => cell_grown (a := ⟨w.heap.size, 0, none⟩) hC.lt (hC.cell rfl) n os
  have c1 : ∀ n os, (grow (W.drewN n) os).cell? ⟨w.heap.size, 1, none⟩ = some (.int .i64 P) := fun n os => cell_grown (a := ⟨w.heap.size, 1, none⟩) hC.lt (hC.cell rfl) n os
  have c2 : ∀ n os, (grow (W.drewN n) os).cell? ⟨w.heap.size, 2, none⟩ = some (.int .i64 G) := fun n os => cell_grown (a := ⟨w.heap.size, 2, none⟩) hC.lt (hC.cell rfl) n os
  have Hr := Lib.hid fun w => row_any K P G w
  have HG : Hid (∀ n os, Gr w (grow (W.drewN n) os)) := fun n os => hG.trans ⟨n, os, rfl⟩
  have hval : IntKind.i64.wrap (rowS K P G * IntKind.i64.wrap (P - 1)) = roomS K P G := by
    unfold roomS
    rcases hok : okS K P G with _ | _
    · rw [rowS_no hok, Int.zero_mul, Int.zero_mul]; rfl
    · have h1 := rowS_bounds hok
      obtain ⟨_, _, h2, h3, _⟩ := okS_facts hok
      rw [show IntKind.i64.wrap (P - 1) = P - 1 from by rw [IntKind.wrap_i64]; omega]
      generalize rowS K P G = R at *
      obtain ⟨r, rfl⟩ : ∃ r : Nat, R = (r : Int) := ⟨R.toNat, by omega⟩
      obtain ⟨p, hp⟩ : ∃ p : Nat, P - 1 = (p : Int) := ⟨(P - 1).toNat, by omega⟩
      rw [hp]
      have h6 : r * p ≤ 2097120 * 4095 := Nat.mul_le_mul (by omega) (by omega)
      have h7 : ((r : Int) * (p : Int)) = ((r * p : Nat) : Int) := by simp
      rw [h7, IntKind.wrap_i64]
      omega
  unfold shV at Hr ⊢
  generalize rowS K P G = R at *
  generalize roomS K P G = RR at *
  clear hG hC
  go_enter Tryd.func16, Tryd.ntmps16
  go_wp2_with fail
  rw [← hW]
  clear hW
  refine wp_region_quiet_grown (by kernel_rfl) (by kernel_rfl) ?_
  try simp only [List.append]
  repeat (go_big_quiet_step (first | (go_at_call 14; refine Calls.grown_of (Hr.out _))))
  refine wpQuiet_nil ?_
  intro _ hw'
  obtain ⟨⟨nq, osq⟩, hw''⟩ := hw'
  subst hw''
  go_wp2_with fail
  go_ret
  exact ⟨by simp only [IntWalk.i64_left] at hval; simpa using hval, HG.out _ _⟩
theorem rcheck_any (K P G : Int) (w : World) : Calls Tryd.prog 13 #[shV K P G] w fun e w' => e = .returned (.int .i64 (chkS K P G)) ∧ w' = w.alloc (.cells #[.int .i64 K, .int .i64 P, .int .i64 G] 28) := by
  unfold shV
  by_cases h1 : K < 1
  · rw [chkS_no (decide_eq_false (by omega))]
    go_enter Tryd.func13, Tryd.ntmps13
    go_wp2_with fail
    go_ret
    exact ⟨rfl, rfl⟩
  by_cases h2 : 32 < K
  · rw [chkS_no (decide_eq_false (by omega))]
    go_enter Tryd.func13, Tryd.ntmps13
    go_wp2_with fail
    go_ret
    exact ⟨rfl, rfl⟩
  by_cases h3 : P < 2
  · rw [chkS_no (decide_eq_false (by omega))]
    go_enter Tryd.func13, Tryd.ntmps13
    go_wp2_with fail
    go_ret
    exact ⟨rfl, rfl⟩
  by_cases h4 : 4096 < P
  · rw [chkS_no (decide_eq_false (by omega))]
    go_enter Tryd.func13, Tryd.ntmps13
    go_wp2_with fail
    go_ret
    exact ⟨rfl, rfl⟩
  have Hr := Lib.hid fun w => refRoom_any G w
  by_cases h5 : roomOf G = 0
  · rw [chkS_no (decide_eq_false fun q => q.2.2.2.2 h5)]
    rw [h5] at Hr
    clear h5
    go_enter Tryd.func13, Tryd.ntmps13
    go_wp2_with fail
    refine (Hr.out _).mono ?_
    rintro e w1 ⟨rfl, rfl⟩
    go_wp2_with fail
    go_ret
    exact ⟨rfl, rfl⟩
  · rw [chkS_ok (decide_eq_true ⟨by omega, by omega, by omega, by omega, h5⟩)]
    generalize roomOf G = C at *
    go_enter Tryd.func13, Tryd.ntmps13
    go_wp2_with fail
    refine (Hr.out _).mono ?_
    rintro e w1 ⟨rfl, rfl⟩
    go_wp2_with fail
    go_ret
    exact ⟨rfl, rfl⟩
theorem rrow_any (K P G : Int) (w : World) : Calls Tryd.prog 15 #[shV K P G] w fun e w' => e = .returned (.int .i64 (rowS K P G)) ∧ Gr w w' := by
  have Hc := Lib.hid fun w => rcheck_any K P G w
  unfold shV at Hc ⊢
  rcases hok : okS K P G with _ | _
  · rw [chkS_no hok] at Hc
    rw [rowS_no hok]
    clear hok
    go_enter Tryd.func15, Tryd.ntmps15
    go_wp2_with fail
    refine (Hc.out _).mono ?_
    rintro e w1 ⟨rfl, rfl⟩
    go_wp2_with fail
    go_ret
    exact ⟨rfl, (Gr.alloc w _).trans (Gr.alloc _ _)⟩
  · rw [chkS_ok hok] at Hc
    rw [rowS_ok hok]
    obtain ⟨k1, k2, _, _, k3, k4, _⟩ := okS_facts hok
    have hrb := rowS_bounds hok
    rw [rowS_ok hok] at hrb
    have Hr := Lib.hid fun w => refRoom_any G w
    generalize roomOf G = C at *
    have hw : IntKind.i64.wrap (K * C) = K * C := by rw [IntKind.wrap_i64]; omega
    clear hok
    go_enter Tryd.func15, Tryd.ntmps15
    go_wp2_with fail
    refine (Hc.out _).mono ?_
    rintro e w1 ⟨rfl, hw1⟩
    obtain ⟨W, hW⟩ : ∃ W, W = w1 := ⟨_, rfl⟩
    have hG : Gr w W := by rw [hW, hw1]; exact (Gr.alloc w _).trans (Gr.alloc _ _)
    have hC : Cells W w.heap.size 28 [.int .i64 K, .int .i64 P, .int .i64 G] := by rw [hW, hw1]; exact (Cells.new w _ _).alloc _
    rw [← hW]
    clear hW hw1
    have d0 : ∀ q, (W.drewN q).cell? ⟨w.heap.size, 0, none⟩ = some (.int .i64 K) := fun q => hC.cell rfl
    have d2 : ∀ q, (W.drewN q).cell? ⟨w.heap.size, 2, none⟩ = some (.int .i64 G) := fun q => hC.cell rfl
    have HG : Hid (∀ q, Gr w (W.drewN q)) := fun q => hG.trans (Gr.drewN _ _)
    clear hG hC
    go_wp2_with fail
    go_quiet ((go_at_call 43; exact Calls.quiet_of_same ((Hr.out _).mono (fun e w' h => ⟨h.1, h.2.symm⟩))))
    go_wp2_with fail
    go_ret
    exact ⟨by simp [hw], HG.out _⟩
theorem rsroom_any (K P G : Int) (hP : -9223372036854775808 ≤ P ∧ P ≤ 9223372036854775807) (w : World) : Calls Tryd.prog 17 #[shV K P G] w fun e w' => e = .returned (.int .i64 (roomS K P G)) ∧ Gr w w' := by
  obtain ⟨W, hW⟩ : ∃ W, W = w.alloc (.cells #[.int .i64 K, .int .i64 P, .int .i64 G] 28) := ⟨_, rfl⟩
  have hG : Gr w W := by rw [hW]; exact Gr.alloc w _
  have hC : Cells W w.heap.size 28 [.int .i64 K, .int .i64 P, .int .i64 G] := by rw [hW]; exact Cells.new w _ _
  have c0 : ∀ n os, (grow (W.drewN n) os).cell? ⟨w.heap.size, 0, none⟩ = some (.int .i64 K) := fun n os => cell_grown (a := ⟨w.heap.size, 0, none⟩) hC.lt (hC.cell rfl) n os
  have c1 : ∀ n os, (grow (W.drewN n) os).cell? ⟨w.heap.size, 1, none⟩ = some (.int .i64 P) := fun n os => cell_grown (a := ⟨w.heap.size, 1, none⟩) hC.lt (hC.cell rfl) n os
  have c2 : ∀ n os, (grow (W.drewN n) os).cell? ⟨w.heap.size, 2, none⟩ = some (.int .i64 G) := fun n os => cell_grown (a := ⟨w.heap.size, 2, none⟩) hC.lt (hC.cell rfl) n os
  have Hr := Lib.hid fun w => rrow_any K P G w
  have HG : Hid (∀ n os, Gr w (grow (W.drewN n) os)) := fun n os => hG.trans ⟨n, os, rfl⟩
  have hval : IntKind.i64.wrap (rowS K P G * IntKind.i64.wrap (P - 1)) = roomS K P G := by
    unfold roomS
    rcases hok : okS K P G with _ | _
    · rw [rowS_no hok, Int.zero_mul, Int.zero_mul]; rfl
    · have h1 := rowS_bounds hok
      obtain ⟨_, _, h2, h3, _⟩ := okS_facts hok
      rw [show IntKind.i64.wrap (P - 1) = P - 1 from by rw [IntKind.wrap_i64]; omega]
      generalize rowS K P G = R at *
      obtain ⟨r, rfl⟩ : ∃ r : Nat, R = (r : Int) := ⟨R.toNat, by omega⟩
      obtain ⟨p, hp⟩ : ∃ p : Nat, P - 1 = (p : Int) := ⟨(P - 1).toNat, by omega⟩
      rw [hp]
      have h6 : r * p ≤ 2097120 * 4095 := Nat.mul_le_mul (by omega) (by omega)
      have h7 : ((r : Int) * (p : Int)) = ((r * p : Nat) : Int) := by simp
      rw [h7, IntKind.wrap_i64]
      omega
  unfold shV at Hr ⊢
  generalize rowS K P G = R at *
  generalize roomS K P G = RR at *
  clear hG hC
  go_enter Tryd.func17, Tryd.ntmps17
  go_wp2_with fail
  rw [← hW]
  clear hW
  refine wp_region_quiet_grown (by kernel_rfl) (by kernel_rfl) ?_
  try simp only [List.append]
  repeat (go_big_quiet_step (first | (go_at_call 15; refine Calls.grown_of (Hr.out _))))
  refine wpQuiet_nil ?_
  intro _ hw'
  obtain ⟨⟨nq, osq⟩, hw''⟩ := hw'
  subst hw''
  go_wp2_with fail
  go_ret
  exact ⟨by simp only [IntWalk.i64_left] at hval; simpa using hval, HG.out _ _⟩
end
end Go.Proofs.YtlficcdbnmheeaaDoor

/-
  The laws' helpers: Of, Small.
-/
namespace Go.Proofs.YtlficcdbnmheeaaDoor
open Go.RowKit Go.Sort Go.Lib

section
set_option maxRecDepth 20000
set_option maxHeartbeats 1600000
theorem res_cell {fn : Func} {p : Tmp} {s : TypeId} (h : fn.results = #[.cell p s]) (tmps : Array Value) (w : World) (a : Addr) (u : Value) (ha : tmps.getD p undef = .pointer (some a))
    (h1 : (loadVar s a).run Tryd.prog w = .ok u w) : (results fn tmps).run Tryd.prog w = .ok u w := by
  have ha' : tmps[p]?.getD undef = .pointer (some a) := by simpa using ha
  simp [results, h, ha', asAddr, h1]
theorem load_rshape (w : World) (b : Nat) (K P G : Int) (hc : Cells w b 28 [.int .i64 K, .int .i64 P, .int .i64 G]) : (loadVar 28 ⟨b, 0, none⟩).run Tryd.prog w = .ok (shV K P G) w := by
  have hl := run_loadCells_list (P := Tryd.prog) (w := w) ⟨b, 0, none⟩ [.int .i64 K, .int .i64 P, .int .i64 G] (fun j v hv => by
    rw [add_flat, Nat.zero_add]
    exact hc.cell hv)
  simp only [loadVar, Sem.run_bind, Tryd.isAgg28, Result.andThen_ok, if_true, Tryd.sizeOf28]
  rw [show ([Value.int .i64 K, Value.int .i64 P, Value.int .i64 G] : List Value).length = 3 from rfl] at hl
  rw [hl]
  rfl
theorem of_any (K P G : Int) (w : World) : Calls Tryd.prog 11 #[shV K P G] w fun e w' => e = .returned (shV K P G) ∧ Gr w w' := by
  have hC : ∀ W : World, Cells (W.alloc (.cells #[.int .i64 K, .int .i64 P, .int .i64 G] 28)) W.heap.size 28 [.int .i64 K, .int .i64 P, .int .i64 G] := fun W => Cells.new W _ _
  have HC := Lib.hid hC
  clear hC
  unfold shV
  go_enter Tryd.func11, Tryd.ntmps11
  go_wp2_with fail
  refine bodyPost_ret (v := shV K P G) (res_cell rfl _ _ _ _ rfl (load_rshape _ _ _ _ _ ?_)) rfl ?_
  · have hz := HC.out (w.alloc (.cells #[.int .i64 K, .int .i64 P, .int .i64 G] 23))
    rw [show (w.alloc (.cells #[.int .i64 K, .int .i64 P, .int .i64 G] 23)).heap.size = w.heap.size + 1 by simp] at hz
    exact hz
  · exact ⟨rfl, (Gr.alloc w _).trans (Gr.alloc _ _)⟩
def smallS (K P G : Int) : Bool := !okS K P G || (decide (G ≤ 600) && decide (K ≤ 12))
theorem small_any (K P G : Int) (w : World) : Calls Tryd.prog 10 #[shV K P G] w fun e w' => e = .returned (.bool (smallS K P G)) ∧ Gr w w' := by
  have Hof := Lib.hid fun W => of_any K P G W
  have Hck := Lib.hid fun W => rcheck_any K P G W
  obtain ⟨W, hW⟩ : ∃ W, W = w.alloc (.cells #[.int .i64 K, .int .i64 P, .int .i64 G] 23) := ⟨_, rfl⟩
  have hG : Gr w W := by rw [hW]; exact Gr.alloc w _
  have hC : Cells W w.heap.size 23 [.int .i64 K, .int .i64 P, .int .i64 G] := by rw [hW]; exact Cells.new w _ _
  have HF : Hid (∀ W2, Gr W W2 → Gr w W2 ∧ Cells W2 w.heap.size 23 [.int .i64 K, .int .i64 P, .int .i64 G]) := fun W2 hg => ⟨hG.trans hg, hC.move (hg.below.block _ hC.lt)⟩
  have c0 := hC.cell (i := 0) rfl
  have c1 := hC.cell (i := 1) rfl
  have c2 := hC.cell (i := 2) rfl
  clear hG hC
  unfold shV at *
  rcases hok : okS K P G with _ | _
  · rw [chkS_no hok] at Hck
    have hs : smallS K P G = true := by unfold smallS; rw [hok]; rfl
    rw [hs]
    clear hok hs
    go_enter Tryd.func10, Tryd.ntmps10
    go_wp2_with fail
    rw [← hW]
    clear hW
    refine (Hof.out W).mono ?_
    rintro e w1 ⟨rfl, hg1⟩
    have H1 := Lib.hid hg1
    clear hg1
    go_wp2_with fail
    refine (Hck.out w1).mono ?_
    rintro e w2 ⟨rfl, hw2⟩
    have H2 : Hid (Gr W w2) := H1.out.trans (by rw [hw2]; exact Gr.alloc _ _)
    obtain ⟨_, hC2⟩ := HF.out w2 H2.out
    have d0 := hC2.cell (i := 0) rfl
    have d1 := hC2.cell (i := 1) rfl
    have d2 := hC2.cell (i := 2) rfl
    clear hw2 hC2 c0 c1 c2
    go_wp2_with fail
    go_ret
    exact ⟨rfl, (HF.out w2 H2.out).1⟩
  · rw [chkS_ok hok] at Hck
    have hs : smallS K P G = (decide (G ≤ 600) && decide (K ≤ 12)) := by unfold smallS; rw [hok]; rfl
    rw [hs]
    clear hok hs
    by_cases q : G ≤ 600
    all_goals
      go_enter Tryd.func10, Tryd.ntmps10
      go_wp2_with fail
      rw [← hW]
      clear hW
      refine (Hof.out W).mono ?_
      rintro e w1 ⟨rfl, hg1⟩
      have H1 := Lib.hid hg1
      clear hg1
      go_wp2_with fail
      refine (Hck.out w1).mono ?_
      rintro e w2 ⟨rfl, hw2⟩
      have H2 : Hid (Gr W w2) := H1.out.trans (by rw [hw2]; exact Gr.alloc _ _)
      obtain ⟨_, hC2⟩ := HF.out w2 H2.out
      have d0 := hC2.cell (i := 0) rfl
      have d1 := hC2.cell (i := 1) rfl
      have d2 := hC2.cell (i := 2) rfl
      clear hw2 hC2 c0 c1 c2
      go_wp2_with fail
      go_ret
      exact ⟨by first | (simp [q]; done) | (simp; omega), (HF.out w2 H2.out).1⟩
end
end Go.Proofs.YtlficcdbnmheeaaDoor

/-
  The second saying's HeadOf.
-/
namespace Go.Proofs.YtlficcdbnmheeaaDoor
open Go.RowKit Go.Sort Go.Lib

/-- row 0's payload -/
def headL (k p g : Nat) : List UInt8 := numBytes k ++ numBytes p ++ numBytes g
section
set_option maxRecDepth 20000
set_option maxHeartbeats 1600000
theorem headof_any (k p g : Nat) (hk : k ≤ 4096) (hp : p ≤ 4096) (hg : g ≤ 65536) (w : World) : Calls Tryd.prog 48 #[shV k p g] w fun e w' => ∃ v, e = .returned v ∧ Own w' w.heap.size v (headL k p g) ∧ Below w.heap.size w w' := by
  obtain ⟨W, hW⟩ : ∃ W, W = w.alloc (.cells #[.int .i64 (k : Int), .int .i64 (p : Int), .int .i64 (g : Int)] 28) := ⟨_, rfl⟩
  have hC : Cells W w.heap.size 28 [.int .i64 (k : Int), .int .i64 (p : Int), .int .i64 (g : Int)] := by rw [hW]; exact Cells.new w _ _
  have hB : Below w.heap.size w W := by rw [hW]; exact (Below.refl _ _).alloc (Nat.le_refl _) _
  have HF : Hid (∀ W2, Below W.heap.size W W2 → Below w.heap.size w W2 ∧ Cells W2 w.heap.size 28 [.int .i64 (k : Int), .int .i64 (p : Int), .int .i64 (g : Int)] ∧ W.heap.size ≤ W2.heap.size) := fun W2 hb => ⟨hB.trans (hb.mono hB.size), hC.move (hb.block _ hC.lt), hb.size⟩
  have HT : Hid (k < two64 ∧ p < two64 ∧ g < two64 ∧ w.heap.size ≤ W.heap.size) := ⟨by rw [two64_eq]; omega, by rw [two64_eq]; omega, by rw [two64_eq]; omega, hB.size⟩
  have H1c := Lib.hid (refNumber_any W.heap.size (.slice none 0 0) [] k W HT.out.1 (Own.nil _ _) (Nat.le_refl _) (by decide))
  have c0 := hC.cell (i := 0) rfl
  have c1 := hC.cell (i := 1) rfl
  have c2 := hC.cell (i := 2) rfl
  have k0 : (0 : Int) ≤ (k : Int) ∧ (k : Int) ≤ 4096 := by omega
  have p0 : (0 : Int) ≤ (p : Int) ∧ (p : Int) ≤ 4096 := by omega
  have g0 : (0 : Int) ≤ (g : Int) ∧ (g : Int) ≤ 65536 := by omega
  obtain ⟨k1, k2⟩ := k0
  obtain ⟨p1, p2⟩ := p0
  obtain ⟨g1, g2⟩ := g0
  unfold shV
  clear hC hB hk hp hg
  go_enter Tryd.func48, Tryd.ntmps48
  go_wp2_with fail
  rw [← hW]
  clear hW
  refine H1c.out.mono ?_
  rintro e w1 ⟨v1, rfl, ho1, hb1⟩
  have H1 : Hid (Own w1 W.heap.size v1 (numBytes k) ∧ Below W.heap.size W w1) := ⟨ho1, hb1⟩
  obtain ⟨_, hC1, hs1⟩ := HF.out w1 hb1
  have d0 := hC1.cell (i := 0) rfl
  have d1 := hC1.cell (i := 1) rfl
  have d2 := hC1.cell (i := 2) rfl
  have l1 := numBytes_ten HT.out.1
  have l2 := numBytes_ten HT.out.2.1
  have H2c := Lib.hid (refNumber_any W.heap.size v1 _ p w1 HT.out.2.1 H1.out.1 hs1 (by omega))
  have Hl := Lib.hid (And.intro l1 l2)
  clear ho1 hb1 hC1 hs1 c0 c1 c2 l1 l2 H1c
  go_wp2_with fail
  refine H2c.out.mono ?_
  rintro e w2 ⟨v2, rfl, ho2, hb2⟩
  have H2 : Hid (Own w2 W.heap.size v2 (numBytes k ++ numBytes p) ∧ Below W.heap.size W w2) := ⟨ho2, H1.out.2.trans hb2⟩
  clear d0 d1 d2
  obtain ⟨_, hC2, hs2⟩ := HF.out w2 H2.out.2
  have d0 := hC2.cell (i := 0) rfl
  have d1 := hC2.cell (i := 1) rfl
  have d2 := hC2.cell (i := 2) rfl
  have H3c := Lib.hid (refNumber_any W.heap.size v2 _ g w2 HT.out.2.2.1 H2.out.1 hs2 (by rw [List.length_append]; have := Hl.out; omega))
  clear ho2 hb2 hC2 hs2 H2c
  go_wp2_with fail
  refine H3c.out.mono ?_
  rintro e w3 ⟨v3, rfl, ho3, hb3⟩
  have H3 : Hid (Own w3 W.heap.size v3 (headL k p g) ∧ Below W.heap.size W w3) := ⟨ho3, H2.out.2.trans hb3⟩
  obtain ⟨A3, c3, rfl, _⟩ := ho3.rb
  clear ho3 hb3 H3c d0 d1 d2
  generalize (numBytes k ++ numBytes p ++ numBytes g).length = n9 at *
  go_wp2_with fail
  go_ret
  exact ⟨_, rfl, H3.out.1.wide HT.out.2.2.2, (HF.out w3 H3.out.2).1⟩
end
end Go.Proofs.YtlficcdbnmheeaaDoor
