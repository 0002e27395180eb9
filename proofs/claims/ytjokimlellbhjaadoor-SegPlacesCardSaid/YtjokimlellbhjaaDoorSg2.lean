/-
  Room; the second saying's Check, Row, Room.
-/
import Derived.Test.YtjokimlellbhjaaDoorSg1
import Derived.Shelf.SlSortCmp.QuietGrown
namespace Go.Proofs.YtjokimlellbhjaaDoor
open Go.RowKit Go.Sort Go.Lib
section
set_option maxRecDepth 20000
set_option maxHeartbeats 800000
theorem sroom_any (K P G : Int) (hP : -9223372036854775808 ≤ P ∧ P ≤ 9223372036854775807) (w : World) : Calls Tryd.prog 15 #[shV K P G] w fun e w' => e = .returned (.int .i64 (roomS K P G)) ∧ Gr w w' := by
  obtain ⟨W, hW⟩ : ∃ W, W = w.alloc (.cells #[.int .i64 K, .int .i64 P, .int .i64 G] 23) := ⟨_, rfl⟩
  have hG : Gr w W := by rw [hW]; exact Gr.alloc w _
  have hC : Cells W w.heap.size 23 [.int .i64 K, .int .i64 P, .int .i64 G] := by rw [hW]; exact Cells.new w _ _
  have c0 : ∀ n os, (grow (W.drewN n) os).cell? ⟨w.heap.size, 0, none⟩ = some (.int .i64 K) := fun n os => cell_grown (a := ⟨w.heap.size, 0, none⟩) hC.lt (hC.cell rfl) n os
  have c1 : ∀ n os, (grow (W.drewN n) os).cell? ⟨w.heap.size, 1, none⟩ = some (.int .i64 P) := fun n os => cell_grown (a := ⟨w.heap.size, 1, none⟩) hC.lt (hC.cell rfl) n os
  have c2 : ∀ n os, (grow (W.drewN n) os).cell? ⟨w.heap.size, 2, none⟩ = some (.int .i64 G) := fun n os => cell_grown (a := ⟨w.heap.size, 2, none⟩) hC.lt (hC.cell rfl) n os
  have Hr := Lib.hid fun w => row_any K P G w
  have HG : Hid (∀ n os, Gr w (grow (W.drewN n) os)) := fun n os => hG.trans ⟨n, os, rfl⟩
  have hval : IntKind.i64.wrap (rowS K P G * IntKind.i64.wrap (P - 1)) = roomS K P G := by
    unfold roomS
    rcases hok : okS K P G with _ | _
    · rw [rowS_no hok, Int.zero_mul, Int.zero_mul]; rfl
    · have h1 := rowS_bounds hok
      obtain ⟨_, _, h2, h3, _⟩ := okS_facts hok
      rw [show IntKind.i64.wrap (P - 1) = P - 1 from by rw [IntKind.wrap_i64]; omega]
      generalize rowS K P G = R at *
      obtain ⟨r, rfl⟩ : ∃ r : Nat, R = (r : Int) := ⟨R.toNat, by omega⟩
      obtain ⟨p, hp⟩ : ∃ p : Nat, P - 1 = (p : Int) := ⟨(P - 1).toNat, by omega⟩
      rw [hp]
      have h6 : r * p ≤ 2097120 * 4095 := Nat.mul_le_mul (by omega) (by omega)
      have h7 : ((r : Int) * (p : Int)) = ((r * p : Nat) : Int) := by simp
      rw [h7, IntKind.wrap_i64]
      omega
  unfold shV at Hr ⊢
  generalize rowS K P G = R at *
  generalize roomS K P G = RR at *
  clear hG hC
  go_enter Tryd.func15, Tryd.ntmps15
  go_wp2_with fail
  rw [← hW]
  clear hW
  refine wp_region_quiet_grown (by kernel_rfl) (by kernel_rfl) ?_
  try simp only [List.append]
  repeat (go_big_quiet_step (first | (go_at_call 13; refine Calls.grown_of (Hr.out _))))
  refine wpQuiet_nil ?_
  intro _ hw'
  obtain ⟨⟨nq, osq⟩, hw''⟩ := hw'
  subst hw''
  go_wp2_with fail
  go_ret
  exact ⟨by simp only [IntWalk.i64_left] at hval; simpa using hval, HG.out _ _⟩
theorem rcheck_any (K P G : Int) (w : World) : Calls Tryd.prog 12 #[shV K P G] w fun e w' => e = .returned (.int .i64 (chkS K P G)) ∧ w' = w.alloc (.cells #[.int .i64 K, .int .i64 P, .int .i64 G] 28) := by
  unfold shV
  by_cases h1 : K < 1
  · rw [chkS_no (decide_eq_false (by omega))]
    go_enter Tryd.func12, Tryd.ntmps12
    go_wp2_with fail
    go_ret
    exact ⟨rfl, rfl⟩
  by_cases h2 : 32 < K
  · rw [chkS_no (decide_eq_false (by omega))]
    go_enter Tryd.func12, Tryd.ntmps12
    go_wp2_with fail
    go_ret
    exact ⟨rfl, rfl⟩
  by_cases h3 : P < 2
  · rw [chkS_no (decide_eq_false (by omega))]
    go_enter Tryd.func12, Tryd.ntmps12
    go_wp2_with fail
    go_ret
    exact ⟨rfl, rfl⟩
  by_cases h4 : 4096 < P
  · rw [chkS_no (decide_eq_false (by omega))]
    go_enter Tryd.func12, Tryd.ntmps12
    go_wp2_with fail
    go_ret
    exact ⟨rfl, rfl⟩
  have Hr := Lib.hid fun w => refRoom_any G w
  by_cases h5 : roomOf G = 0
  · rw [chkS_no (decide_eq_false fun q => q.2.2.2.2 h5)]
    rw [h5] at Hr
    clear h5
    go_enter Tryd.func12, Tryd.ntmps12
    go_wp2_with fail
    refine (Hr.out _).mono ?_
    rintro e w1 ⟨rfl, rfl⟩
    go_wp2_with fail
    go_ret
    exact ⟨rfl, rfl⟩
  · rw [chkS_ok (decide_eq_true ⟨by omega, by omega, by omega, by omega, h5⟩)]
    generalize roomOf G = C at *
    go_enter Tryd.func12, Tryd.ntmps12
    go_wp2_with fail
    refine (Hr.out _).mono ?_
    rintro e w1 ⟨rfl, rfl⟩
    go_wp2_with fail
    go_ret
    exact ⟨rfl, rfl⟩
theorem rrow_any (K P G : Int) (w : World) : Calls Tryd.prog 14 #[shV K P G] w fun e w' => e = .returned (.int .i64 (rowS K P G)) ∧ Gr w w' := by
  have Hc := Lib.hid fun w => rcheck_any K P G w
  unfold shV at Hc ⊢
  rcases hok : okS K P G with _ | _
  · rw [chkS_no hok] at Hc
    rw [rowS_no hok]
    clear hok
    go_enter Tryd.func14, Tryd.ntmps14
    go_wp2_with fail
    refine (Hc.out _).mono ?_
    rintro e w1 ⟨rfl, rfl⟩
    go_wp2_with fail
    go_ret
    exact ⟨rfl, (Gr.alloc w _).trans (Gr.alloc _ _)⟩
  · rw [chkS_ok hok] at Hc
    rw [rowS_ok hok]
    obtain ⟨k1, k2, _, _, k3, k4, _⟩ := okS_facts hok
    have hrb := rowS_bounds hok
    rw [rowS_ok hok] at hrb
    have Hr := Lib.hid fun w => refRoom_any G w
    generalize roomOf G = C at *
    have hw : IntKind.i64.wrap (K * C) = K * C := by rw [IntKind.wrap_i64]; omega
    clear hok
    go_enter Tryd.func14, Tryd.ntmps14
    go_wp2_with fail
    refine (Hc.out _).mono ?_
    rintro e w1 ⟨rfl, hw1⟩
    obtain ⟨W, hW⟩ : ∃ W, W = w1 := ⟨_, rfl⟩
    have hG : Gr w W := by rw [hW, hw1]; exact (Gr.alloc w _).trans (Gr.alloc _ _)
    have hC : Cells W w.heap.size 28 [.int .i64 K, .int .i64 P, .int .i64 G] := by rw [hW, hw1]; exact (Cells.new w _ _).alloc _
    rw [← hW]
    clear hW hw1
    have d0 : ∀ q, (W.drewN q).cell? ⟨w.heap.size, 0, none⟩ = some (.int .i64 K) := fun q => hC.cell rfl
    have d2 : ∀ q, (W.drewN q).cell? ⟨w.heap.size, 2, none⟩ = some (.int .i64 G) := fun q => hC.cell rfl
    have HG : Hid (∀ q, Gr w (W.drewN q)) := fun q => hG.trans (Gr.drewN _ _)
    clear hG hC
    go_wp2_with fail
    go_quiet ((go_at_call 37; exact Calls.quiet_of_same ((Hr.out _).mono (fun e w' h => ⟨h.1, h.2.symm⟩))))
    go_wp2_with fail
    go_ret
    exact ⟨by simp [hw], HG.out _⟩
theorem rsroom_any (K P G : Int) (hP : -9223372036854775808 ≤ P ∧ P ≤ 9223372036854775807) (w : World) : Calls Tryd.prog 16 #[shV K P G] w fun e w' => e = .returned (.int .i64 (roomS K P G)) ∧ Gr w w' := by
  obtain ⟨W, hW⟩ : ∃ W, W = w.alloc (.cells #[.int .i64 K, .int .i64 P, .int .i64 G] 28) := ⟨_, rfl⟩
  have hG : Gr w W := by rw [hW]; exact Gr.alloc w _
  have hC : Cells W w.heap.size 28 [.int .i64 K, .int .i64 P, .int .i64 G] := by rw [hW]; exact Cells.new w _ _
  have c0 : ∀ n os, (grow (W.drewN n) os).cell? ⟨w.heap.size, 0, none⟩ = some (.int .i64 K) := fun n os => cell_grown (a := ⟨w.heap.size, 0, none⟩) hC.lt (hC.cell rfl) n os
  have c1 : ∀ n os, (grow (W.drewN n) os).cell? ⟨w.heap.size, 1, none⟩ = some (.int .i64 P) := fun n os => cell_grown (a := ⟨w.heap.size, 1, none⟩) hC.lt (hC.cell rfl) n os
  have c2 : ∀ n os, (grow (W.drewN n) os).cell? ⟨w.heap.size, 2, none⟩ = some (.int .i64 G) := fun n os => cell_grown (a := ⟨w.heap.size, 2, none⟩) hC.lt (hC.cell rfl) n os
  have Hr := Lib.hid fun w => rrow_any K P G w
  have HG : Hid (∀ n os, Gr w (grow (W.drewN n) os)) := fun n os => hG.trans ⟨n, os, rfl⟩
  have hval : IntKind.i64.wrap (rowS K P G * IntKind.i64.wrap (P - 1)) = roomS K P G := by
    unfold roomS
    rcases hok : okS K P G with _ | _
    · rw [rowS_no hok, Int.zero_mul, Int.zero_mul]; rfl
    · have h1 := rowS_bounds hok
      obtain ⟨_, _, h2, h3, _⟩ := okS_facts hok
      rw [show IntKind.i64.wrap (P - 1) = P - 1 from by rw [IntKind.wrap_i64]; omega]
      generalize rowS K P G = R at *
      obtain ⟨r, rfl⟩ : ∃ r : Nat, R = (r : Int) := ⟨R.toNat, by omega⟩
      obtain ⟨p, hp⟩ : ∃ p : Nat, P - 1 = (p : Int) := ⟨(P - 1).toNat, by omega⟩
      rw [hp]
      have h6 : r * p ≤ 2097120 * 4095 := Nat.mul_le_mul (by omega) (by omega)
      have h7 : ((r : Int) * (p : Int)) = ((r * p : Nat) : Int) := by simp
      rw [h7, IntKind.wrap_i64]
      omega
  unfold shV at Hr ⊢
  generalize rowS K P G = R at *
  generalize roomS K P G = RR at *
  clear hG hC
  go_enter Tryd.func16, Tryd.ntmps16
  go_wp2_with fail
  rw [← hW]
  clear hW
  refine wp_region_quiet_grown (by kernel_rfl) (by kernel_rfl) ?_
  try simp only [List.append]
  repeat (go_big_quiet_step (first | (go_at_call 14; refine Calls.grown_of (Hr.out _))))
  refine wpQuiet_nil ?_
  intro _ hw'
  obtain ⟨⟨nq, osq⟩, hw''⟩ := hw'
  subst hw''
  go_wp2_with fail
  go_ret
  exact ⟨by simp only [IntWalk.i64_left] at hval; simpa using hval, HG.out _ _⟩
end
end Go.Proofs.YtjokimlellbhjaaDoor
