/-
  Where, Span.
-/
import Derived.Test.YtlficcdbnmheeaaDoorKSg2
import Derived.OwnWalk
namespace Go.Proofs.YtlficcdbnmheeaaDoor
open Go.RowKit Go.Sort Go.Lib

theorem res_four {fn : Func} {t u v x : Tmp} (h : fn.results = #[.tmp t, .tmp u, .tmp v, .tmp x]) (tmps : Array Value) (P : Program) (w : World) :
    (results fn tmps).run P w = .ok (.tuple #[tmps.getD t undef, tmps.getD u undef, tmps.getD v undef, tmps.getD x undef]) w := by
  simp [results, h]
section
set_option maxRecDepth 20000
set_option maxHeartbeats 1600000
theorem where_ok (k c : Nat) (P G : Int) (hok : okS k P G = true) (hcG : roomOf G = (c : Int)) (a : Nat) (ha : (a : Int) < roomS k P G) (w : World) :
    Calls Tryd.prog 23 #[shV k P G, .int .i64 (a : Int)] w fun e w' =>
      e = .returned (.tuple #[.int .i64 ((1 + a / (k * c) : Nat) : Int), .int .i64 ((a % (k * c) / c : Nat) : Int), .int .i64 ((a % c : Nat) : Int), .int .i64 0]) ∧ Gr w w' := by
  obtain ⟨h1, h2, h3, h4, h5, h6, _⟩ := okS_facts hok
  rw [hcG] at h5 h6
  have hrv : rowS k P G = ((k * c : Nat) : Int) := by rw [rowS_ok hok, hcG]; simp
  have hRb : k * c ≤ 32 * 65535 := Nat.mul_le_mul (by omega) (by omega)
  have hR1 : 1 ≤ k * c := Nat.mul_pos (by omega) (by omega)
  have hab : a ≤ 17179869184 := by
    unfold roomS at ha
    rw [hrv] at ha
    obtain ⟨p, hp⟩ : ∃ p : Nat, P - 1 = (p : Int) := ⟨(P - 1).toNat, by omega⟩
    rw [hp] at ha
    have hp2 : (k * c) * p ≤ (32 * 65535) * 4095 := Nat.mul_le_mul hRb (by omega)
    have h11 : ((k * c : Nat) : Int) * (p : Int) = (((k * c) * p : Nat) : Int) := by simp
    rw [h11] at ha
    omega
  obtain ⟨W, hW⟩ : ∃ W, W = w.alloc (.cells #[.int .i64 (k : Int), .int .i64 P, .int .i64 G] 23) := ⟨_, rfl⟩
  have hG : Gr w W := by rw [hW]; exact Gr.alloc w _
  have hC : Cells W w.heap.size 23 [.int .i64 (k : Int), .int .i64 P, .int .i64 G] := by rw [hW]; exact Cells.new w _ _
  have HF : Hid (∀ W2, Gr W W2 → Gr w W2 ∧ Cells W2 w.heap.size 23 [.int .i64 (k : Int), .int .i64 P, .int .i64 G]) := fun W2 hg => ⟨hG.trans hg, hC.move (hg.below.block _ hC.lt)⟩
  have c0 := hC.cell (i := 0) rfl
  have c1 := hC.cell (i := 1) rfl
  have c2 := hC.cell (i := 2) rfl
  have Hck := Lib.hid (check_any (k : Int) P G W)
  rw [chkS_ok hok] at Hck
  have Hrm := Lib.hid fun W => sroom_any (k : Int) P G (by omega) W
  have Hrow := Lib.hid fun W => row_any (k : Int) P G W
  rw [hrv] at Hrow
  have Hfr := Lib.hid fun W => room_any G W
  rw [hcG] at Hfr
  generalize roomS k P G = RR at *
  obtain ⟨R, hR⟩ : ∃ R, R = k * c := ⟨_, rfl⟩
  have hR1' : 1 ≤ R := by omega
  rw [← hR] at Hrow ⊢
  have q1 : Int.tdiv (a : Int) (R : Int) = ((a / R : Nat) : Int) := Int.ofNat_tdiv a R
  have q2 : Int.tmod (a : Int) (R : Int) = ((a % R : Nat) : Int) := Int.ofNat_tmod a R
  have q3 : Int.tdiv ((a % R : Nat) : Int) (c : Int) = ((a % R / c : Nat) : Int) := Int.ofNat_tdiv _ _
  have q4 : Int.tmod (a : Int) (c : Int) = ((a % c : Nat) : Int) := Int.ofNat_tmod _ _
  have a0 : (0 : Int) ≤ (a : Int) := by omega
  have a1 : (a : Int) ≤ 17179869184 := by omega
  have a2 : (1 : Int) ≤ (R : Int) := by omega
  have a3 : (1 : Int) ≤ (c : Int) := by omega
  have a4 : ¬ (R : Int) = 0 := by omega
  have a5 : ¬ (c : Int) = 0 := by omega
  have a6 : a / R ≤ a := Nat.div_le_self _ _
  have a7' : ∀ q : Nat, q ≤ a → IntKind.i64.wrap (1 + (q : Int)) = ((1 + q : Nat) : Int) := fun q hq => by rw [IntKind.wrap_i64]; omega
  have a7 := a7' _ a6
  have w64 : ∀ x : Int, -9223372036854775808 ≤ x → x ≤ 9223372036854775807 → wrap64 x = x := fun x h1 h2 => by
    have : IntKind.i64.wrap x = x := by rw [IntKind.wrap_i64]; omega
    simpa only [IntWalk.i64_left] using this
  have He : Hid (wrap64 (1 + wrap64 ((a : Int) / (R : Int))) = 1 + (a : Int) / (R : Int) ∧ wrap64 (((a : Int) % (R : Int)).tdiv (c : Int)) = (a : Int) % (R : Int) / (c : Int)) := by
    have b0 : ∀ q : Nat, q ≤ a → wrap64 (1 + wrap64 (q : Int)) = 1 + (q : Int) := fun q hq => by rw [w64 (q : Int) (by omega) (by omega), w64 _ (by omega) (by omega)]
    have b2 : ∀ q : Nat, q ≤ a → wrap64 (q : Int) = (q : Int) := fun q hq => w64 _ (by omega) (by omega)
    refine ⟨?_, ?_⟩
    · rw [← Int.natCast_ediv]
      exact b0 _ a6
    · rw [← Int.natCast_emod, q3, b2 _ (Nat.le_trans (Nat.div_le_self _ _) (Nat.mod_le _ _)), Int.natCast_ediv]
  unfold shV at *
  clear hok hcG h1 h2 h3 h4 h5 h6 hrv hRb hab hG hC hR hR1 hR1' a7' w64
  go_enter Tryd.func23, Tryd.ntmps23
  go_wp2_with fail
  rw [← hW]
  clear hW
  refine Hck.out.mono ?_
  rintro e w1 ⟨rfl, hw1⟩
  have H1 : Hid (Gr W w1) := by rw [hw1]; exact Gr.alloc _ _
  obtain ⟨_, hC1⟩ := HF.out w1 H1.out
  have d0 := hC1.cell (i := 0) rfl
  have d1 := hC1.cell (i := 1) rfl
  have d2 := hC1.cell (i := 2) rfl
  clear hw1 hC1 c0 c1 c2 Hck
  go_wp2_with fail
  refine (Hrm.out w1).mono ?_
  rintro e w2 ⟨rfl, hg2⟩
  have H2 := Lib.hid (H1.out.trans hg2)
  obtain ⟨_, hC2⟩ := HF.out w2 H2.out
  have c2 := hC2.cell (i := 2) rfl
  clear hg2 hC2 d0 d1 d2 Hrm
  go_wp2_with fail
  refine (Hfr.out w2).mono ?_
  rintro e w2 ⟨rfl, rfl⟩
  obtain ⟨_, hC2⟩ := HF.out w2 H2.out
  have d0 : ∀ n os, (grow (w2.drewN n) os).cell? ⟨w.heap.size, 0, none⟩ = some (.int .i64 (k : Int)) := fun n os => cell_grown (a := ⟨w.heap.size, 0, none⟩) hC2.lt (hC2.cell rfl) n os
  have d1 : ∀ n os, (grow (w2.drewN n) os).cell? ⟨w.heap.size, 1, none⟩ = some (.int .i64 P) := fun n os => cell_grown (a := ⟨w.heap.size, 1, none⟩) hC2.lt (hC2.cell rfl) n os
  have d2 : ∀ n os, (grow (w2.drewN n) os).cell? ⟨w.heap.size, 2, none⟩ = some (.int .i64 G) := fun n os => cell_grown (a := ⟨w.heap.size, 2, none⟩) hC2.lt (hC2.cell rfl) n os
  have HG : Hid (∀ n os, Gr w (grow (w2.drewN n) os)) := fun n os => (HF.out w2 H2.out).1.trans ⟨n, os, rfl⟩
  clear c2 hC2 Hfr HF H1 H2
  go_wp2_with fail
  refine wp_region_quiet_grown (by kernel_rfl) (by kernel_rfl) ?_
  try simp only [List.append]
  repeat (go_big_quiet_step (first | (go_at_call 14; refine Calls.grown_of (Hrow.out _))))
  refine wpQuiet_nil ?_
  intro _ hw'
  obtain ⟨⟨nq, osq⟩, hw''⟩ := hw'
  subst hw''
  go_wp2_with fail
  refine bodyPost_ret (res_four rfl _ _ _) rfl ?_
  exact ⟨by simpa using He.out, HG.out _ _⟩
theorem span_ok (k c : Nat) (P G : Int) (hok : okS k P G = true) (hcG : roomOf G = (c : Int)) (a n : Nat) (hn : 1 ≤ n) (ha : (a : Int) + (n : Int) ≤ roomS k P G) (w : World) :
    Calls Tryd.prog 25 #[shV k P G, .int .i64 (a : Int), .int .i64 (n : Int)] w fun e w' =>
      e = .returned (.tuple #[.int .i64 ((1 + a / (k * c) : Nat) : Int), .int .i64 ((1 + (a + n - 1) / (k * c) : Nat) : Int), .int .i64 0]) ∧ Gr w w' := by
  obtain ⟨h1, h2, h3, h4, h5, h6, _⟩ := okS_facts hok
  rw [hcG] at h5 h6
  have hrv : rowS k P G = ((k * c : Nat) : Int) := by rw [rowS_ok hok, hcG]; simp
  have hRb : k * c ≤ 32 * 65535 := Nat.mul_le_mul (by omega) (by omega)
  have hR1 : 1 ≤ k * c := Nat.mul_pos (by omega) (by omega)
  have hRR : roomS k P G ≤ 17179869184 := by
    unfold roomS
    rw [hrv]
    obtain ⟨p, hp⟩ : ∃ p : Nat, P - 1 = (p : Int) := ⟨(P - 1).toNat, by omega⟩
    rw [hp]
    have hp2 : (k * c) * p ≤ (32 * 65535) * 4095 := Nat.mul_le_mul hRb (by omega)
    have h11 : ((k * c : Nat) : Int) * (p : Int) = (((k * c) * p : Nat) : Int) := by simp
    rw [h11]
    omega
  obtain ⟨W, hW⟩ : ∃ W, W = w.alloc (.cells #[.int .i64 (k : Int), .int .i64 P, .int .i64 G] 23) := ⟨_, rfl⟩
  have hG : Gr w W := by rw [hW]; exact Gr.alloc w _
  have hC : Cells W w.heap.size 23 [.int .i64 (k : Int), .int .i64 P, .int .i64 G] := by rw [hW]; exact Cells.new w _ _
  have HF : Hid (∀ W2, Gr W W2 → Gr w W2 ∧ Cells W2 w.heap.size 23 [.int .i64 (k : Int), .int .i64 P, .int .i64 G]) := fun W2 hg => ⟨hG.trans hg, hC.move (hg.below.block _ hC.lt)⟩
  have c0 := hC.cell (i := 0) rfl
  have c1 := hC.cell (i := 1) rfl
  have c2 := hC.cell (i := 2) rfl
  have Hck := Lib.hid (check_any (k : Int) P G W)
  rw [chkS_ok hok] at Hck
  have Hrm := Lib.hid fun W => sroom_any (k : Int) P G (by omega) W
  have Hrow := Lib.hid fun W => row_any (k : Int) P G W
  rw [hrv] at Hrow
  generalize roomS k P G = RR at *
  obtain ⟨R, hR⟩ : ∃ R, R = k * c := ⟨_, rfl⟩
  have hR1' : 1 ≤ R := by omega
  rw [← hR] at Hrow ⊢
  have han : a + n ≤ 17179869184 := by omega
  obtain ⟨l, hl⟩ : ∃ l, l = a + n - 1 := ⟨_, rfl⟩
  have hla : l ≤ 17179869184 := by rw [hl]; exact Nat.le_trans (Nat.sub_le _ _) han
  have hlI : (a : Int) + (n : Int) - 1 = (l : Int) := by omega
  rw [← hl]
  have q1 : Int.tdiv (a : Int) (R : Int) = ((a / R : Nat) : Int) := Int.ofNat_tdiv a R
  have a0 : (0 : Int) ≤ (a : Int) := by omega
  have a1 : (a : Int) ≤ 17179869184 := by omega
  have a2 : (1 : Int) ≤ (R : Int) := by omega
  have a3 : (1 : Int) ≤ (n : Int) := by omega
  have a4 : ¬ (R : Int) = 0 := by omega
  have n1 : (n : Int) ≤ 17179869184 := by omega
  have n2 : ¬ (RR - (a : Int) < (n : Int)) := by omega
  have w64 : ∀ x : Int, -9223372036854775808 ≤ x → x ≤ 9223372036854775807 → wrap64 x = x := fun x h1 h2 => by
    have : IntKind.i64.wrap x = x := by rw [IntKind.wrap_i64]; omega
    simpa only [IntWalk.i64_left] using this
  have n3 : wrap64 (RR - (a : Int)) = RR - (a : Int) := w64 _ (by omega) (by omega)
  have l1 : wrap64 (wrap64 ((a : Int) + (n : Int)) - 1) = (l : Int) := by rw [w64 ((a : Int) + (n : Int)) (by omega) (by omega), w64 _ (by omega) (by omega)]; omega
  have l2 : IntKind.i64.wrap (IntKind.i64.wrap ((a : Int) + (n : Int)) - 1) = (l : Int) := by simp only [IntWalk.i64_left]; exact l1
  have q2 : Int.tdiv (l : Int) (R : Int) = ((l / R : Nat) : Int) := Int.ofNat_tdiv l R
  have b0 : ∀ q : Nat, q ≤ 17179869184 → wrap64 (1 + wrap64 (q : Int)) = 1 + (q : Int) := fun q hq => by rw [w64 (q : Int) (by omega) (by omega), w64 _ (by omega) (by omega)]
  have b1 : ∀ q : Nat, q ≤ 17179869184 → wrap64 (1 + (q : Int)) = 1 + (q : Int) := fun q hq => by rw [w64 _ (by omega) (by omega)]
  have He : Hid (wrap64 (1 + wrap64 ((a : Int) / (R : Int))) = 1 + (a : Int) / (R : Int) ∧ wrap64 (1 + wrap64 ((l : Int) / (R : Int))) = 1 + (l : Int) / (R : Int)) := by
    refine ⟨?_, ?_⟩
    · rw [← Int.natCast_ediv]
      exact b0 _ (Nat.le_trans (Nat.div_le_self _ _) (by omega))
    · rw [← Int.natCast_ediv]
      exact b0 _ (Nat.le_trans (Nat.div_le_self _ _) hla)
  unfold shV at *
  clear hok hcG h1 h2 h3 h4 h5 h6 hrv hRb hG hC hR hR1 hR1' w64 b0 b1 hl han hla
  go_enter Tryd.func25, Tryd.ntmps25
  go_wp2_with fail
  rw [← hW]
  clear hW
  refine Hck.out.mono ?_
  rintro e w1 ⟨rfl, hw1⟩
  have H1 : Hid (Gr W w1) := by rw [hw1]; exact Gr.alloc _ _
  obtain ⟨_, hC1⟩ := HF.out w1 H1.out
  have d0 := hC1.cell (i := 0) rfl
  have d1 := hC1.cell (i := 1) rfl
  have d2 := hC1.cell (i := 2) rfl
  clear hw1 hC1 c0 c1 c2 Hck
  go_wp2_with fail
  refine (Hrm.out w1).mono ?_
  rintro e w2 ⟨rfl, hg2⟩
  have H2 := Lib.hid (H1.out.trans hg2)
  obtain ⟨_, hC2⟩ := HF.out w2 H2.out
  clear d0 d1 d2
  have d0 : ∀ n os, (grow (w2.drewN n) os).cell? ⟨w.heap.size, 0, none⟩ = some (.int .i64 (k : Int)) := fun n os => cell_grown (a := ⟨w.heap.size, 0, none⟩) hC2.lt (hC2.cell rfl) n os
  have d1 : ∀ n os, (grow (w2.drewN n) os).cell? ⟨w.heap.size, 1, none⟩ = some (.int .i64 P) := fun n os => cell_grown (a := ⟨w.heap.size, 1, none⟩) hC2.lt (hC2.cell rfl) n os
  have d2 : ∀ n os, (grow (w2.drewN n) os).cell? ⟨w.heap.size, 2, none⟩ = some (.int .i64 G) := fun n os => cell_grown (a := ⟨w.heap.size, 2, none⟩) hC2.lt (hC2.cell rfl) n os
  have HG : Hid (∀ n os, Gr w (grow (w2.drewN n) os)) := fun n os => (HF.out w2 H2.out).1.trans ⟨n, os, rfl⟩
  clear hC2 HF H1 H2 hg2 Hrm
  go_wp2_with fail
  refine wp_region_quiet_grown (by kernel_rfl) (by kernel_rfl) ?_
  try simp only [List.append]
  repeat (go_big_quiet_step (first | (go_at_call 14; refine Calls.grown_of (Hrow.out _))))
  refine wpQuiet_nil ?_
  intro _ hw'
  obtain ⟨⟨nq, osq⟩, hw''⟩ := hw'
  subst hw''
  go_wp2_with fail
  go_ret3
  exact ⟨by simpa using He.out, HG.out _ _⟩
end
end Go.Proofs.YtlficcdbnmheeaaDoor

/-
  Where, Span: the bad answers.
-/
namespace Go.Proofs.YtlficcdbnmheeaaDoor
open Go.RowKit Go.Sort Go.Lib

section
set_option maxRecDepth 20000
set_option maxHeartbeats 1600000
theorem roomS_range (K P G : Int) : okS K P G = true → 0 ≤ roomS K P G ∧ roomS K P G ≤ 17179869184 := fun hok => by
  obtain ⟨h1, h2, h3, h4, _⟩ := okS_facts hok
  have hb := rowS_bounds hok
  unfold roomS
  generalize rowS K P G = R at *
  obtain ⟨r, rfl⟩ : ∃ r : Nat, R = (r : Int) := ⟨R.toNat, by omega⟩
  obtain ⟨p, hp⟩ : ∃ p : Nat, P - 1 = (p : Int) := ⟨(P - 1).toNat, by omega⟩
  rw [hp]
  have h6 : r * p ≤ 2097120 * 4095 := Nat.mul_le_mul (by omega) (by omega)
  have h7 : ((r : Int) * (p : Int)) = ((r * p : Nat) : Int) := by simp
  rw [h7]
  omega
theorem where_bad (K P G : Int) (a : Int) (hP : -9223372036854775808 ≤ P ∧ P ≤ 9223372036854775807) (hb : okS K P G = false ∨ a < 0 ∨ roomS K P G ≤ a) (w : World) :
    Calls Tryd.prog 23 #[shV K P G, .int .i64 a] w fun e w' => e = .returned (.tuple #[.int .i64 0, .int .i64 0, .int .i64 0, .int .i64 1]) ∧ Gr w w' := by
  obtain ⟨W, hW⟩ : ∃ W, W = w.alloc (.cells #[.int .i64 K, .int .i64 P, .int .i64 G] 23) := ⟨_, rfl⟩
  have hG : Gr w W := by rw [hW]; exact Gr.alloc w _
  have hC : Cells W w.heap.size 23 [.int .i64 K, .int .i64 P, .int .i64 G] := by rw [hW]; exact Cells.new w _ _
  have HF : Hid (∀ W2, Gr W W2 → Gr w W2 ∧ Cells W2 w.heap.size 23 [.int .i64 K, .int .i64 P, .int .i64 G]) := fun W2 hg => ⟨hG.trans hg, hC.move (hg.below.block _ hC.lt)⟩
  have c0 := hC.cell (i := 0) rfl
  have c1 := hC.cell (i := 1) rfl
  have c2 := hC.cell (i := 2) rfl
  have Hck := Lib.hid (check_any K P G W)
  have Hrm := Lib.hid fun W => sroom_any K P G hP W
  have hRR := roomS_range K P G
  clear hG hC
  rcases hok : okS K P G with _ | _
  · rw [chkS_no hok] at Hck
    unfold shV at *
    clear hok hb hRR
    go_enter Tryd.func23, Tryd.ntmps23
    go_wp2_with fail
    rw [← hW]
    clear hW
    refine Hck.out.mono ?_
    rintro e w1 ⟨rfl, hw1⟩
    have H1 : Hid (Gr w w1) := (HF.out w1 (by rw [hw1]; exact Gr.alloc _ _)).1
    clear hw1
    go_wp2_with fail
    refine bodyPost_ret (res_four rfl _ _ _) rfl ?_
    exact ⟨rfl, H1.out⟩
  rw [chkS_ok hok] at Hck
  replace hb := hb.resolve_left (by rw [hok]; simp)
  unfold shV at *
  replace hRR := hRR hok
  clear hok
  generalize roomS K P G = RR at *
  by_cases q : a < 0
  · clear hb
    go_enter Tryd.func23, Tryd.ntmps23
    go_wp2_with fail
    rw [← hW]
    clear hW
    refine Hck.out.mono ?_
    rintro e w1 ⟨rfl, hw1⟩
    have H1 : Hid (Gr W w1) := by rw [hw1]; exact Gr.alloc _ _
    obtain ⟨_, hC1⟩ := HF.out w1 H1.out
    have d0 := hC1.cell (i := 0) rfl
    have d1 := hC1.cell (i := 1) rfl
    have d2 := hC1.cell (i := 2) rfl
    clear hw1 hC1 c0 c1 c2 Hck
    go_wp2_with fail
    refine bodyPost_ret (res_four rfl _ _ _) rfl ?_
    exact ⟨rfl, (HF.out w1 H1.out).1⟩
  by_cases q : RR ≤ a
  · clear hb
    go_enter Tryd.func23, Tryd.ntmps23
    go_wp2_with fail
    rw [← hW]
    clear hW
    refine Hck.out.mono ?_
    rintro e w1 ⟨rfl, hw1⟩
    have H1 : Hid (Gr W w1) := by rw [hw1]; exact Gr.alloc _ _
    obtain ⟨_, hC1⟩ := HF.out w1 H1.out
    have d0 := hC1.cell (i := 0) rfl
    have d1 := hC1.cell (i := 1) rfl
    have d2 := hC1.cell (i := 2) rfl
    clear hw1 hC1 c0 c1 c2 Hck
    go_wp2_with fail
    refine (Hrm.out w1).mono ?_
    rintro e w2 ⟨rfl, hg2⟩
    have H2 := Lib.hid (HF.out w2 (H1.out.trans hg2)).1
    clear hg2
    go_wp2_with fail
    refine bodyPost_ret (res_four rfl _ _ _) rfl ?_
    exact ⟨rfl, H2.out⟩
  omega
theorem span_bad (K P G : Int) (a n : Int) (ha : -9223372036854775808 ≤ a ∧ a ≤ 9223372036854775807) (hP : -9223372036854775808 ≤ P ∧ P ≤ 9223372036854775807) (hb : okS K P G = false ∨ n < 1 ∨ a < 0 ∨ roomS K P G - a < n) (w : World) :
    Calls Tryd.prog 25 #[shV K P G, .int .i64 a, .int .i64 n] w fun e w' => e = .returned (.tuple #[.int .i64 0, .int .i64 0, .int .i64 1]) ∧ Gr w w' := by
  obtain ⟨W, hW⟩ : ∃ W, W = w.alloc (.cells #[.int .i64 K, .int .i64 P, .int .i64 G] 23) := ⟨_, rfl⟩
  have hG : Gr w W := by rw [hW]; exact Gr.alloc w _
  have hC : Cells W w.heap.size 23 [.int .i64 K, .int .i64 P, .int .i64 G] := by rw [hW]; exact Cells.new w _ _
  have HF : Hid (∀ W2, Gr W W2 → Gr w W2 ∧ Cells W2 w.heap.size 23 [.int .i64 K, .int .i64 P, .int .i64 G]) := fun W2 hg => ⟨hG.trans hg, hC.move (hg.below.block _ hC.lt)⟩
  have c0 := hC.cell (i := 0) rfl
  have c1 := hC.cell (i := 1) rfl
  have c2 := hC.cell (i := 2) rfl
  have Hck := Lib.hid (check_any K P G W)
  have Hrm := Lib.hid fun W => sroom_any K P G hP W
  have hRR := roomS_range K P G
  clear hG hC
  rcases hok : okS K P G with _ | _
  · rw [chkS_no hok] at Hck
    unfold shV at *
    clear hok hb hRR
    go_enter Tryd.func25, Tryd.ntmps25
    go_wp2_with fail
    rw [← hW]
    clear hW
    refine Hck.out.mono ?_
    rintro e w1 ⟨rfl, hw1⟩
    have H1 : Hid (Gr w w1) := (HF.out w1 (by rw [hw1]; exact Gr.alloc _ _)).1
    clear hw1
    go_wp2_with fail
    go_ret3
    exact ⟨rfl, H1.out⟩
  rw [chkS_ok hok] at Hck
  replace hb := hb.resolve_left (by rw [hok]; simp)
  unfold shV at *
  replace hRR := hRR hok
  clear hok
  generalize roomS K P G = RR at *
  by_cases q : n < 1
  · clear hb
    go_enter Tryd.func25, Tryd.ntmps25
    go_wp2_with fail
    rw [← hW]
    clear hW
    refine Hck.out.mono ?_
    rintro e w1 ⟨rfl, hw1⟩
    have H1 : Hid (Gr W w1) := by rw [hw1]; exact Gr.alloc _ _
    obtain ⟨_, hC1⟩ := HF.out w1 H1.out
    have d0 := hC1.cell (i := 0) rfl
    have d1 := hC1.cell (i := 1) rfl
    have d2 := hC1.cell (i := 2) rfl
    clear hw1 hC1 c0 c1 c2 Hck
    go_wp2_with fail
    go_ret3
    exact ⟨rfl, (HF.out w1 H1.out).1⟩
  by_cases q : a < 0
  · clear hb
    go_enter Tryd.func25, Tryd.ntmps25
    go_wp2_with fail
    rw [← hW]
    clear hW
    refine Hck.out.mono ?_
    rintro e w1 ⟨rfl, hw1⟩
    have H1 : Hid (Gr W w1) := by rw [hw1]; exact Gr.alloc _ _
    obtain ⟨_, hC1⟩ := HF.out w1 H1.out
    have d0 := hC1.cell (i := 0) rfl
    have d1 := hC1.cell (i := 1) rfl
    have d2 := hC1.cell (i := 2) rfl
    clear hw1 hC1 c0 c1 c2 Hck
    go_wp2_with fail
    go_ret3
    exact ⟨rfl, (HF.out w1 H1.out).1⟩
  by_cases q : RR - a < n
  · clear hb
    have n3 : wrap64 (RR - a) = RR - a := by
      have : IntKind.i64.wrap (RR - a) = RR - a := by rw [IntKind.wrap_i64]; omega
      simpa only [IntWalk.i64_left] using this
    go_enter Tryd.func25, Tryd.ntmps25
    go_wp2_with fail
    rw [← hW]
    clear hW
    refine Hck.out.mono ?_
    rintro e w1 ⟨rfl, hw1⟩
    have H1 : Hid (Gr W w1) := by rw [hw1]; exact Gr.alloc _ _
    obtain ⟨_, hC1⟩ := HF.out w1 H1.out
    have d0 := hC1.cell (i := 0) rfl
    have d1 := hC1.cell (i := 1) rfl
    have d2 := hC1.cell (i := 2) rfl
    clear hw1 hC1 c0 c1 c2 Hck
    go_wp2_with fail
    refine (Hrm.out w1).mono ?_
    rintro e w2 ⟨rfl, hg2⟩
    have H2 := Lib.hid (HF.out w2 (H1.out.trans hg2)).1
    clear hg2
    go_wp2_with fail
    go_ret3
    exact ⟨rfl, H2.out⟩
  omega
end
end Go.Proofs.YtlficcdbnmheeaaDoor
