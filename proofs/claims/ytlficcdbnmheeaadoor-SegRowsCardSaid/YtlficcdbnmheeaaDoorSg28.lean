/-
  SegRows: the law's walk.
-/
import Derived.Test.YtlficcdbnmheeaaDoorSg27
import Derived.Test.YtlficcdbnmheeaaDoorKSg9
import Derived.Test.YtlficcdbnmheeaaDoorSg18
namespace Go.Proofs.YtlficcdbnmheeaaDoor
open Go.RowKit Go.Sort Go.Lib

section
set_option maxRecDepth 20000
set_option maxHeartbeats 4000000
theorem segrows_any (K P G row a n : Int) (id : Nat) (A : Option Addr) (cp dl : Nat) (d : List UInt8) (hdl : dl = d.length) (hP : -9223372036854775808 ≤ P ∧ P ≤ 9223372036854775807) (hA : -9223372036854775808 ≤ a ∧ a ≤ 9223372036854775807) (hid : id < two64) (w : World) (hT : Tab w) (hr : RB w w.heap.size A d) (hc : d.length ≤ cp) :
    Calls Tryd.prog 3 #[shV K P G, .int .u64 (id : Int), .int .i64 row, .slice A dl cp, .int .i64 a, .int .i64 n] w fun e w' => e = .returned (.bool true) ∧ Below w.heap.size w w' := by
  obtain ⟨W1, hW1⟩ : ∃ W1, W1 = w.alloc (.cells #[.int .i64 K, .int .i64 P, .int .i64 G] 23) := ⟨_, rfl⟩
  have hC1 : Cells W1 w.heap.size 23 [.int .i64 K, .int .i64 P, .int .i64 G] := by rw [hW1]; exact Cells.new w _ _
  have hB1 : Below w.heap.size w W1 := by rw [hW1]; exact (Below.refl _ _).alloc (Nat.le_refl _) _
  have HF : Hid (∀ W, Below W1.heap.size W1 W → Below w.heap.size w W ∧ W.cell? ⟨w.heap.size, 0, none⟩ = some (.int .i64 K) ∧ W.cell? ⟨w.heap.size, 1, none⟩ = some (.int .i64 P) ∧ W.cell? ⟨w.heap.size, 2, none⟩ = some (.int .i64 G)) := fun W hb => by
    have hc := hC1.move (hb.block _ hC1.lt)
    exact ⟨hB1.trans (hb.mono hB1.size), hc.cell rfl, hc.cell rfl, hc.cell rfl⟩
  have HG : Hid (∀ W W', Below W1.heap.size W1 W → Gr W W' → Below W1.heap.size W1 W') := fun W W' hb hg => hb.trans (hg.below.mono hb.size)
  have HT : Hid (∀ W, Below W1.heap.size W1 W → Tab W ∧ RB W W.heap.size A d) := fun W hb => by
    have h := hB1.trans (hb.mono hB1.size)
    exact ⟨hT.below h hT.pos, (hr.below h).wide h.size⟩
  have Hkn := Lib.hid (known_any W1 (hT.below hB1 hT.pos))
  have Hsm := Lib.hid fun W => small_any K P G W
  have Hof := Lib.hid fun W => of_any K P G W
  have Hck : Hid (∀ W, Calls Tryd.prog 12 #[shV K P G] W fun e w' => e = .returned (.int .i64 (chkS K P G)) ∧ Gr W w') := fun W => (check_any K P G W).mono fun e w' ⟨h, q⟩ => ⟨h, by rw [q]; exact Gr.alloc _ _⟩
  have Hrck : Hid (∀ W, Calls Tryd.prog 13 #[shV K P G] W fun e w' => e = .returned (.int .i64 (chkS K P G)) ∧ Gr W w') := fun W => (rcheck_any K P G W).mono fun e w' ⟨h, q⟩ => ⟨h, by rw [q]; exact Gr.alloc _ _⟩
  have Hrw := Lib.hid fun W => row_any K P G W
  have Hrrw := Lib.hid fun W => rrow_any K P G W
  have Hrm := Lib.hid fun W => sroom_any K P G hP W
  have Hrrm := Lib.hid fun W => rsroom_any K P G hP W
  obtain ⟨HM, Hf, hHl, hh1, hh2⟩ := heads_both K P G id hid
  obtain ⟨PM, Pf, hPl, hp1, hp2⟩ := pages_both K P G row id d hid
  obtain ⟨x, y, z, wf, hw1, hw2⟩ := where_both K P G a hP
  obtain ⟨fx, fy, sf, hs1, hs2⟩ := span_both K P G a n hP hA
  have same : ∀ M : Mtx, M.length ≤ 64 → Hid (∀ (W : World) (A A2 : Option Addr) (c c2 : Nat), RM W W.heap.size A M → RM W W.heap.size A2 M → Calls Tryd.prog 20 #[.slice A M.length c, .slice A2 M.length c2] W fun e w' => e = .returned (.bool true) ∧ Gr W w') := fun M hM W A A2 c c2 h1 h2 => by
    refine (spages_any A A2 c c2 M M W W.heap.size h1 h2 (by omega)).mono ?_
    rintro e w' ⟨he, q, rfl⟩
    exact ⟨by rw [he]; simp, Gr.drewN _ _⟩
  have HHs := same HM hHl
  have HPs := same PM hPl
  obtain ⟨hl, hhl⟩ : ∃ hl, hl = HM.length := ⟨_, rfl⟩
  obtain ⟨pl, hpl⟩ : ∃ pl, pl = PM.length := ⟨_, rfl⟩
  rw [← hhl] at hh1 hh2 HHs
  rw [← hpl] at hp1 hp2 HPs
  rw [← hdl] at hp1 hp2 hc
  have HH1 := Lib.hid hh1
  have HH2 := Lib.hid hh2
  have HP1 := Lib.hid hp1
  have HP2 := Lib.hid hp2
  have HW1' := Lib.hid hw1
  have HW2' := Lib.hid hw2
  have HS1 := Lib.hid hs1
  have HS2 := Lib.hid hs2
  have Hdl := Lib.hid hdl
  have Hcp := Lib.hid hc
  have HHl := Lib.hid hHl
  have HPl := Lib.hid hPl
  clear hh1 hh2 hp1 hp2 hw1 hw2 hs1 hs2 hC1 hB1 hT hr hc hid hdl hHl hPl same hhl hpl
  generalize chkS K P G = CK at *
  generalize rowS K P G = RW at *
  generalize roomS K P G = RM9 at *
  generalize smallS K P G = SM at *
  unfold shV at *
  by_cases hlong : 20000 < dl
  · have hlong' : (20000 : Int) < (dl : Int) := by omega
    rcases SM with _ | _
    all_goals
      go_enter Tryd.func3, Tryd.ntmps3
      go_wp2_with fail
      rw [← hW1]
      clear hW1
      refine Hkn.out.mono ?_
      rintro e w2 ⟨rfl, hb2⟩
      have H2 := Lib.hid hb2
      obtain ⟨_, y0, y1, y2⟩ := HF.out w2 hb2
      clear hb2 Hkn
      go_wp2_with fail
      refine (Hsm.out w2).mono ?_
      rintro e w3 ⟨rfl, hg3⟩
      have H3 := Lib.hid (HG.out w2 w3 H2.out hg3)
      clear hg3 y0 y1 y2
      go_wp2_with fail
      go_ret
      exact ⟨rfl, (HF.out w3 H3.out).1⟩
  have hlong' : ¬ (20000 : Int) < (dl : Int) := by omega
  rcases SM with _ | _
  · go_enter Tryd.func3, Tryd.ntmps3
    go_wp2_with fail
    rw [← hW1]
    clear hW1
    refine Hkn.out.mono ?_
    rintro e w2 ⟨rfl, hb2⟩
    have H2 := Lib.hid hb2
    obtain ⟨_, y0, y1, y2⟩ := HF.out w2 hb2
    clear hb2 Hkn
    go_wp2_with fail
    refine (Hsm.out w2).mono ?_
    rintro e w3 ⟨rfl, hg3⟩
    have H3 := Lib.hid (HG.out w2 w3 H2.out hg3)
    clear hg3 y0 y1 y2
    go_wp2_with fail
    go_ret
    exact ⟨rfl, (HF.out w3 H3.out).1⟩
  go_enter Tryd.func3, Tryd.ntmps3
  go_wp2_with fail
  rw [← hW1]
  clear hW1
  refine Hkn.out.mono ?_
  rintro e w2 ⟨rfl, hb2⟩
  have H2 := Lib.hid hb2
  obtain ⟨_, y0, y1, y2⟩ := HF.out w2 hb2
  clear hb2 Hkn
  go_wp2_with fail
  refine (Hsm.out w2).mono ?_
  rintro e w3 ⟨rfl, hg3⟩
  have H3 := Lib.hid (HG.out w2 w3 H2.out hg3)
  clear hg3 y0 y1 y2
  obtain ⟨_, y0, y1, y2⟩ := HF.out w3 H3.out
  go_wp2_with fail
  refine (Hof.out w3).mono ?_
  rintro e w4 ⟨rfl, hg4⟩
  have H4 := Lib.hid (HG.out w3 w4 H3.out hg4)
  clear hg4 y0 y1 y2
  go_wp2_with fail
  obtain ⟨W5, hW5⟩ : ∃ W5, W5 = w4.alloc (.cells #[.int .i64 K, .int .i64 P, .int .i64 G] 28) := ⟨_, rfl⟩
  obtain ⟨b5, hb5⟩ : ∃ b5, b5 = w4.heap.size := ⟨_, rfl⟩
  have hC5 : Cells W5 b5 28 [.int .i64 K, .int .i64 P, .int .i64 G] := by rw [hW5, hb5]; exact Cells.new w4 _ _
  have H5 : Hid (Below W1.heap.size W1 W5) := by show Below _ _ _; rw [hW5]; exact H4.out.alloc H4.out.size _
  have HF5 : Hid (∀ W, Below W5.heap.size W5 W → W.cell? ⟨w.heap.size, 0, none⟩ = some (.int .i64 K) ∧ W.cell? ⟨w.heap.size, 1, none⟩ = some (.int .i64 P) ∧ W.cell? ⟨w.heap.size, 2, none⟩ = some (.int .i64 G) ∧ W.cell? ⟨b5, 0, none⟩ = some (.int .i64 K) ∧ W.cell? ⟨b5, 1, none⟩ = some (.int .i64 P) ∧ W.cell? ⟨b5, 2, none⟩ = some (.int .i64 G) ∧ Below W1.heap.size W1 W) := fun W hb => by
    have hb1 := H5.out.trans (hb.mono H5.out.size)
    have hc := hC5.move (hb.block _ hC5.lt)
    exact ⟨(HF.out W hb1).2.1, (HF.out W hb1).2.2.1, (HF.out W hb1).2.2.2, hc.cell rfl, hc.cell rfl, hc.cell rfl, hb1⟩
  have HG5 : Hid (∀ n os, Below W5.heap.size W5 (grow (W5.drewN n) os)) := fun n os => (show Gr W5 _ from ⟨n, os, rfl⟩).below
  have x0 : ∀ n os, (grow (W5.drewN n) os).cell? ⟨w.heap.size, 0, none⟩ = some (.int .i64 K) := fun n os => (HF5.out _ (HG5.out n os)).1
  have x1 : ∀ n os, (grow (W5.drewN n) os).cell? ⟨w.heap.size, 1, none⟩ = some (.int .i64 P) := fun n os => (HF5.out _ (HG5.out n os)).2.1
  have x2 : ∀ n os, (grow (W5.drewN n) os).cell? ⟨w.heap.size, 2, none⟩ = some (.int .i64 G) := fun n os => (HF5.out _ (HG5.out n os)).2.2.1
  have z0 : ∀ n os, (grow (W5.drewN n) os).cell? ⟨b5, 0, none⟩ = some (.int .i64 K) := fun n os => (HF5.out _ (HG5.out n os)).2.2.2.1
  have z1 : ∀ n os, (grow (W5.drewN n) os).cell? ⟨b5, 1, none⟩ = some (.int .i64 P) := fun n os => (HF5.out _ (HG5.out n os)).2.2.2.2.1
  have z2 : ∀ n os, (grow (W5.drewN n) os).cell? ⟨b5, 2, none⟩ = some (.int .i64 G) := fun n os => (HF5.out _ (HG5.out n os)).2.2.2.2.2.1
  rw [← hW5, ← hb5]
  clear hW5 hb5 hC5
  refine wp_region_quiet_grown (by kernel_rfl) (by kernel_rfl) ?_
  try simp only [List.append]
  repeat (go_big_quiet_step (first
    | (go_at_call 12; refine Calls.grown_of (Hck.out _))
    | (go_at_call 13; refine Calls.grown_of (Hrck.out _))
    | (go_at_call 14; refine Calls.grown_of (Hrw.out _))
    | (go_at_call 15; refine Calls.grown_of (Hrrw.out _))
    | (go_at_call 16; refine Calls.grown_of (Hrm.out _))
    | (go_at_call 17; refine Calls.grown_of (Hrrm.out _))))
  refine wpQuiet_nil ?_
  intro _ hw'
  obtain ⟨⟨nq, osq⟩, hw''⟩ := hw'
  subst hw''
  have H6 := Lib.hid (HG5.out nq osq)
  generalize grow (W5.drewN nq) osq = W6 at *
  clear x0 x1 x2 z0 z1 z2
  obtain ⟨x0, x1, x2, z0, z1, z2, q6⟩ := HF5.out W6 H6.out
  have Hq6 := Lib.hid (HT.out W6 q6).1
  clear q6
  go_wp2_with fail
  refine (HH1.out W6 Hq6.out).mono ?_
  rintro e w7 ⟨A7, c7, rfl, hr7, hb7⟩
  have H7 : Hid (Below W5.heap.size W5 w7) := H6.out.trans (hb7.mono H6.out.size)
  have Hr7 := Lib.hid hr7
  clear hr7 hb7
  clear x0 x1 x2 z0 z1 z2
  obtain ⟨x0, x1, x2, z0, z1, z2, _⟩ := HF5.out w7 H7.out
  go_wp2_with fail
  refine (HH2.out w7).mono ?_
  rintro e w8 ⟨A8, c8, rfl, hr8, hb8⟩
  have H8 : Hid (Below W5.heap.size W5 w8) := H7.out.trans (hb8.mono H7.out.size)
  have Hpg := Lib.hid (HHs.out w8 A7 A8 c7 c8 ((Hr7.out.below hb8).wide hb8.size) hr8)
  clear hr8 hb8 Hr7
  clear x0 x1 x2 z0 z1 z2
  obtain ⟨x0, x1, x2, z0, z1, z2, _⟩ := HF5.out w8 H8.out
  go_wp2_with fail
  refine Hpg.out.mono ?_
  rintro e w9 ⟨rfl, hg9⟩
  have H9 : Hid (Below W5.heap.size W5 w9) := H8.out.trans (hg9.below.mono H8.out.size)
  clear hg9 Hpg
  clear x0 x1 x2 z0 z1 z2
  obtain ⟨x0, x1, x2, z0, z1, z2, _⟩ := HF5.out w9 H9.out
  go_wp2_with fail
  refine (HP1.out w9 A cp (HT.out w9 (HF5.out w9 H9.out).2.2.2.2.2.2).1 (HT.out w9 (HF5.out w9 H9.out).2.2.2.2.2.2).2 Hcp.out).mono ?_
  rintro e w10 ⟨A10, c10, rfl, hr10, hb10⟩
  have H10 : Hid (Below W5.heap.size W5 w10) := H9.out.trans (hb10.mono H9.out.size)
  have Hr10 := Lib.hid hr10
  clear hr10 hb10
  clear x0 x1 x2 z0 z1 z2
  obtain ⟨x0, x1, x2, z0, z1, z2, _⟩ := HF5.out w10 H10.out
  go_wp2_with fail
  refine (HP2.out w10 A cp (HT.out w10 (HF5.out w10 H10.out).2.2.2.2.2.2).2).mono ?_
  rintro e w11 ⟨A11, c11, rfl, hr11, hb11⟩
  have H11 : Hid (Below W5.heap.size W5 w11) := H10.out.trans (hb11.mono H10.out.size)
  have Hpg := Lib.hid (HPs.out w11 A10 A11 c10 c11 ((Hr10.out.below hb11).wide hb11.size) hr11)
  clear hr11 hb11 Hr10
  clear x0 x1 x2 z0 z1 z2
  obtain ⟨x0, x1, x2, z0, z1, z2, _⟩ := HF5.out w11 H11.out
  go_wp2_with fail
  refine Hpg.out.mono ?_
  rintro e w12 ⟨rfl, hg9⟩
  have H12 : Hid (Below W5.heap.size W5 w12) := H11.out.trans (hg9.below.mono H11.out.size)
  clear hg9 Hpg
  clear x0 x1 x2 z0 z1 z2
  obtain ⟨x0, x1, x2, z0, z1, z2, _⟩ := HF5.out w12 H12.out
  go_wp2_with fail
  refine (HW1'.out w12).mono ?_
  rintro e w13 ⟨rfl, hg9⟩
  have H13 : Hid (Below W5.heap.size W5 w13) := H12.out.trans (hg9.below.mono H12.out.size)
  clear hg9
  clear x0 x1 x2 z0 z1 z2
  obtain ⟨x0, x1, x2, z0, z1, z2, _⟩ := HF5.out w13 H13.out
  go_wp2_with fail
  refine (HW2'.out w13).mono ?_
  rintro e w14 ⟨rfl, hg9⟩
  have H14 : Hid (Below W5.heap.size W5 w14) := H13.out.trans (hg9.below.mono H13.out.size)
  clear hg9
  clear x0 x1 x2 z0 z1 z2
  obtain ⟨x0, x1, x2, z0, z1, z2, _⟩ := HF5.out w14 H14.out
  go_wp2_with fail
  refine (HS1.out w14).mono ?_
  rintro e w15 ⟨rfl, hg9⟩
  have H15 : Hid (Below W5.heap.size W5 w15) := H14.out.trans (hg9.below.mono H14.out.size)
  clear hg9
  clear x0 x1 x2 z0 z1 z2
  obtain ⟨x0, x1, x2, z0, z1, z2, _⟩ := HF5.out w15 H15.out
  go_wp2_with fail
  refine (HS2.out w15).mono ?_
  rintro e w16 ⟨rfl, hg9⟩
  have H16 : Hid (Below W5.heap.size W5 w16) := H15.out.trans (hg9.below.mono H15.out.size)
  clear hg9
  clear x0 x1 x2 z0 z1 z2
  obtain ⟨x0, x1, x2, z0, z1, z2, _⟩ := HF5.out w16 H16.out
  go_wp2_with fail
  go_ret
  exact ⟨rfl, (HF.out w16 (HF5.out w16 H16.out).2.2.2.2.2.2).1⟩
end
end Go.Proofs.YtlficcdbnmheeaaDoor
