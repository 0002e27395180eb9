/-
  The power armed, and put on, on both sides; any act.
-/
import Derived.Test.YtdnlikhfemhmeaaPlay6
namespace Go.Proofs.Ytdnlikhfemhmeaa
open Go.RowKit

set_option maxRecDepth 20000 in
set_option maxHeartbeats 2000000 in
theorem step5 {M : Nat → Prop} {w0 w : World} {g pw qw bd be cd ce n : Nat} {dl el : List Nat} {x : PAct} {A1 A2 : Option Addr} {c1 c2 : Nat} (h : Ready M w0 g pw qw bd be cd ce dl el n x A1 c1 A2 c2 w) (hop : x.op = 5) :
    Calls Try.prog 12 #[.pointer (some ⟨g, 0, none⟩), actV x A1 c1 A2 c2] w fun e w' => e = .returned (.bool true) ∧ Play M w0 pw qw dl el (n + 1) w' := by
  have hbd := h.boxed rfl
  have hn := h.num
  have hN0 := h.rig.pos
  have hN4 := h.rig.few
  have hcc : c2 ≤ 9223372036854775807 := Nat.le_trans h.capC (by decide)
  have hpc := h.picksC
  have hpl := h.picksL
  have hbm := h.bytesM
  have hpm := h.picksM
  have hnu := h.hiN
  obtain ⟨op, dr, z, k, m, bs, ps⟩ := x
  obtain rfl : op = 5 := hop
  unfold actV
  unfold Boxed actCells at hbd
  obtain ⟨w1, hw1⟩ : ∃ w1, w1 = w.alloc (.cells (actCells ⟨5, dr, z, k, m, bs, ps⟩ A1 c1 A2 c2) 48) := ⟨_, rfl⟩
  unfold actCells at hw1
  rw [← hw1] at hbd
  obtain ⟨b0, b1, b2, b3, b4, b5, b6, g0, g1, g2, g3, hj⟩ := hbd
  obtain ⟨j, hjN, hpick⟩ := pick_of dr hN0
  obtain ⟨d, e, P, ds, es, D, hd, he, Hst⟩ := hj j hjN
  have hmg := h.rig.mg
  have Ha : Hid (∀ q, Calls Try.prog 20 #[.pointer (some ⟨pw, 0, none⟩), .int .i64 m, .slice A2 ps.length c2] (w1.drewN q) fun v w' => v = .returned (.tuple #[]) ∧ (Rig (fun b => M b ∨ b = w.heap.size) w1 pw qw (armP P m ps) ds P es w' ∧ (w'.cell? ⟨g, 0, none⟩ = some (.pointer (some ⟨pw, 0, none⟩)) ∧ w'.cell? ⟨g, 1, none⟩ = some (.pointer (some ⟨qw, 0, none⟩)) ∧ w'.cell? ⟨w.heap.size, 4, none⟩ = some (.int .i64 m) ∧ w'.cell? ⟨w.heap.size, 6, none⟩ = some (.slice A2 ps.length c2)))) := by
    obtain ⟨s1, s2, s3, s4, s5, s6, s7, s8, s9, s10, s11, s12, s13⟩ := Hst.out
    refine fun q => ((s1.drewN q).prog fun O q1 q2 => arm_any pw P ds O m A2 c2 ps _ q1 ((s1.drewN q).nums s13 fun hne ad e => .inl (hpm hne ad e)) hpl).mono fun v w' ⟨q1, q2⟩ => ⟨q1, q2, ?_⟩
    exact ⟨q2.cell (.inl hmg) g0, q2.cell (.inl hmg) g1, q2.cell (.inr rfl) b4, q2.cell (.inr rfl) b6⟩
  have Hb : Hid (∀ w2, Rig (fun b => M b ∨ b = w.heap.size) w1 pw qw (armP P m ps) ds P es w2 → Calls Try.prog 30 #[.pointer (some ⟨qw, 0, none⟩), .int .i64 m, .slice A2 ps.length c2] w2 fun v w' => v = .returned (.tuple #[]) ∧ Play M w0 pw qw dl el (n + 1) w' ∧ (w'.cell? ⟨g, 0, none⟩ = some (.pointer (some ⟨pw, 0, none⟩)) ∧ w'.cell? ⟨g, 1, none⟩ = some (.pointer (some ⟨qw, 0, none⟩)) ∧ w'.cell? ⟨w.heap.size, 4, none⟩ = some (.int .i64 m) ∧ w'.cell? ⟨w.heap.size, 6, none⟩ = some (.slice A2 ps.length c2))) := by
    intro w2 hr
    obtain ⟨s1, s2, s3, s4, s5, s6, s7, s8, s9, s10, s11, s12, s13⟩ := Hst.out
    refine (hr.ref (R' := armP P m ps) fun O q1 q2 => rarm_any qw P es O m A2 c2 ps w2 q1 (hr.nums s13 fun hne ad e => .inl (hpm hne ad e)) (fun hne ad e => q2 _ (.inl (hpm hne ad e))) hpl).mono fun v w' ⟨q1, q2⟩ => ⟨q1, ⟨_, _, _, s2 _ _ _ _ q2, s3, s4, s5, ?_, ?_⟩, q2.cell (.inl hmg) g0, q2.cell (.inl hmg) g1, q2.cell (.inr rfl) b4, q2.cell (.inr rfl) b6⟩
    · show P.writes ≤ n + 1; omega
    · show (max m 1).toNat ≤ _; simp only at hnu; omega

  clear Hst hj h hbm hpm
  have hN0' : (1 : Int) ≤ (dl.length : Int) := by omega
  have hN4' : (dl.length : Int) ≤ 4 := by omega
  have hjN' : (j : Int) < (dl.length : Int) := by omega
  generalize dl.length = N at *
  go_enter Try.func12, Try.ntmps12
  go_upto_region 1 with fail
  rw [← hw1]
  generalize w.heap.size = bx at *
  clear hw1
  rcases hpick with ⟨hp0, hp1⟩ | ⟨hp0, hp1⟩
  all_goals
    go_wp2_with fail
    go_quiet (fail)
    go_wp2_with fail
    go_region_held3 (fun W => W.cell? ⟨g, 0, none⟩ = some (.pointer (some ⟨pw, 0, none⟩)) ∧ W.cell? ⟨g, 1, none⟩ = some (.pointer (some ⟨qw, 0, none⟩)) ∧ W.cell? ⟨bx, 4, none⟩ = some (.int .i64 m) ∧ W.cell? ⟨bx, 6, none⟩ = some (.slice A2 ps.length c2))
      (first | exact ⟨k0, k1, k2, k3⟩ | exact ⟨g0, g1, b4, b6⟩)
      (first | (go_at_call 20; refine (Ha.out _).mono ?_; rintro v w2 ⟨rfl, hr2, k0, k1, k2, k3⟩; have Hb2 := Lib.hid (Hb.out _ (hr2.drewN 1)); clear hr2))
    all_goals
      go_wp2_with fail
      go_region_held3 (fun W => W.cell? ⟨g, 0, none⟩ = some (.pointer (some ⟨pw, 0, none⟩)) ∧ W.cell? ⟨g, 1, none⟩ = some (.pointer (some ⟨qw, 0, none⟩)) ∧ W.cell? ⟨bx, 4, none⟩ = some (.int .i64 m) ∧ W.cell? ⟨bx, 6, none⟩ = some (.slice A2 ps.length c2))
        (first | exact ⟨l0, l1, l2, l3⟩ | exact ⟨k0, k1, k2, k3⟩)
        (first | (go_at_call 30; refine Hb2.out.mono ?_; rintro v w3 ⟨rfl, hr3, l0, l1, l2, l3⟩; have Hr3 := Lib.hid hr3; clear hr3))
      all_goals
        go_wp2_with fail
        go_ret
        exact ⟨rfl, Hr3.out⟩


set_option maxRecDepth 20000 in
set_option maxHeartbeats 2000000 in
theorem step6 {M : Nat → Prop} {w0 w : World} {g pw qw bd be cd ce n : Nat} {dl el : List Nat} {x : PAct} {A1 A2 : Option Addr} {c1 c2 : Nat} (h : Ready M w0 g pw qw bd be cd ce dl el n x A1 c1 A2 c2 w) (hop : x.op = 6) :
    Calls Try.prog 12 #[.pointer (some ⟨g, 0, none⟩), actV x A1 c1 A2 c2] w fun e w' => e = .returned (.bool true) ∧ Play M w0 pw qw dl el (n + 1) w' := by
  have hbd := h.boxed rfl
  have hn := h.num
  have hN0 := h.rig.pos
  have hN4 := h.rig.few
  have hcc : c2 ≤ 9223372036854775807 := Nat.le_trans h.capC (by decide)
  have hpc := h.picksC
  have hpl := h.picksL
  have hbm := h.bytesM
  have hpm := h.picksM
  have hnu := h.hiN
  obtain ⟨op, dr, z, k, m, bs, ps⟩ := x
  obtain rfl : op = 6 := hop
  unfold actV
  unfold Boxed actCells at hbd
  obtain ⟨w1, hw1⟩ : ∃ w1, w1 = w.alloc (.cells (actCells ⟨6, dr, z, k, m, bs, ps⟩ A1 c1 A2 c2) 48) := ⟨_, rfl⟩
  unfold actCells at hw1
  rw [← hw1] at hbd
  obtain ⟨b0, b1, b2, b3, b4, b5, b6, g0, g1, g2, g3, hj⟩ := hbd
  obtain ⟨j, hjN, hpick⟩ := pick_of dr hN0
  obtain ⟨d, e, P, ds, es, D, hd, he, Hst⟩ := hj j hjN
  have hmg := h.rig.mg
  have Ha : Hid (∀ q, Calls Try.prog 22 #[.pointer (some ⟨pw, 0, none⟩)] (w1.drewN q) fun v w' => v = .returned (.tuple #[]) ∧ (w'.cell? ⟨g, 1, none⟩ = some (.pointer (some ⟨qw, 0, none⟩)) ∧ (∃ u, w'.cell? ⟨qw, 0, none⟩ = some u) ∧ w'.frozen? ⟨qw, 0, none⟩ = false ∧ Hid (Play M w0 pw qw dl el (n + 1) (w'.setCell ⟨qw, 0, none⟩ (.bool false))))) := by
    obtain ⟨s1, s2, s3, s4, s5, s6, s7, s8, s9, s10, s11, s12, s13⟩ := Hst.out
    refine fun q => ((s1.drewN q).prog (P' := { P with off := false }) (ds' := ds) fun O q1 q2 => (sysOn q1).mono fun v w' ⟨r1, r2, r3⟩ => ⟨O, r1, r2, r3⟩).mono fun v w' ⟨q1, q2⟩ => ⟨q1, q2.cell (.inl hmg) g1, ?_⟩
    obtain ⟨O, Q, t1, t2, t3, t4⟩ := q2.st
    obtain ⟨dv, Ap, np, cp, u1, _⟩ := t2.pow
    obtain ⟨v1, v2⟩ := ron_sys t2
    obtain ⟨v3, v4⟩ := v2.other t3.symm t1.fresh
    exact ⟨⟨_, u1.cell rfl⟩, u1.frozen 0, _, ds, es, s2 _ _ _ _ ⟨⟨O, Q, t1.kept v3, v1, t3, t4⟩, q2.low, q2.kept.trans (v2.1.mono fun b _ hb => (t4 b hb).2)⟩, s3, s4, s5, by show P.writes ≤ n + 1; omega, s7⟩

  clear Hst hj h hbm hpm
  have hN0' : (1 : Int) ≤ (dl.length : Int) := by omega
  have hN4' : (dl.length : Int) ≤ 4 := by omega
  have hjN' : (j : Int) < (dl.length : Int) := by omega
  generalize dl.length = N at *
  go_enter Try.func12, Try.ntmps12
  go_upto_region 1 with fail
  rw [← hw1]
  generalize w.heap.size = bx at *
  clear hw1
  rcases hpick with ⟨hp0, hp1⟩ | ⟨hp0, hp1⟩
  all_goals
    go_wp2_with fail
    go_quiet (fail)
    go_wp2_with (go_at_call 22; refine (Ha.out _).mono ?_; rintro v w2 ⟨rfl, k1, ⟨u2, k2⟩, k3, Hr3⟩)
    go_ret
    exact ⟨rfl, Hr3.out⟩


/-- any act: it answers alike, and both hold the same -/
theorem step_any {M : Nat → Prop} {w0 w : World} {g pw qw bd be cd ce n : Nat} {dl el : List Nat} {x : PAct} {A1 A2 : Option Addr} {c1 c2 : Nat} (h : Ready M w0 g pw qw bd be cd ce dl el n x A1 c1 A2 c2 w) :
    Calls Try.prog 12 #[.pointer (some ⟨g, 0, none⟩), actV x A1 c1 A2 c2] w fun e w' => e = .returned (.bool true) ∧ Play M w0 pw qw dl el (n + 1) w' := by
  by_cases h1 : x.op = 1
  · exact step1 h h1
  by_cases h2 : x.op = 2
  · exact step2 h h2
  by_cases h3 : x.op = 3
  · exact step3 h h3
  by_cases h5 : x.op = 5
  · exact step5 h h5
  by_cases h6 : x.op = 6
  · exact step6 h h6
  by_cases h7 : x.op = 7
  · exact step7 h h7
  by_cases h8 : x.op = 8
  · exact step8 h h8
  by_cases h9 : x.op = 9
  · exact step9 h h9
  by_cases h10 : x.op = 10
  · exact step10 h h10
  exact stepNo h ⟨h1, h2, h3, h5, h6, h7, h8, h9, h10⟩
end Go.Proofs.Ytdnlikhfemhmeaa
