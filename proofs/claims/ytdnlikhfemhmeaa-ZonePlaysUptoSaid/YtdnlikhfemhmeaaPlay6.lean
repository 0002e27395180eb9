/-
  Each act on both sides.
-/
import Derived.Test.YtdnlikhfemhmeaaPlay5
namespace Go.Proofs.Ytdnlikhfemhmeaa
open Go.RowKit

set_option maxRecDepth 20000 in
set_option maxHeartbeats 2000000 in
theorem step1 {M : Nat → Prop} {w0 w : World} {g pw qw bd be cd ce n : Nat} {dl el : List Nat} {x : PAct} {A1 A2 : Option Addr} {c1 c2 : Nat} (h : Ready M w0 g pw qw bd be cd ce dl el n x A1 c1 A2 c2 w) (hop : x.op = 1) :
    Calls Try.prog 12 #[.pointer (some ⟨g, 0, none⟩), actV x A1 c1 A2 c2] w fun e w' => e = .returned (.bool true) ∧ Play M w0 pw qw dl el (n + 1) w' := by
  have hbd := h.boxed rfl
  have hn := h.num
  have hN0 := h.rig.pos
  have hN4 := h.rig.few
  have hcc : c2 ≤ 9223372036854775807 := Nat.le_trans h.capC (by decide)
  have hpc := h.picksC
  have hpl := h.picksL
  have hbm := h.bytesM
  have hpm := h.picksM
  have hnu := h.hiN
  obtain ⟨op, dr, z, k, m, bs, ps⟩ := x
  obtain rfl : op = 1 := hop
  unfold actV
  unfold Boxed actCells at hbd
  obtain ⟨w1, hw1⟩ : ∃ w1, w1 = w.alloc (.cells (actCells ⟨1, dr, z, k, m, bs, ps⟩ A1 c1 A2 c2) 48) := ⟨_, rfl⟩
  unfold actCells at hw1
  rw [← hw1] at hbd
  obtain ⟨b0, b1, b2, b3, b4, b5, b6, g0, g1, g2, g3, hj⟩ := hbd
  obtain ⟨j, hjN, hpick⟩ := pick_of dr hN0
  obtain ⟨d, e, P, ds, es, D, hd, he, Hst⟩ := hj j hjN
  have Ha : Hid (∀ q, Calls Try.prog 16 #[.pointer (some ⟨d, 0, none⟩), .int .i64 z, .slice A1 bs.length c1] (w1.drewN q) fun v w' => v = .returned (.int .i64 (appCode P D z bs : Nat)) ∧ (Rig (fun b => M b ∨ b = w.heap.size) w1 pw qw (appP P D z bs) (appD P ds j d D z bs) P es w' ∧ (w'.cell? ⟨w.heap.size, 2, none⟩ = some (.int .i64 z) ∧ w'.cell? ⟨w.heap.size, 5, none⟩ = some (.slice A1 bs.length c1)))) := by
    obtain ⟨s1, s2, s3, s4, s5, s6, s7, s8, s9, s10, s11, s12, s13⟩ := Hst.out
    have hM2 : ∀ {A : Option Addr}, (∀ ad, A = some ad → M ad.block) → ∀ ad, A = some ad → (M ad.block ∨ ad.block = w.heap.size) := fun hh ad e => .inl (hh ad e)
    refine fun q => ((s1.drewN q).prog fun O q1 q2 => ?_).mono fun v w' ⟨q1, q2⟩ => ⟨q1, q2, ?_⟩
    · exact append_any pw j d P ds D O z A1 c1 bs _ q1 s8 (by omega) (by omega) s7 ((s1.drewN q).bytes s12 fun hne => hM2 (hbm hne)) (fun hne ad e => q2 _ (hM2 (hbm hne) ad e))
    · exact ⟨q2.cell (.inr rfl) b2, q2.cell (.inr rfl) b5⟩
  have Hb : Hid (∀ w2, Rig (fun b => M b ∨ b = w.heap.size) w1 pw qw (appP P D z bs) (appD P ds j d D z bs) P es w2 → Calls Try.prog 26 #[.pointer (some ⟨e, 0, none⟩), .int .i64 z, .slice A1 bs.length c1] w2 fun v w' => v = .returned (.int .i64 (appCode P D z bs : Nat)) ∧ Play M w0 pw qw dl el (n + 1) w' ∧ (w'.cell? ⟨w.heap.size, 2, none⟩ = some (.int .i64 z) ∧ w'.cell? ⟨w.heap.size, 5, none⟩ = some (.slice A1 bs.length c1))) := by
    intro w2 hr
    obtain ⟨s1, s2, s3, s4, s5, s6, s7, s8, s9, s10, s11, s12, s13⟩ := Hst.out
    refine (hr.ref (R' := appP P D z bs) fun O q1 q2 => rappend_any qw j e P es D O z A1 c1 bs w2 q1 s9 (by omega) (by omega) s7 (hr.bytes s12 fun hne ad e => .inl (hbm hne ad e)) (fun hne ad e => q2 _ (.inl (hbm hne ad e)))).mono fun v w' ⟨q1, q2⟩ => ⟨q1, ⟨_, _, _, s2 _ _ _ _ q2, ?_, ?_, ?_, ?_, ?_⟩, ⟨q2.cell (.inr rfl) b2, q2.cell (.inr rfl) b5⟩⟩
    · exact dat_app s3 P z bs
    · exact (fst_app s8 P z bs).trans s4
    · exact (fst_app s9 P z bs).trans s5
    · have := (writes_app P D z bs).1; omega
    · have := (writes_app P D z bs).2; omega
  generalize appCode P D z bs = code at Ha Hb
  generalize appP P D z bs = P2 at Ha Hb
  generalize appD P ds j d D z bs = ds2 at Ha Hb
  clear Hst hj h hbm hpm
  have hN0' : (1 : Int) ≤ (dl.length : Int) := by omega
  have hN4' : (dl.length : Int) ≤ 4 := by omega
  have hjN' : (j : Int) < (dl.length : Int) := by omega
  generalize dl.length = N at *
  go_enter Try.func12, Try.ntmps12
  go_upto_region 1 with fail
  rw [← hw1]
  generalize w.heap.size = bx at *
  clear hw1
  rcases hpick with ⟨hp0, hp1⟩ | ⟨hp0, hp1⟩
  all_goals
    go_wp2_with fail
    go_quiet (fail)
    go_wp2_with fail
    go_region_held3 (fun W => W.cell? ⟨bx, 2, none⟩ = some (.int .i64 z) ∧ W.cell? ⟨bx, 5, none⟩ = some (.slice A1 bs.length c1))
      (first | exact ⟨l0, l1⟩ | exact ⟨k0, k1⟩ | exact ⟨b2, b5⟩)
      (first | (go_at_call 16; refine (Ha.out _).mono ?_; rintro v w2 ⟨rfl, hr2, k0, k1⟩; have Hb2 := Lib.hid (Hb.out w2 hr2); clear hr2) | (go_at_call 26; refine Hb2.out.mono ?_; rintro v w3 ⟨rfl, hr3, l0, l1⟩; have Hr3 := Lib.hid hr3; clear hr3))
    all_goals
      go_wp2_with fail
      go_ret
      exact ⟨rfl, Hr3.out⟩

set_option maxRecDepth 20000 in
set_option maxHeartbeats 2000000 in
theorem step2 {M : Nat → Prop} {w0 w : World} {g pw qw bd be cd ce n : Nat} {dl el : List Nat} {x : PAct} {A1 A2 : Option Addr} {c1 c2 : Nat} (h : Ready M w0 g pw qw bd be cd ce dl el n x A1 c1 A2 c2 w) (hop : x.op = 2) :
    Calls Try.prog 12 #[.pointer (some ⟨g, 0, none⟩), actV x A1 c1 A2 c2] w fun e w' => e = .returned (.bool true) ∧ Play M w0 pw qw dl el (n + 1) w' := by
  have hbd := h.boxed rfl
  have hn := h.num
  have hN0 := h.rig.pos
  have hN4 := h.rig.few
  have hcc : c2 ≤ 9223372036854775807 := Nat.le_trans h.capC (by decide)
  have hpc := h.picksC
  have hpl := h.picksL
  have hbm := h.bytesM
  have hpm := h.picksM
  have hnu := h.hiN
  obtain ⟨op, dr, z, k, m, bs, ps⟩ := x
  obtain rfl : op = 2 := hop
  unfold actV
  unfold Boxed actCells at hbd
  obtain ⟨w1, hw1⟩ : ∃ w1, w1 = w.alloc (.cells (actCells ⟨2, dr, z, k, m, bs, ps⟩ A1 c1 A2 c2) 48) := ⟨_, rfl⟩
  unfold actCells at hw1
  rw [← hw1] at hbd
  obtain ⟨b0, b1, b2, b3, b4, b5, b6, g0, g1, g2, g3, hj⟩ := hbd
  obtain ⟨j, hjN, hpick⟩ := pick_of dr hN0
  obtain ⟨d, e, P, ds, es, D, hd, he, Hst⟩ := hj j hjN
  have Ha : Hid (∀ q, Calls Try.prog 27 #[.pointer (some ⟨d, 0, none⟩), .int .i64 z] (w1.drewN q) fun v w' => v = .returned (.int .i64 (rsCode P D z : Nat)) ∧ (Rig (fun b => M b ∨ b = w.heap.size) w1 pw qw (rsP P D z) (rsD P ds j d D z) P es w' ∧ (w'.cell? ⟨w.heap.size, 2, none⟩ = some (.int .i64 z)))) := by
    obtain ⟨s1, s2, s3, s4, s5, s6, s7, s8, s9, s10, s11, s12, s13⟩ := Hst.out
    have hM2 : ∀ {A : Option Addr}, (∀ ad, A = some ad → M ad.block) → ∀ ad, A = some ad → (M ad.block ∨ ad.block = w.heap.size) := fun hh ad e => .inl (hh ad e)
    refine fun q => ((s1.drewN q).prog fun O q1 q2 => ?_).mono fun v w' ⟨q1, q2⟩ => ⟨q1, q2, ?_⟩
    · exact reset_any pw j d P ds D O z _ q1 s8 (by omega) (by omega) s7
    · exact q2.cell (.inr rfl) b2
  have Hb : Hid (∀ w2, Rig (fun b => M b ∨ b = w.heap.size) w1 pw qw (rsP P D z) (rsD P ds j d D z) P es w2 → Calls Try.prog 28 #[.pointer (some ⟨e, 0, none⟩), .int .i64 z] w2 fun v w' => v = .returned (.int .i64 (rsCode P D z : Nat)) ∧ Play M w0 pw qw dl el (n + 1) w' ∧ (w'.cell? ⟨w.heap.size, 2, none⟩ = some (.int .i64 z))) := by
    intro w2 hr
    obtain ⟨s1, s2, s3, s4, s5, s6, s7, s8, s9, s10, s11, s12, s13⟩ := Hst.out
    refine (hr.ref (R' := rsP P D z) fun O q1 q2 => rreset_any qw j e P es D O z w2 q1 s9 (by omega) (by omega) s7).mono fun v w' ⟨q1, q2⟩ => ⟨q1, ⟨_, _, _, s2 _ _ _ _ q2, ?_, ?_, ?_, ?_, ?_⟩, q2.cell (.inr rfl) b2⟩
    · exact dat_rs s3 P z
    · exact (fst_rs s8 P z).trans s4
    · exact (fst_rs s9 P z).trans s5
    · have := (writes_rs P D z).1; omega
    · have := (writes_rs P D z).2; omega
  generalize rsCode P D z = code at Ha Hb
  generalize rsP P D z = P2 at Ha Hb
  generalize rsD P ds j d D z = ds2 at Ha Hb
  clear Hst hj h hbm hpm
  have hN0' : (1 : Int) ≤ (dl.length : Int) := by omega
  have hN4' : (dl.length : Int) ≤ 4 := by omega
  have hjN' : (j : Int) < (dl.length : Int) := by omega
  generalize dl.length = N at *
  go_enter Try.func12, Try.ntmps12
  go_upto_region 1 with fail
  rw [← hw1]
  generalize w.heap.size = bx at *
  clear hw1
  rcases hpick with ⟨hp0, hp1⟩ | ⟨hp0, hp1⟩
  all_goals
    go_wp2_with fail
    go_quiet (fail)
    go_wp2_with fail
    go_region_held3 (fun W => W.cell? ⟨bx, 2, none⟩ = some (.int .i64 z))
      (first | exact l0 | exact k0 | exact b2)
      (first | (go_at_call 27; refine (Ha.out _).mono ?_; rintro v w2 ⟨rfl, hr2, k0⟩; have Hb2 := Lib.hid (Hb.out w2 hr2); clear hr2) | (go_at_call 28; refine Hb2.out.mono ?_; rintro v w3 ⟨rfl, hr3, l0⟩; have Hr3 := Lib.hid hr3; clear hr3))
    all_goals
      go_wp2_with fail
      go_ret
      exact ⟨rfl, Hr3.out⟩

set_option maxRecDepth 20000 in
set_option maxHeartbeats 2000000 in
theorem step3 {M : Nat → Prop} {w0 w : World} {g pw qw bd be cd ce n : Nat} {dl el : List Nat} {x : PAct} {A1 A2 : Option Addr} {c1 c2 : Nat} (h : Ready M w0 g pw qw bd be cd ce dl el n x A1 c1 A2 c2 w) (hop : x.op = 3) :
    Calls Try.prog 12 #[.pointer (some ⟨g, 0, none⟩), actV x A1 c1 A2 c2] w fun e w' => e = .returned (.bool true) ∧ Play M w0 pw qw dl el (n + 1) w' := by
  have hbd := h.boxed rfl
  have hn := h.num
  have hN0 := h.rig.pos
  have hN4 := h.rig.few
  have hcc : c2 ≤ 9223372036854775807 := Nat.le_trans h.capC (by decide)
  have hpc := h.picksC
  have hpl := h.picksL
  have hbm := h.bytesM
  have hpm := h.picksM
  have hnu := h.hiN
  obtain ⟨op, dr, z, k, m, bs, ps⟩ := x
  obtain rfl : op = 3 := hop
  unfold actV
  unfold Boxed actCells at hbd
  obtain ⟨w1, hw1⟩ : ∃ w1, w1 = w.alloc (.cells (actCells ⟨3, dr, z, k, m, bs, ps⟩ A1 c1 A2 c2) 48) := ⟨_, rfl⟩
  unfold actCells at hw1
  rw [← hw1] at hbd
  obtain ⟨b0, b1, b2, b3, b4, b5, b6, g0, g1, g2, g3, hj⟩ := hbd
  obtain ⟨j, hjN, hpick⟩ := pick_of dr hN0
  obtain ⟨d, e, P, ds, es, D, hd, he, Hst⟩ := hj j hjN
  have Ha : Hid (∀ q, Calls Try.prog 17 #[.pointer (some ⟨d, 0, none⟩)] (w1.drewN q) fun v w' => v = .returned (.int .i64 (flCode P D : Nat)) ∧ (Rig (fun b => M b ∨ b = w.heap.size) w1 pw qw (flP P D) (flD P ds j d D) P es w' ∧ (True))) := by
    obtain ⟨s1, s2, s3, s4, s5, s6, s7, s8, s9, s10, s11, s12, s13⟩ := Hst.out
    have hM2 : ∀ {A : Option Addr}, (∀ ad, A = some ad → M ad.block) → ∀ ad, A = some ad → (M ad.block ∨ ad.block = w.heap.size) := fun hh ad e => .inl (hh ad e)
    refine fun q => ((s1.drewN q).prog fun O q1 q2 => ?_).mono fun v w' ⟨q1, q2⟩ => ⟨q1, q2, ?_⟩
    · exact driveFlush_any pw j d P ds D O _ q1 s8 (by omega) (by omega) s7
    · exact trivial
  have Hb : Hid (∀ w2, Rig (fun b => M b ∨ b = w.heap.size) w1 pw qw (flP P D) (flD P ds j d D) P es w2 → Calls Try.prog 29 #[.pointer (some ⟨e, 0, none⟩)] w2 fun v w' => v = .returned (.int .i64 (flCode P D : Nat)) ∧ Play M w0 pw qw dl el (n + 1) w' ∧ (True)) := by
    intro w2 hr
    obtain ⟨s1, s2, s3, s4, s5, s6, s7, s8, s9, s10, s11, s12, s13⟩ := Hst.out
    refine (hr.ref (R' := flP P D) fun O q1 q2 => rflush_any qw j e P es D O w2 q1 s9 (by omega) (by omega) s7).mono fun v w' ⟨q1, q2⟩ => ⟨q1, ⟨_, _, _, s2 _ _ _ _ q2, ?_, ?_, ?_, ?_, ?_⟩, trivial⟩
    · exact dat_fl s3 P
    · exact (fst_fl s8 P).trans s4
    · exact (fst_fl s9 P).trans s5
    · have := (writes_fl P D).1; omega
    · have := (writes_fl P D).2; omega
  generalize flCode P D = code at Ha Hb
  generalize flP P D = P2 at Ha Hb
  generalize flD P ds j d D = ds2 at Ha Hb
  clear Hst hj h hbm hpm
  have hN0' : (1 : Int) ≤ (dl.length : Int) := by omega
  have hN4' : (dl.length : Int) ≤ 4 := by omega
  have hjN' : (j : Int) < (dl.length : Int) := by omega
  generalize dl.length = N at *
  go_enter Try.func12, Try.ntmps12
  go_upto_region 1 with fail
  rw [← hw1]
  generalize w.heap.size = bx at *
  clear hw1
  rcases hpick with ⟨hp0, hp1⟩ | ⟨hp0, hp1⟩
  all_goals
    go_wp2_with fail
    go_quiet (fail)
    go_wp2_with (first | (go_at_call 17; refine (Ha.out _).mono ?_; rintro v w2 ⟨rfl, hr2, -⟩; have Hb2 := Lib.hid (Hb.out w2 hr2); clear hr2) | (go_at_call 29; refine Hb2.out.mono ?_; rintro v w3 ⟨rfl, hr3, -⟩; have Hr3 := Lib.hid hr3; clear hr3))
    go_ret
    exact ⟨rfl, Hr3.out⟩

set_option maxRecDepth 20000 in
set_option maxHeartbeats 2000000 in
theorem step7 {M : Nat → Prop} {w0 w : World} {g pw qw bd be cd ce n : Nat} {dl el : List Nat} {x : PAct} {A1 A2 : Option Addr} {c1 c2 : Nat} (h : Ready M w0 g pw qw bd be cd ce dl el n x A1 c1 A2 c2 w) (hop : x.op = 7) :
    Calls Try.prog 12 #[.pointer (some ⟨g, 0, none⟩), actV x A1 c1 A2 c2] w fun e w' => e = .returned (.bool true) ∧ Play M w0 pw qw dl el (n + 1) w' := by
  have hbd := h.boxed rfl
  have hn := h.num
  have hN0 := h.rig.pos
  have hN4 := h.rig.few
  have hcc : c2 ≤ 9223372036854775807 := Nat.le_trans h.capC (by decide)
  have hpc := h.picksC
  have hpl := h.picksL
  have hbm := h.bytesM
  have hpm := h.picksM
  have hnu := h.hiN
  obtain ⟨op, dr, z, k, m, bs, ps⟩ := x
  obtain rfl : op = 7 := hop
  unfold actV
  unfold Boxed actCells at hbd
  obtain ⟨w1, hw1⟩ : ∃ w1, w1 = w.alloc (.cells (actCells ⟨7, dr, z, k, m, bs, ps⟩ A1 c1 A2 c2) 48) := ⟨_, rfl⟩
  unfold actCells at hw1
  rw [← hw1] at hbd
  obtain ⟨b0, b1, b2, b3, b4, b5, b6, g0, g1, g2, g3, hj⟩ := hbd
  obtain ⟨j, hjN, hpick⟩ := pick_of dr hN0
  obtain ⟨d, e, P, ds, es, D, hd, he, Hst⟩ := hj j hjN
  have Ha : Hid (∀ q, Calls Try.prog 31 #[.pointer (some ⟨d, 0, none⟩)] (w1.drewN q) fun v w' => v = .returned (.tuple #[]) ∧ (Rig (fun b => M b ∨ b = w.heap.size) w1 pw qw (P) (ds.set j (d, D.empty true)) P es w' ∧ (True))) := by
    obtain ⟨s1, s2, s3, s4, s5, s6, s7, s8, s9, s10, s11, s12, s13⟩ := Hst.out
    have hM2 : ∀ {A : Option Addr}, (∀ ad, A = some ad → M ad.block) → ∀ ad, A = some ad → (M ad.block ∨ ad.block = w.heap.size) := fun hh ad e => .inl (hh ad e)
    refine fun q => ((s1.drewN q).prog fun O q1 q2 => ?_).mono fun v w' ⟨q1, q2⟩ => ⟨q1, q2, ?_⟩
    · exact (lose_any pw j d P ds D O _ q1 s8).mono fun v w' ⟨r1, r2, r3⟩ => ⟨O, r1, r2, r3⟩
    · exact trivial
  have Hb : Hid (∀ w2, Rig (fun b => M b ∨ b = w.heap.size) w1 pw qw (P) (ds.set j (d, D.empty true)) P es w2 → Calls Try.prog 32 #[.pointer (some ⟨e, 0, none⟩), .bool true] w2 fun v w' => v = .returned (.tuple #[]) ∧ Play M w0 pw qw dl el (n + 1) w' ∧ (True)) := by
    intro w2 hr
    obtain ⟨s1, s2, s3, s4, s5, s6, s7, s8, s9, s10, s11, s12, s13⟩ := Hst.out
    refine (hr.ref (R' := P) fun O q1 q2 => (rclear_any qw j e P es D O true w2 q1 s9).mono fun v w' ⟨r1, r2, r3⟩ => ⟨O, r1, r2, r3⟩).mono fun v w' ⟨q1, q2⟩ => ⟨q1, ⟨_, _, _, s2 _ _ _ _ q2, ?_, ?_, ?_, ?_, ?_⟩, trivial⟩
    · exact dat_sets s3 _
    · exact (fst_set s8 _).trans s4
    · exact (fst_set s9 _).trans s5
    · omega
    · exact s7
  clear Hst hj h hbm hpm
  have hN0' : (1 : Int) ≤ (dl.length : Int) := by omega
  have hN4' : (dl.length : Int) ≤ 4 := by omega
  have hjN' : (j : Int) < (dl.length : Int) := by omega
  generalize dl.length = N at *
  go_enter Try.func12, Try.ntmps12
  go_upto_region 1 with fail
  rw [← hw1]
  generalize w.heap.size = bx at *
  clear hw1
  rcases hpick with ⟨hp0, hp1⟩ | ⟨hp0, hp1⟩
  all_goals
    go_wp2_with fail
    go_quiet (fail)
    go_wp2_with (first | (go_at_call 31; refine (Ha.out _).mono ?_; rintro v w2 ⟨rfl, hr2, -⟩; have Hb2 := Lib.hid (Hb.out w2 hr2); clear hr2) | (go_at_call 32; refine Hb2.out.mono ?_; rintro v w3 ⟨rfl, hr3, -⟩; have Hr3 := Lib.hid hr3; clear hr3))
    go_ret
    exact ⟨rfl, Hr3.out⟩

set_option maxRecDepth 20000 in
set_option maxHeartbeats 2000000 in
theorem step8 {M : Nat → Prop} {w0 w : World} {g pw qw bd be cd ce n : Nat} {dl el : List Nat} {x : PAct} {A1 A2 : Option Addr} {c1 c2 : Nat} (h : Ready M w0 g pw qw bd be cd ce dl el n x A1 c1 A2 c2 w) (hop : x.op = 8) :
    Calls Try.prog 12 #[.pointer (some ⟨g, 0, none⟩), actV x A1 c1 A2 c2] w fun e w' => e = .returned (.bool true) ∧ Play M w0 pw qw dl el (n + 1) w' := by
  have hbd := h.boxed rfl
  have hn := h.num
  have hN0 := h.rig.pos
  have hN4 := h.rig.few
  have hcc : c2 ≤ 9223372036854775807 := Nat.le_trans h.capC (by decide)
  have hpc := h.picksC
  have hpl := h.picksL
  have hbm := h.bytesM
  have hpm := h.picksM
  have hnu := h.hiN
  obtain ⟨op, dr, z, k, m, bs, ps⟩ := x
  obtain rfl : op = 8 := hop
  unfold actV
  unfold Boxed actCells at hbd
  obtain ⟨w1, hw1⟩ : ∃ w1, w1 = w.alloc (.cells (actCells ⟨8, dr, z, k, m, bs, ps⟩ A1 c1 A2 c2) 48) := ⟨_, rfl⟩
  unfold actCells at hw1
  rw [← hw1] at hbd
  obtain ⟨b0, b1, b2, b3, b4, b5, b6, g0, g1, g2, g3, hj⟩ := hbd
  obtain ⟨j, hjN, hpick⟩ := pick_of dr hN0
  obtain ⟨d, e, P, ds, es, D, hd, he, Hst⟩ := hj j hjN
  have Ha : Hid (∀ q, Calls Try.prog 33 #[.pointer (some ⟨d, 0, none⟩)] (w1.drewN q) fun v w' => v = .returned (.tuple #[]) ∧ (Rig (fun b => M b ∨ b = w.heap.size) w1 pw qw (P) (ds.set j (d, D.empty false)) P es w' ∧ (True))) := by
    obtain ⟨s1, s2, s3, s4, s5, s6, s7, s8, s9, s10, s11, s12, s13⟩ := Hst.out
    have hM2 : ∀ {A : Option Addr}, (∀ ad, A = some ad → M ad.block) → ∀ ad, A = some ad → (M ad.block ∨ ad.block = w.heap.size) := fun hh ad e => .inl (hh ad e)
    refine fun q => ((s1.drewN q).prog fun O q1 q2 => ?_).mono fun v w' ⟨q1, q2⟩ => ⟨q1, q2, ?_⟩
    · exact (replace_any pw j d P ds D O _ q1 s8).mono fun v w' ⟨r1, r2, r3⟩ => ⟨O, r1, r2, r3⟩
    · exact trivial
  have Hb : Hid (∀ w2, Rig (fun b => M b ∨ b = w.heap.size) w1 pw qw (P) (ds.set j (d, D.empty false)) P es w2 → Calls Try.prog 32 #[.pointer (some ⟨e, 0, none⟩), .bool false] w2 fun v w' => v = .returned (.tuple #[]) ∧ Play M w0 pw qw dl el (n + 1) w' ∧ (True)) := by
    intro w2 hr
    obtain ⟨s1, s2, s3, s4, s5, s6, s7, s8, s9, s10, s11, s12, s13⟩ := Hst.out
    refine (hr.ref (R' := P) fun O q1 q2 => (rclear_any qw j e P es D O false w2 q1 s9).mono fun v w' ⟨r1, r2, r3⟩ => ⟨O, r1, r2, r3⟩).mono fun v w' ⟨q1, q2⟩ => ⟨q1, ⟨_, _, _, s2 _ _ _ _ q2, ?_, ?_, ?_, ?_, ?_⟩, trivial⟩
    · exact dat_sets s3 _
    · exact (fst_set s8 _).trans s4
    · exact (fst_set s9 _).trans s5
    · omega
    · exact s7
  clear Hst hj h hbm hpm
  have hN0' : (1 : Int) ≤ (dl.length : Int) := by omega
  have hN4' : (dl.length : Int) ≤ 4 := by omega
  have hjN' : (j : Int) < (dl.length : Int) := by omega
  generalize dl.length = N at *
  go_enter Try.func12, Try.ntmps12
  go_upto_region 1 with fail
  rw [← hw1]
  generalize w.heap.size = bx at *
  clear hw1
  rcases hpick with ⟨hp0, hp1⟩ | ⟨hp0, hp1⟩
  all_goals
    go_wp2_with fail
    go_quiet (fail)
    go_wp2_with (first | (go_at_call 33; refine (Ha.out _).mono ?_; rintro v w2 ⟨rfl, hr2, -⟩; have Hb2 := Lib.hid (Hb.out w2 hr2); clear hr2) | (go_at_call 32; refine Hb2.out.mono ?_; rintro v w3 ⟨rfl, hr3, -⟩; have Hr3 := Lib.hid hr3; clear hr3))
    go_ret
    exact ⟨rfl, Hr3.out⟩

set_option maxRecDepth 20000 in
set_option maxHeartbeats 2000000 in
theorem step10 {M : Nat → Prop} {w0 w : World} {g pw qw bd be cd ce n : Nat} {dl el : List Nat} {x : PAct} {A1 A2 : Option Addr} {c1 c2 : Nat} (h : Ready M w0 g pw qw bd be cd ce dl el n x A1 c1 A2 c2 w) (hop : x.op = 10) :
    Calls Try.prog 12 #[.pointer (some ⟨g, 0, none⟩), actV x A1 c1 A2 c2] w fun e w' => e = .returned (.bool true) ∧ Play M w0 pw qw dl el (n + 1) w' := by
  have hbd := h.boxed rfl
  have hn := h.num
  have hN0 := h.rig.pos
  have hN4 := h.rig.few
  have hcc : c2 ≤ 9223372036854775807 := Nat.le_trans h.capC (by decide)
  have hpc := h.picksC
  have hpl := h.picksL
  have hbm := h.bytesM
  have hpm := h.picksM
  have hnu := h.hiN
  obtain ⟨op, dr, z, k, m, bs, ps⟩ := x
  obtain rfl : op = 10 := hop
  unfold actV
  unfold Boxed actCells at hbd
  obtain ⟨w1, hw1⟩ : ∃ w1, w1 = w.alloc (.cells (actCells ⟨10, dr, z, k, m, bs, ps⟩ A1 c1 A2 c2) 48) := ⟨_, rfl⟩
  unfold actCells at hw1
  rw [← hw1] at hbd
  obtain ⟨b0, b1, b2, b3, b4, b5, b6, g0, g1, g2, g3, hj⟩ := hbd
  obtain ⟨j, hjN, hpick⟩ := pick_of dr hN0
  obtain ⟨d, e, P, ds, es, D, hd, he, Hst⟩ := hj j hjN
  have Ha : Hid (∀ q, Calls Try.prog 18 #[.pointer (some ⟨d, 0, none⟩), .slice A2 ps.length c2] (w1.drewN q) fun v w' => v = .returned (.tuple #[]) ∧ (Rig (fun b => M b ∨ b = w.heap.size) w1 pw qw (P) (ds.set j (d, D.cut ps)) P es w' ∧ (w'.cell? ⟨w.heap.size, 6, none⟩ = some (.slice A2 ps.length c2) ∧ True))) := by
    obtain ⟨s1, s2, s3, s4, s5, s6, s7, s8, s9, s10, s11, s12, s13⟩ := Hst.out
    have hM2 : ∀ {A : Option Addr}, (∀ ad, A = some ad → M ad.block) → ∀ ad, A = some ad → (M ad.block ∨ ad.block = w.heap.size) := fun hh ad e => .inl (hh ad e)
    refine fun q => ((s1.drewN q).prog fun O q1 q2 => ?_).mono fun v w' ⟨q1, q2⟩ => ⟨q1, q2, ?_⟩
    · exact cut_sys pw j d P ds D O A2 c2 ps _ q1 s8 ((s1.drewN q).nums s13 fun hne => hM2 (hpm hne)) (fun hne ad e => q2 _ (hM2 (hpm hne) ad e)) hpc hcc
    · exact ⟨q2.cell (.inr rfl) b6, trivial⟩
  have Hb : Hid (∀ w2, Rig (fun b => M b ∨ b = w.heap.size) w1 pw qw (P) (ds.set j (d, D.cut ps)) P es w2 → Calls Try.prog 36 #[.pointer (some ⟨e, 0, none⟩), .slice A2 ps.length c2] w2 fun v w' => v = .returned (.tuple #[]) ∧ Play M w0 pw qw dl el (n + 1) w' ∧ (w'.cell? ⟨w.heap.size, 6, none⟩ = some (.slice A2 ps.length c2) ∧ True)) := by
    intro w2 hr
    obtain ⟨s1, s2, s3, s4, s5, s6, s7, s8, s9, s10, s11, s12, s13⟩ := Hst.out
    refine (hr.ref (R' := P) fun O q1 q2 => rcut_sys qw j e P es D O A2 c2 ps w2 q1 s9 (hr.nums s13 fun hne ad e => .inl (hpm hne ad e)) (fun hne ad e => q2 _ (.inl (hpm hne ad e))) hpc (by simp only at hpl; omega)).mono fun v w' ⟨q1, q2⟩ => ⟨q1, ⟨_, _, _, s2 _ _ _ _ q2, ?_, ?_, ?_, ?_, ?_⟩, ⟨q2.cell (.inr rfl) b6, trivial⟩⟩
    · exact dat_sets s3 _
    · exact (fst_set s8 _).trans s4
    · exact (fst_set s9 _).trans s5
    · omega
    · exact s7
  clear Hst hj h hbm hpm
  have hN0' : (1 : Int) ≤ (dl.length : Int) := by omega
  have hN4' : (dl.length : Int) ≤ 4 := by omega
  have hjN' : (j : Int) < (dl.length : Int) := by omega
  generalize dl.length = N at *
  go_enter Try.func12, Try.ntmps12
  go_upto_region 1 with fail
  rw [← hw1]
  generalize w.heap.size = bx at *
  clear hw1
  rcases hpick with ⟨hp0, hp1⟩ | ⟨hp0, hp1⟩
  all_goals
    go_wp2_with fail
    go_quiet (fail)
    go_wp2_with (first | (go_at_call 18; refine (Ha.out _).mono ?_; rintro v w2 ⟨rfl, hr2, k0⟩; have Hb2 := Lib.hid (Hb.out w2 hr2); clear hr2) | (go_at_call 36; refine Hb2.out.mono ?_; rintro v w3 ⟨rfl, hr3, -⟩; have Hr3 := Lib.hid hr3; clear hr3))
    go_ret
    exact ⟨rfl, Hr3.out⟩

set_option maxRecDepth 20000 in
set_option maxHeartbeats 2000000 in
theorem step9 {M : Nat → Prop} {w0 w : World} {g pw qw bd be cd ce n : Nat} {dl el : List Nat} {x : PAct} {A1 A2 : Option Addr} {c1 c2 : Nat} (h : Ready M w0 g pw qw bd be cd ce dl el n x A1 c1 A2 c2 w) (hop : x.op = 9) :
    Calls Try.prog 12 #[.pointer (some ⟨g, 0, none⟩), actV x A1 c1 A2 c2] w fun e w' => e = .returned (.bool true) ∧ Play M w0 pw qw dl el (n + 1) w' := by
  have hbd := h.boxed rfl
  have hn := h.num
  have hN0 := h.rig.pos
  have hN4 := h.rig.few
  have hcc : c2 ≤ 9223372036854775807 := Nat.le_trans h.capC (by decide)
  have hpc := h.picksC
  have hpl := h.picksL
  have hbm := h.bytesM
  have hpm := h.picksM
  have hnu := h.hiN
  obtain ⟨op, dr, z, k, m, bs, ps⟩ := x
  obtain rfl : op = 9 := hop
  unfold actV
  unfold Boxed actCells at hbd
  obtain ⟨w1, hw1⟩ : ∃ w1, w1 = w.alloc (.cells (actCells ⟨9, dr, z, k, m, bs, ps⟩ A1 c1 A2 c2) 48) := ⟨_, rfl⟩
  unfold actCells at hw1
  rw [← hw1] at hbd
  obtain ⟨b0, b1, b2, b3, b4, b5, b6, g0, g1, g2, g3, hj⟩ := hbd
  obtain ⟨j, hjN, hpick⟩ := pick_of dr hN0
  obtain ⟨d, e, P, ds, es, D, hd, he, Hst⟩ := hj j hjN
  have Ha : Hid (∀ q, Calls Try.prog 34 #[.pointer (some ⟨d, 0, none⟩), .int .i64 z, .int .i64 k, .int .i64 m] (w1.drewN q) fun v w' => v = .returned (.bool (rotOk D z k)) ∧ (Rig (fun b => M b ∨ b = w.heap.size) w1 pw qw (P) (rotD ds j d D z k m) P es w' ∧ (w'.cell? ⟨w.heap.size, 2, none⟩ = some (.int .i64 z) ∧ w'.cell? ⟨w.heap.size, 3, none⟩ = some (.int .i64 k) ∧ w'.cell? ⟨w.heap.size, 4, none⟩ = some (.int .i64 m)))) := by
    obtain ⟨s1, s2, s3, s4, s5, s6, s7, s8, s9, s10, s11, s12, s13⟩ := Hst.out
    have hM2 : ∀ {A : Option Addr}, (∀ ad, A = some ad → M ad.block) → ∀ ad, A = some ad → (M ad.block ∨ ad.block = w.heap.size) := fun hh ad e => .inl (hh ad e)
    refine fun q => ((s1.drewN q).prog fun O q1 q2 => ?_).mono fun v w' ⟨q1, q2⟩ => ⟨q1, q2, ?_⟩
    · exact rot_any pw j d P ds D O z k m _ q1 s8 hnu
    · exact ⟨q2.cell (.inr rfl) b2, q2.cell (.inr rfl) b3, q2.cell (.inr rfl) b4⟩
  have Hb : Hid (∀ w2, Rig (fun b => M b ∨ b = w.heap.size) w1 pw qw (P) (rotD ds j d D z k m) P es w2 → Calls Try.prog 35 #[.pointer (some ⟨e, 0, none⟩), .int .i64 z, .int .i64 k, .int .i64 m] w2 fun v w' => v = .returned (.bool (rotOk D z k)) ∧ Play M w0 pw qw dl el (n + 1) w' ∧ (w'.cell? ⟨w.heap.size, 2, none⟩ = some (.int .i64 z) ∧ w'.cell? ⟨w.heap.size, 3, none⟩ = some (.int .i64 k) ∧ w'.cell? ⟨w.heap.size, 4, none⟩ = some (.int .i64 m))) := by
    intro w2 hr
    obtain ⟨s1, s2, s3, s4, s5, s6, s7, s8, s9, s10, s11, s12, s13⟩ := Hst.out
    refine (hr.ref (R' := P) fun O q1 q2 => rrot_any qw j e P es D O z k m w2 q1 s9 hnu).mono fun v w' ⟨q1, q2⟩ => ⟨q1, ⟨_, _, _, s2 _ _ _ _ q2, ?_, ?_, ?_, ?_, ?_⟩, ⟨q2.cell (.inr rfl) b2, q2.cell (.inr rfl) b3, q2.cell (.inr rfl) b4⟩⟩
    · exact dat_rot s3 z k m
    · exact (fst_rot s8 z k m).trans s4
    · exact (fst_rot s9 z k m).trans s5
    · omega
    · exact s7
  generalize rotOk D z k = ok at Ha Hb
  generalize rotD ds j d D z k m = ds2 at Ha Hb
  clear Hst hj h hbm hpm
  have hN0' : (1 : Int) ≤ (dl.length : Int) := by omega
  have hN4' : (dl.length : Int) ≤ 4 := by omega
  have hjN' : (j : Int) < (dl.length : Int) := by omega
  generalize dl.length = N at *
  go_enter Try.func12, Try.ntmps12
  go_upto_region 1 with fail
  rw [← hw1]
  generalize w.heap.size = bx at *
  clear hw1
  rcases hpick with ⟨hp0, hp1⟩ | ⟨hp0, hp1⟩
  all_goals
    go_wp2_with fail
    go_quiet (fail)
    go_wp2_with fail
    go_region_held3 (fun W => W.cell? ⟨bx, 2, none⟩ = some (.int .i64 z) ∧ W.cell? ⟨bx, 3, none⟩ = some (.int .i64 k) ∧ W.cell? ⟨bx, 4, none⟩ = some (.int .i64 m))
      (first | exact ⟨l0, l1, l2⟩ | exact ⟨k0, k1, k2⟩ | exact ⟨b2, b3, b4⟩)
      (first | (go_at_call 34; refine (Ha.out _).mono ?_; rintro v w2 ⟨rfl, hr2, k0, k1, k2⟩; have Hb2 := Lib.hid (Hb.out w2 hr2); clear hr2) | (go_at_call 35; refine Hb2.out.mono ?_; rintro v w3 ⟨rfl, hr3, l0, l1, l2⟩; have Hr3 := Lib.hid hr3; clear hr3))
    all_goals
      go_wp2_with fail
      go_ret
      exact ⟨rfl, Hr3.out⟩

set_option maxRecDepth 20000 in
set_option maxHeartbeats 2000000 in
theorem stepNo {M : Nat → Prop} {w0 w : World} {g pw qw bd be cd ce n : Nat} {dl el : List Nat} {x : PAct} {A1 A2 : Option Addr} {c1 c2 : Nat} (h : Ready M w0 g pw qw bd be cd ce dl el n x A1 c1 A2 c2 w) (hop : x.op ≠ 1 ∧ x.op ≠ 2 ∧ x.op ≠ 3 ∧ x.op ≠ 5 ∧ x.op ≠ 6 ∧ x.op ≠ 7 ∧ x.op ≠ 8 ∧ x.op ≠ 9 ∧ x.op ≠ 10) :
    Calls Try.prog 12 #[.pointer (some ⟨g, 0, none⟩), actV x A1 c1 A2 c2] w fun e w' => e = .returned (.bool true) ∧ Play M w0 pw qw dl el (n + 1) w' := by
  have hbd := h.boxed rfl
  have hn := h.num
  have hN0 := h.rig.pos
  have hN4 := h.rig.few
  have hcc : c2 ≤ 9223372036854775807 := Nat.le_trans h.capC (by decide)
  have hpc := h.picksC
  have hpl := h.picksL
  have hbm := h.bytesM
  have hpm := h.picksM
  have hnu := h.hiN
  obtain ⟨op, dr, z, k, m, bs, ps⟩ := x
  obtain ⟨o1, o2, o3, o5, o6, o7, o8, o9, o10⟩ := hop
  simp only at o1 o2 o3 o5 o6 o7 o8 o9 o10
  have e1 : (op == 1) = false := beq_eq_false_iff_ne.2 o1
  have e2 : (op == 2) = false := beq_eq_false_iff_ne.2 o2
  have e3 : (op == 3) = false := beq_eq_false_iff_ne.2 o3
  have e5 : (op == 5) = false := beq_eq_false_iff_ne.2 o5
  have e6 : (op == 6) = false := beq_eq_false_iff_ne.2 o6
  have e7 : (op == 7) = false := beq_eq_false_iff_ne.2 o7
  have e8 : (op == 8) = false := beq_eq_false_iff_ne.2 o8
  have e9 : (op == 9) = false := beq_eq_false_iff_ne.2 o9
  have e10 : (op == 10) = false := beq_eq_false_iff_ne.2 o10
  clear o1 o2 o3 o5 o6 o7 o8 o9 o10
  unfold actV
  unfold Boxed actCells at hbd
  obtain ⟨w1, hw1⟩ : ∃ w1, w1 = w.alloc (.cells (actCells ⟨op, dr, z, k, m, bs, ps⟩ A1 c1 A2 c2) 48) := ⟨_, rfl⟩
  unfold actCells at hw1
  rw [← hw1] at hbd
  obtain ⟨b0, b1, b2, b3, b4, b5, b6, g0, g1, g2, g3, hj⟩ := hbd
  obtain ⟨j, hjN, hpick⟩ := pick_of dr hN0
  obtain ⟨d, e, P, ds, es, D, hd, he, Hst⟩ := hj j hjN
  have Hfin : Hid (∀ q, Play M w0 pw qw dl el (n + 1) (w1.drewN q)) := by
    obtain ⟨s1, s2, s3, s4, s5, s6, s7, s8, s9, s10, s11, s12, s13⟩ := Hst.out
    exact fun q => ⟨P, ds, es, s2 _ _ _ _ (s1.drewN q), s3, s4, s5, by omega, s7⟩
  clear Hst hj h hbm hpm
  have hN0' : (1 : Int) ≤ (dl.length : Int) := by omega
  have hN4' : (dl.length : Int) ≤ 4 := by omega
  have hjN' : (j : Int) < (dl.length : Int) := by omega
  generalize dl.length = N at *
  go_enter Try.func12, Try.ntmps12
  go_upto_region 1 with fail
  rw [← hw1]
  generalize w.heap.size = bx at *
  clear hw1
  rcases hpick with ⟨hp0, hp1⟩ | ⟨hp0, hp1⟩
  all_goals
    go_wp2_with fail
    go_quiet (fail)
    go_wp2_with fail
    go_ret
    exact ⟨rfl, Hfin.out _⟩

end Go.Proofs.Ytdnlikhfemhmeaa
