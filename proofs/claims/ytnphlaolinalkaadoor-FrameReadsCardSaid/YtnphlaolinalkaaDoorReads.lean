/-
  FrameReads: whatever the bytes and the bound: the call returns true.
-/
import Derived.Test.YtnphlaolinalkaaDoorRefReadPg
import Derived.Test.YtnphlaolinalkaaDoorReadBy
import Derived.Test.YtnphlaolinalkaaDoorKnown
import Derived.Test.YtnphlaolinalkaaDoorSame
import Derived.Test.YtnphlaolinalkaaDoorAppStep
import Derived.Test.YtnphlaolinalkaaDoorPages
namespace Go.Proofs.YtnphlaolinalkaaDoor
open Go.RowKit

set_option maxRecDepth 20000 in
set_option maxHeartbeats 400000 in
theorem head_any (seg row shard sz : Int) (w : World) :
    Calls Tryd.prog 23 #[.agg #[.int .u64 seg, .int .i64 row, .int .i64 shard, .int .i64 sz]] w fun e w' => e = .returned (.agg #[.int .u64 seg, .int .i64 row, .int .i64 shard, .int .i64 sz]) ∧ Below w.heap.size w w' := by
  go_enter Tryd.func23, Tryd.ntmps23
  go_wp2_with fail
  refine bodyPost_ret (v := .agg #[.int .u64 seg, .int .i64 row, .int .i64 shard, .int .i64 sz]) (by simp [results, Tryd.results23, go_sem]) rfl ⟨rfl, ?_⟩
  first
    | exact (((Below.refl _ _).alloc (Nat.le_refl _) _).alloc (by simp) _)
    | (exact (((((((Below.refl _ w).alloc (Nat.le_refl _) _).alloc (by simp) _).setCell (by simp) _).setCell (by simp) _).setCell (by simp) _).setCell (by simp) _))

set_option maxRecDepth 20000 in
set_option maxHeartbeats 4000000 in
theorem reads_any (A : Option Addr) (b : List UInt8) (c : Nat) (most : Int) (w : World) (ht : Tab w) (hr : RB w w.heap.size A b) (hc : b.length ≤ c) (hA : A = none → c = 0) (hm : most ≤ 9223372036854775807) :
    Calls Tryd.prog 4 #[.slice A b.length c, .int .i64 most] w fun e w' => e = .returned (.bool true) ∧ Below w.heap.size w w' := by
  have Hk := Lib.hid (known_any w ht)
  have Ht := Lib.hid ht
  have Hpos := Lib.hid ht.pos
  have Hr := Lib.hid hr
  have HA := Lib.hid hA
  clear ht hr hA
  by_cases hbig : 65536 < b.length
  · have hb : (65536 : Int) < (b.length : Int) := by omega
    clear hbig
    go_enter Tryd.func4, Tryd.ntmps4
    go_wp2_with fail
    refine Hk.out.mono ?_
    rintro e w1 ⟨rfl, hb1⟩
    have Hb1 := Lib.hid hb1
    clear hb1
    go_wp2_with fail
    go_ret
    exact ⟨rfl, Hb1.out⟩
  · have hb : (b.length : Int) ≤ 65536 := by omega
    have hl : b.length ≤ 1099511627776 := by omega
    have Hrn := Lib.hid (fun W h => rn_any A c b W w.heap.size h hl hc HA.out)
    have Hrrn := Lib.hid (fun W h => refRn_any A c b W w.heap.size h hl)
    have Hby := Lib.hid (fun W h => readBy_any A c b most W h hl hc HA.out hm)
    have Hrby := Lib.hid (fun W h => refReadBy_any A c b most W h hl hc HA.out hm)
    have Hrec := Lib.hid (fun W t h => readRec_any A c b W t h hl hc HA.out)
    have Hrrec := Lib.hid (fun W h => refReadRec_any A c b W h hl hc)
    have Hpg := Lib.hid (fun W t h => readPg_any A c b W t h hl hc)
    have Hrpg := Lib.hid (fun W h => refReadPg_any A c b W h hl hc)
    unfold rnVal at Hrn Hrrn
    generalize readNum b = o1 at Hrn Hrrn
    generalize readBy b most = o2 at Hby Hrby
    generalize readRec b = o3 at Hrec Hrrec
    generalize readPg b = o4 at Hpg Hrpg
    obtain ⟨p1, p2, p3⟩ := o1
    obtain ⟨q1, q2, q3⟩ := o2
    obtain ⟨s1, s2, s3, s4⟩ := o3
    obtain ⟨⟨t1, t2, t3, t4⟩, t5, t6⟩ := o4
    dsimp only at Hrn Hrrn Hby Hrby Hrec Hrrec Hpg Hrpg
    clear hbig
    go_enter Tryd.func4, Tryd.ntmps4
    go_wp2_with fail
    refine Hk.out.mono ?_
    rintro e w1 ⟨rfl, hb1⟩
    have Hb1 := Lib.hid hb1
    have Hr1 := Lib.hid (Hr.out.below Hb1.out)
    clear hb1
    go_wp2_with fail
    refine (Hrn.out w1 Hr1.out).mono ?_
    rintro e w' ⟨rfl, rfl⟩
    go_wp2_with fail
    refine (Hrrn.out w1 Hr1.out).mono ?_
    rintro e w' ⟨rfl, rfl⟩
    go_wp2_with fail
    refine (Hby.out w1 (Hr1.out.wide Hb1.out.size)).mono ?_
    rintro e w2 ⟨vx, rfl, hox, hb2⟩
    have Hb2 : Hid (Below w.heap.size w w2) := Hb1.out.trans (hb2.mono Hb1.out.size)
    obtain ⟨X, cx, rfl, _, hrx, _⟩ := hox.rb
    have Hrx := Lib.hid hrx
    clear hb2 hox hrx
    go_wp2_with fail
    refine (Hrby.out w2 ((Hr.out.below Hb2.out).wide Hb2.out.size)).mono ?_
    rintro e w' ⟨vy, rfl, hsy, rfl⟩
    obtain ⟨Y, cy, rfl, hry⟩ := hsy
    have hs := same_any X Y cx cy q1 q1 w2 _ _ Hrx.out hry
    rw [show (q1 == q1) = true from by simp] at hs
    have Hs := Lib.hid hs
    clear hs hry
    go_wp2_with fail
    refine Hs.out.mono ?_
    rintro e w' ⟨rfl, rfl⟩
    clear Hs Hrx
    go_wp2_with fail
    refine (Hrec.out w2 (Ht.out.below Hb2.out Hpos.out) ((Hr.out.below Hb2.out).wide Hb2.out.size)).mono ?_
    rintro e w3 ⟨vx3, rfl, hox, hb3⟩
    have Hb3 : Hid (Below w.heap.size w w3) := Hb2.out.trans (hb3.mono Hb2.out.size)
    obtain ⟨X3, cx3, rfl, _, hrx, _⟩ := hox.rb
    have Hrx := Lib.hid hrx
    clear hb3 hox hrx
    go_wp2_with fail
    refine (Hrrec.out w3 ((Hr.out.below Hb3.out).wide Hb3.out.size)).mono ?_
    rintro e w4 ⟨vy4, rfl, hoy, hb4⟩
    have Hb4 : Hid (Below w.heap.size w w4) := Hb3.out.trans (hb4.mono Hb3.out.size)
    obtain ⟨Y4, cy4, rfl, _, hry, _⟩ := hoy.rb
    have hs := same_any X3 Y4 cx3 cy4 s2 s2 w4 _ _ (Hrx.out.below hb4) hry
    rw [show (s2 == s2) = true from by simp] at hs
    have Hs := Lib.hid hs
    clear hs hry hb4 hoy Hrx
    go_wp2_with fail
    refine Hs.out.mono ?_
    rintro e w' ⟨rfl, rfl⟩
    clear Hs
    go_wp2_with fail
    refine (Hpg.out w4 (Ht.out.below Hb4.out Hpos.out) ((Hr.out.below Hb4.out).wide Hb4.out.size)).mono ?_
    rintro e w5 ⟨vx5, rfl, hox, hb5⟩
    have Hb5 : Hid (Below w.heap.size w w5) := Hb4.out.trans (hb5.mono Hb4.out.size)
    obtain ⟨X5, cx5, rfl, _, hrx, _⟩ := hox.rb
    have Hrx := Lib.hid hrx
    clear hb5 hox hrx
    go_wp2_with fail
    have hh5 : HeadAt (w5.alloc (.cells #[.int .u64 (t1 : Int), .int .i64 (t2 : Int), .int .i64 (t3 : Int), .int .i64 (t4 : Int)] 47)) w5.heap.size t1 t2 t3 t4 := HeadAt.new w5 _ _ _ _ _
    have hb5' : Below w5.heap.size w5 (w5.alloc (.cells #[.int .u64 (t1 : Int), .int .i64 (t2 : Int), .int .i64 (t3 : Int), .int .i64 (t4 : Int)] 47)) := (Below.refl _ _).alloc (Nat.le_refl _) _
    have hsz5 : (w5.alloc (.cells #[.int .u64 (t1 : Int), .int .i64 (t2 : Int), .int .i64 (t3 : Int), .int .i64 (t4 : Int)] 47)).heap.size = w5.heap.size + 1 := by simp
    obtain ⟨g5, hg5⟩ : ∃ g, g = w5.heap.size := ⟨_, rfl⟩
    have Hrx' := Lib.hid (Hrx.out.below hb5')
    generalize w5.alloc (.cells #[.int .u64 (t1 : Int), .int .i64 (t2 : Int), .int .i64 (t3 : Int), .int .i64 (t4 : Int)] 47) = W5 at hh5 hb5' hsz5 Hrx' ⊢
    have Hb5' : Hid (Below w.heap.size w W5) := Hb5.out.trans (hb5'.mono Hb5.out.size)
    have Hh5 := Lib.hid hh5
    have Hsz5 := Lib.hid hsz5
    clear hh5 hb5' hsz5 Hrx hg5
    refine (Hrpg.out W5 ((Hr.out.below Hb5'.out).wide Hb5'.out.size)).mono ?_
    rintro e w6 ⟨vy6, rfl, hoy, hb6⟩
    have Hb6 : Hid (Below w.heap.size w w6) := Hb5'.out.trans (hb6.mono Hb5'.out.size)
    have Hh6 := Lib.hid (Hh5.out.below hb6 (by rw [Hsz5.out]; omega))
    have Hlt6 : Hid (w5.heap.size < w6.heap.size) := by show _ < _; have := hb6.size; have := Hsz5.out; omega
    obtain ⟨Y6, cy6, rfl, _, hry, _⟩ := hoy.rb
    have Hsame : Hid (∀ W, Below w6.heap.size w6 W → Calls Tryd.prog 18 #[.slice X5 t5.length cx5, .slice Y6 t5.length cy6] W fun e w' => e = .returned (.bool true) ∧ W = w') := fun W hW => by
      have := same_any X5 Y6 cx5 cy6 t5 t5 W _ _ (((Hrx'.out.wide (by rw [Hsz5.out]; omega)).below hb6).below (hW.mono hb6.size)) (hry.below hW)
      rw [show (t5 == t5) = true from by simp] at this
      exact this
    clear hb6 hoy hry
    obtain ⟨x0, x1, x2, x3⟩ := Hh6.out
    go_upto_region 19 with fail
    have hh7 : HeadAt (w6.alloc (.cells #[.int .u64 (t1 : Int), .int .i64 (t2 : Int), .int .i64 (t3 : Int), .int .i64 (t4 : Int)] 50)) w6.heap.size t1 t2 t3 t4 := HeadAt.new w6 _ _ _ _ _
    have hb7 : Below w6.heap.size w6 (w6.alloc (.cells #[.int .u64 (t1 : Int), .int .i64 (t2 : Int), .int .i64 (t3 : Int), .int .i64 (t4 : Int)] 50)) := (Below.refl _ _).alloc (Nat.le_refl _) _
    have hsz7 : (w6.alloc (.cells #[.int .u64 (t1 : Int), .int .i64 (t2 : Int), .int .i64 (t3 : Int), .int .i64 (t4 : Int)] 50)).heap.size = w6.heap.size + 1 := by simp
    generalize w6.alloc (.cells #[.int .u64 (t1 : Int), .int .i64 (t2 : Int), .int .i64 (t3 : Int), .int .i64 (t4 : Int)] 50) = W7 at hh7 hb7 hsz7 ⊢
    have Hh7 := Lib.hid hh7
    have Hb7 := Lib.hid hb7
    have Hsz7 := Lib.hid hsz7
    have Hh67 := Lib.hid (Hh6.out.below hb7 Hlt6.out)
    clear x0 x1 x2 x3 hh7 hb7 hsz7
    obtain ⟨x0, x1, x2, x3⟩ := Hh67.out
    obtain ⟨y0, y1, y2, y3⟩ := Hh7.out
    have Hh67d : Hid (HeadAt W7.drew w5.heap.size t1 t2 t3 t4) := ⟨Hh67.out.c0, Hh67.out.c1, Hh67.out.c2, Hh67.out.c3⟩
    have Hend : Hid (Below w.heap.size w W7) := Hb6.out.trans (Hb7.out.mono Hb6.out.size)
    go_region_law (first
      | (go_simp; go_at_call 23; refine (head_any _ _ _ _ _).mono ?_; rintro e W9 ⟨rfl, hb9⟩; have Hb9 := Lib.hid hb9; have hh9 : HeadAt W9 w5.heap.size t1 t2 t3 t4 := Hh67d.out.below hb9 (by show w5.heap.size < W7.heap.size; rw [Hsz7.out]; have := Hlt6.out; omega); obtain ⟨z0, z1, z2, z3⟩ := hh9; clear hb9)
      | (go_simp; go_at_call 18; refine (Hsame.out _ (by exact Hb7.out.drew.trans (Hb9.out.mono (by show w6.heap.size ≤ W7.heap.size; rw [Hsz7.out]; omega)))).mono ?_; rintro e w' ⟨rfl, rfl⟩))
    all_goals
      go_wp2_with fail
      go_ret
      refine ⟨?_, Hend.out.drew.trans (Hb9.out.mono (by show w.heap.size ≤ W7.heap.size; exact Hend.out.size))⟩
      simp [Act.put]
end Go.Proofs.YtnphlaolinalkaaDoor
