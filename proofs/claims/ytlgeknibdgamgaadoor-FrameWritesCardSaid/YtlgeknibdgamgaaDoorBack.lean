/-
  FrameBack: whatever the number, the bytes, the size, the head: the call returns true.
-/
import Derived.Test.YtlgeknibdgamgaaDoorBackMath
import Derived.Deep.RegionHeld3
import Derived.BigQuiet
import Derived.Test.YtlgeknibdgamgaaDoorKnown
import Derived.Test.YtlgeknibdgamgaaDoorPages
import Derived.Test.YtlgeknibdgamgaaDoorGrows
import Derived.Test.YtlgeknibdgamgaaDoorRecord
namespace Go.Proofs.YtlgeknibdgamgaaDoor
open Go.RowKit

set_option maxRecDepth 200000 in
set_option maxHeartbeats 1000000 in
theorem back_long (v s : Int) (A : Option Addr) (n c : Nat) (seg row shard sz : Int) (A' : Option Addr) (m c' : Nat) (w : World) (ht : Tab w) (h : 65536 < n ∨ 65536 < m) :
    Calls Tryd.prog 6 #[.int .u64 v, .slice A n c, .int .i64 s, .agg #[.int .u64 seg, .int .i64 row, .int .i64 shard, .int .i64 sz], .slice A' m c'] w
      fun e w' => e = .returned (.bool true) ∧ Below w.heap.size w w' := by
  have Ht := Lib.hid ht
  clear ht
  rcases (show 65536 < n ∨ (n ≤ 65536 ∧ 65536 < m) by omega) with h | ⟨h, h'⟩
  all_goals
    go_enter Tryd.func6, Tryd.ntmps6
    go_wp2_with fail
    have hb0 : Below w.heap.size w (w.alloc (.cells #[.int .u64 seg, .int .i64 row, .int .i64 shard, .int .i64 sz] 47)) := (Below.refl _ _).alloc (Nat.le_refl _) _
    generalize w.alloc (.cells #[.int .u64 seg, .int .i64 row, .int .i64 shard, .int .i64 sz] 47) = W0 at hb0 ⊢
    refine (known_any W0 (Ht.out.below hb0 Ht.out.pos)).mono ?_
    rintro e W1 ⟨rfl, hb1⟩
    have Hend : Hid (Below w.heap.size w W1) := hb0.trans (hb1.mono hb0.size)
    clear hb0 hb1
    go_wp2_with fail
    go_ret
    exact ⟨rfl, Hend.out⟩

/-- a head in a box of the call's own, behind a world -/
structure HdAt (w W : World) (seg row shard sz : Int) : Prop where
  g : HeadAt W w.heap.size seg row shard sz
  bel : Below w.heap.size w W
  size : w.heap.size + 1 ≤ W.heap.size
theorem HdAt.below {w W W' : World} {seg row shard sz : Int} (h : HdAt w W seg row shard sz) (hb : Below W.heap.size W W') : HdAt w W' seg row shard sz :=
  ⟨h.g.below hb (by have := h.size; omega), h.bel.trans (hb.mono (by have := h.size; omega)), Nat.le_trans h.size hb.size⟩
theorem HdAt.new (w : World) (seg row shard sz : Int) (t : TypeId) : HdAt w (w.alloc (.cells #[.int .u64 seg, .int .i64 row, .int .i64 shard, .int .i64 sz] t)) seg row shard sz :=
  ⟨HeadAt.new w seg row shard sz t, (Below.refl _ _).alloc (Nat.le_refl _) _, by simp⟩

set_option maxRecDepth 200000 in
set_option maxHeartbeats 20000000 in
theorem back_walk (v : Nat) (s : Int) (A : Option Addr) (x : List UInt8) (c : Nat) (seg : Nat) (row shard sz : Int) (A' : Option Addr) (b : List UInt8) (c' : Nat) (w : World) (ht : Tab w) (hr : RB w w.heap.size A x) (hr' : RB w w.heap.size A' b)
    (hv : v < two64) (hc : x.length ≤ c) (hc' : b.length ≤ c') (hA' : A' = none → c' = 0) (hseg : seg < two64) (hx : x.length ≤ 65536) (hb : b.length ≤ 65536) :
    Calls Tryd.prog 6 #[.int .u64 (v : Int), .slice A x.length c, .int .i64 s, .agg #[.int .u64 (seg : Int), .int .i64 row, .int .i64 shard, .int .i64 sz], .slice A' b.length c'] w
      fun e w' => e = .returned (.bool true) ∧ Below w.heap.size w w' := by
  have Ht := Lib.hid ht
  have Hr := Lib.hid hr
  have Hr' := Lib.hid hr'
  have Hv := Lib.hid hv
  have Hseg := Lib.hid hseg
  have HA' := Lib.hid hA'
  have Hpos := Lib.hid ht.pos
  clear ht hr hr' hv hseg hA'
  go_enter Tryd.func6, Tryd.ntmps6
  go_wp2_with fail
  have hh := HdAt.new w seg row shard sz 47
  generalize w.alloc (.cells #[.int .u64 (seg : Int), .int .i64 row, .int .i64 shard, .int .i64 sz] 47) = W0 at hh ⊢
  refine (known_any W0 (Ht.out.below hh.bel Hpos.out)).mono ?_
  rintro e W1 ⟨rfl, hb1⟩
  have Hh1 := Lib.hid (hh.below hb1)
  clear hh hb1 W0
  have hx' : (x.length : Int) ≤ 65536 := by omega
  have hb' : (b.length : Int) ≤ 65536 := by omega
  go_wp2_with fail
  refine (record_any v A c x W1 (Ht.out.below Hh1.out.bel Hpos.out) ((Hr.out.below Hh1.out.bel).wide Hh1.out.bel.size) Hv.out (by omega)).mono ?_
  rintro e W2 ⟨vr, rfl, hownr, hb2⟩
  have Hh2 := Lib.hid (Hh1.out.below hb2)
  clear hb2 Hh1
  obtain ⟨P, cp, rfl, hcp, hrp, _⟩ := hownr.rb
  have hfo := readRec_forth v x b Hv.out (by omega)
  have hrl : (recBytes v x).length ≤ 65600 := by
    have := numBytes_ten (v := x.length) (by rw [two64_eq]; omega)
    rw [recBytes_length]; omega
  generalize recBytes v x = r at hownr hcp hrp hfo hrl ⊢
  have Hfo := Lib.hid hfo
  have Hrp := Lib.hid hrp
  have Hrb := Lib.hid (Hr'.out.below Hh2.out.bel)
  have Hl1 : Hid (([] : List UInt8).length + r.length ≤ 140737488355327) := by show _ ≤ _; simp; omega
  have Hl2 : Hid (([] ++ r : List UInt8).length + b.length ≤ 140737488355327) := by show _ ≤ _; simp; omega
  have Hsz2 : Hid (w.heap.size ≤ W2.heap.size) := Hh2.out.bel.size
  clear hownr hrp hfo
  go_wp2_with (first
    | (at_builtin; refine app_bytes rfl (.tmp 37) (.tmp 38) rfl W2.heap.size _ [] rfl (Own.made W2 _ (Nat.le_refl _)) _ P r.length cp r rfl rfl (Hrp.out.alloc (Nat.le_refl _) _) Hl1.out (by simp) ?_; intro v1 W3 hown3 hbel3 _)
    | (at_builtin; refine app_bytes rfl (.tmp 39) (.tmp 40) rfl W2.heap.size _ _ rfl hown3 _ A' b.length c' b rfl rfl ((Hrb.out.alloc Hsz2.out _).below (hbel3.mono Hsz2.out)) Hl2.out (Nat.le_trans (by simp) hbel3.size) ?_; intro v2 W4 hown4 hbel4 _))
  have hbel24 : Below W2.heap.size W2 W4 := (((Below.refl _ _).alloc (Nat.le_refl _) _).trans hbel3).trans hbel4
  have Hh4 := Lib.hid (Hh2.out.below hbel24)
  have hown4' : Own W4 W2.heap.size v2 (r ++ b) := hown4
  obtain ⟨P4, c4, rfl, hc4, hr4, hn4⟩ := hown4'.rb
  have Hrp4 := Lib.hid (Hrp.out.below hbel24)
  clear hown3 hown4 hown4' hbel3 hbel4 hbel24 Hh2 Hrp Hrb Hl1 Hl2 Hsz2
  have hcall := readRec_any P4 c4 (r ++ b) W4 (Ht.out.below Hh4.out.bel Hpos.out) hr4 (by rw [List.length_append]; omega) hc4 hn4
  rw [Hfo.out] at hcall
  refine hcall.mono ?_
  clear hcall hc4 hr4 hn4
  rintro e W5 ⟨vy, rfl, howny, hb5⟩
  have Hh5 := Lib.hid (Hh4.out.below hb5)
  obtain ⟨Py, cy, rfl, hcy, hry, _⟩ := howny.rb
  have hs := same_any Py A cy c x x W5 _ _ hry (Hr.out.below Hh5.out.bel)
  rw [show (x == x) = true from by simp] at hs
  have Hs := Lib.hid hs
  have hrl' : (r.length : Int) ≤ 65600 := by omega
  clear hs Hh4 hb5 howny hry Hfo Hrp4
  go_wp2_with fail
  refine Hs.out.mono ?_
  rintro e w' ⟨rfl, rfl⟩
  obtain ⟨q0, q1, q2, q3⟩ := Hh5.out.g
  go_wp2_with fail
  have hpg := page_any s row shard seg sz A c x W5 w.heap.size (Ht.out.below Hh5.out.bel Hpos.out) (Hr.out.below Hh5.out.bel) Hh5.out.bel.size Hseg.out hc
  refine hpg.mono ?_
  clear hpg Hs q0 q1 q2 q3
  rintro e W6 ⟨vp, rfl, hownp, hb6⟩
  have Hh6 := Lib.hid (Hh5.out.below hb6)
  clear hb6 Hh5
  obtain ⟨Pp, cpp, rfl, hcpp, hrpp, hnpp⟩ := hownp.rb
  generalize hpe : pageErr s row shard x.length = er1 at *
  generalize hpo : pageOf s row shard seg x = pg at *
  generalize hpl : pg.length = pl at *
  have Hpe := Lib.hid hpe
  have Hpo := Lib.hid hpo
  have Hpl := Lib.hid hpl
  have Hrpp := Lib.hid hrpp
  clear hownp hrpp hcp hrl hcy hpe hpo hpl
  go_upto_if 74 with fail
  go_cut [] (fun wx => Hid (Below w.heap.size w wx))
  case first =>
    by_cases he : er1 = 0
    · have hz := Hpe.out
      rw [he] at hz
      obtain ⟨e1, e2, e3, e4, e5, e6, e7, e8⟩ := pageErr_none hz
      obtain ⟨n, rfl⟩ := Int.eq_ofNat_of_zero_le (show 0 ≤ s by omega)
      obtain ⟨rn, rfl⟩ := Int.eq_ofNat_of_zero_le e5
      obtain ⟨sd, rfl⟩ := Int.eq_ofNat_of_zero_le e7
      have hb0 : ((er1 : Int) == 0) = true := by simp [he]
      have hof : pg = pageBytes n seg rn sd x := by rw [← Hpo.out]; unfold pageOf; rw [if_pos hz]; rfl
      have hpl : pl = n := by rw [← Hpl.out, hof, pageBytes_length _ _ _ _ _ (by omega)]
      have hfo : readPg pg = ((seg, rn, sd, x.length), x, 0) := by
        rw [hof]
        refine readPg_forth n seg rn sd x (by omega) (by omega) (by omega) ?_ Hseg.out (by omega) (by omega)
        unfold roomOf
        rw [if_neg (by omega)]
        split <;> omega
      have hcall := readPg_any Pp cpp pg W6 (Ht.out.below Hh6.out.bel Hpos.out) Hrpp.out (by rw [Hpl.out, hpl]; omega) (by rw [Hpl.out]; exact hcpp)
      rw [hfo, Hpl.out] at hcall
      subst hpl
      have Hcall := Lib.hid hcall
      clear hcall hfo hcpp hnpp he hof hz e1 e4 e5 e6 e7 e8 Hpe Hpo Hpl
      go_wp2_with fail
      refine Hcall.out.mono ?_
      clear Hcall Hrpp
      rintro e W7 ⟨vz, rfl, hownz, hb7⟩
      have Hh7 := Lib.hid (Hh6.out.below hb7)
      obtain ⟨Pz, cz, rfl, hcz, hrz, _⟩ := hownz.rb
      have Hrz := Lib.hid hrz
      clear hownz hrz hcz hb7 Hh6
      go_upto_region 12 with fail
      have hn : HeadAt (W7.alloc (.cells #[.int .u64 (seg : Int), .int .i64 (rn : Int), .int .i64 (sd : Int), .int .i64 (x.length : Int)] 47)) W7.heap.size seg rn sd x.length := HeadAt.new W7 _ _ _ _ _
      have hb8 : Below W7.heap.size W7 (W7.alloc (.cells #[.int .u64 (seg : Int), .int .i64 (rn : Int), .int .i64 (sd : Int), .int .i64 (x.length : Int)] 47)) := (Below.refl _ _).alloc (Nat.le_refl _) _
      generalize W7.alloc (.cells #[.int .u64 (seg : Int), .int .i64 (rn : Int), .int .i64 (sd : Int), .int .i64 (x.length : Int)] 47) = W8 at hn hb8 ⊢
      have Hh8 := Lib.hid (Hh7.out.below hb8)
      have hs := same_any Pz A cz c x x W8 _ _ (Hrz.out.below hb8) (Hr.out.below Hh8.out.bel)
      rw [show (x == x) = true from by simp] at hs
      have Hs := Lib.hid hs
      obtain ⟨p0, p1, p2, p3⟩ := hn
      obtain ⟨q0, q1, q2, q3⟩ := Hh8.out.g
      clear hs Hrz hb8 Hh7
      go_wp2_with fail
      refine Hs.out.mono ?_
      rintro e w' ⟨rfl, rfl⟩
      go_wp2_with fail
      go_meet
      exact Hh8.out.bel
    · have hb0 : ((er1 : Int) == 0) = false := by simp [he]
      clear he
      go_wp2_with fail
      go_meet
      exact Hh6.out.bel
  case rest =>
    clear Hh6 Hrpp hcpp hnpp Hpe Hpo Hpl
    have hbc := hcut
    go_wp2_with fail
    have hcall := readPg_any A' c' b wc (Ht.out.below hbc.out Hpos.out) ((Hr'.out.below hbc.out).wide hbc.out.size) (by omega) hc'
    have hbk := @readPg_back b
    generalize readPg b = out at hcall hbk
    obtain ⟨⟨sg, rn, sd, sz2⟩, y, er⟩ := out
    dsimp only at hcall hbk
    have Hbk := Lib.hid hbk
    clear hbk
    refine hcall.mono ?_
    clear hcall
    rintro e W8 ⟨vy8, rfl, howny8, hb8⟩
    have Hb8 : Hid (Below w.heap.size w W8) := hbc.out.trans (hb8.mono hbc.out.size)
    obtain ⟨P8, c8, rfl, hc8, hr8, _⟩ := howny8.rb
    have Hr8 := Lib.hid hr8
    clear howny8 hr8 hb8 hbc hcut
    go_upto_if 115 with fail
    have hb8 : Below W8.heap.size W8 (W8.alloc (.cells #[.int .u64 (sg : Int), .int .i64 (rn : Int), .int .i64 (sd : Int), .int .i64 (sz2 : Int)] 47)) := (Below.refl _ _).alloc (Nat.le_refl _) _
    have hn : HeadAt (W8.alloc (.cells #[.int .u64 (sg : Int), .int .i64 (rn : Int), .int .i64 (sd : Int), .int .i64 (sz2 : Int)] 47)) W8.heap.size sg rn sd sz2 := HeadAt.new W8 _ _ _ _ _
    generalize W8.alloc (.cells #[.int .u64 (sg : Int), .int .i64 (rn : Int), .int .i64 (sd : Int), .int .i64 (sz2 : Int)] 47) = W9 at hn hb8 ⊢
    have Hb9 : Hid (Below w.heap.size w W9) := Hb8.out.trans (hb8.mono Hb8.out.size)
    have Hr9 := Lib.hid (Hr8.out.below hb8)
    have Hsz89 : Hid (W8.heap.size ≤ W9.heap.size) := hb8.size
    obtain ⟨p0, p1, p2, p3⟩ := hn
    clear hb8 Hr8 Hb8
    obtain ⟨wp, hwp⟩ : ∃ wp : World, wp = wc := ⟨_, rfl⟩
    clear hwp wc
    go_cut [] (fun wx => Hid (Below w.heap.size w wx))
    case first =>
      by_cases he : er = 0
      · obtain ⟨f1, f2, f3, f4⟩ := Hbk.out he
        have hb0 : ((er : Int) == 0) = true := by simp [he]
        have hpg := page_any (b.length : Int) (rn : Int) (sd : Int) sg (sz2 : Int) P8 c8 y W9 W8.heap.size (Ht.out.below Hb9.out Hpos.out) Hr9.out Hsz89.out f3 hc8
        rw [f1, f2] at hpg
        have Hpg := Lib.hid hpg
        clear hpg f1 f2 f3 f4 he Hbk
        go_wp2_with fail
        refine Hpg.out.mono ?_
        rintro e W10 ⟨vq, rfl, hownq, hb10⟩
        have Hb10 : Hid (Below w.heap.size w W10) := Hb9.out.trans (hb10.mono Hb9.out.size)
        obtain ⟨Pq, cq, rfl, hcq, hrq, _⟩ := hownq.rb
        have hs := same_any Pq A' cq c' b b W10 _ _ hrq (Hr'.out.below Hb10.out)
        rw [show (b == b) = true from by simp] at hs
        have Hs := Lib.hid hs
        clear hs hownq hrq hb10
        go_wp2_with fail
        refine Hs.out.mono ?_
        rintro e w' ⟨rfl, rfl⟩
        go_wp2_with fail
        go_meet
        exact Hb10.out
      · have hb0 : ((er : Int) == 0) = false := by simp [he]
        clear he
        go_wp2_with fail
        go_meet
        exact Hb9.out
    case rest =>
      clear Hbk Hr9 p0 p1 p2 p3 hc8 Hb9 Hsz89
      obtain ⟨wq, hwq⟩ : ∃ wq : World, wq = wc := ⟨_, rfl⟩
      have hbc : Hid (Below w.heap.size w wq) := by rw [hwq]; exact hcut
      obtain rfl : wq = wc := hwq
      clear hcut
      go_wp2_with fail
      have hcall := readRec_any A' c' b wq (Ht.out.below hbc.out Hpos.out) ((Hr'.out.below hbc.out).wide hbc.out.size) (by omega) hc' HA'.out
      have hbk := @readRec_back b
      generalize readRec b = out at hcall hbk
      obtain ⟨v2, y2, n2, e2⟩ := out
      dsimp only at hcall hbk
      have Hbk := Lib.hid hbk
      clear hbk
      refine hcall.mono ?_
      clear hcall
      rintro e W11 ⟨vy2, rfl, howny2, hb11⟩
      have Hb11 : Hid (Below w.heap.size w W11) := hbc.out.trans (hb11.mono hbc.out.size)
      obtain ⟨P2, c2, rfl, hc2, hr2, _⟩ := howny2.rb
      have Hr2 := Lib.hid hr2
      clear howny2 hr2 hb11 hbc
      go_upto_region 20 with fail
      go_cut [150] (fun s wx => s = .bool false ∧ Hid (Below w.heap.size w wx))
      case first =>
        by_cases he : e2 = 0
        · obtain ⟨f1, f2, f3, f4⟩ := Hbk.out he
          have hb0 : ((e2 : Int) == 0) = true := by simp [he]
          have Hf1 := Lib.hid f1
          have Hrec := Lib.hid (record_any v2 P2 c2 y2 W11.drew (Ht.out.below Hb11.out.drew Hpos.out) (Hr2.out.drew) f3 f2)
          have Hrb11 := Lib.hid (Hr'.out.below Hb11.out.drew)
          have Hb11d : Hid (Below w.heap.size w W11.drew) := Hb11.out.drew
          have Hdsz : Hid (w.heap.size ≤ W11.drew.heap.size) := Hb11d.out.size
          have n1 : n2 ≤ c' := by omega
          have n2' : (n2 : Int) ≤ (c' : Int) := by omega
          have Htl : Hid ((b.take n2).length = n2) := by show _ = _; rw [List.length_take]; omega
          clear f1 f2 f3 f4 he Hbk
          go_region_held3 (fun _ => True) (exact trivial) (first
            | (go_at_call 28; refine Hrec.out.mono ?_; rintro e W12 ⟨vr2, rfl, hownr2, hb12⟩; obtain ⟨Pr2, cr2, rfl, hcr2, hrr2, _⟩ := hownr2.rb;
               have hs2 := same_any Pr2 A' cr2 c' _ (b.take n2) W12 _ _ hrr2 ((Hrb11.out.take n2).below (hb12.mono Hdsz.out));
               rw [Hf1.out, Htl.out, show (b.take n2 == b.take n2) = true from by simp] at hs2;
               have Hs2 := Lib.hid hs2;
               have Hb12 : Hid (Below w.heap.size w W12) := Hb11d.out.trans (hb12.mono Hdsz.out);
               rw [Hf1.out, Htl.out];
               clear hs2 hownr2 hrr2 hb12)
            | (go_at_call 18; refine Hs2.out.mono ?_; rintro e w' ⟨rfl, rfl⟩))
          all_goals
            go_wp2_with fail
            go_meet
            exact ⟨rfl, Hb12.out⟩
        · have hb0 : ((e2 : Int) == 0) = false := by simp [he]
          clear he Hbk Hr2
          go_quiet (fail)
          all_goals
            go_wp2_with fail
            go_meet
            exact ⟨rfl, show Below _ _ _ from ⟨Hb11.out.os, Hb11.out.tape, Hb11.out.output, Hb11.out.size, Hb11.out.block⟩⟩
      case rest =>
        obtain ⟨rfl, hbx⟩ := hcut
        clear Hbk Hr2 hc2 Hb11
        obtain ⟨wz, hwz⟩ : ∃ wz : World, wz = wc := ⟨_, rfl⟩
        have hbc : Hid (Below w.heap.size w wz) := by rw [hwz]; exact hbx
        obtain rfl : wz = wc := hwz
        clear hbx
        go_wp2_with fail
        have hrn := rn_any A' c' b wz _ (Hr'.out.below hbc.out) (by omega) hc' HA'.out
        have hok := @readNum_ok b
        have hbk := @readNum_back b
        generalize readNum b = out at hrn hok hbk
        obtain ⟨v3, n3, e3⟩ := out
        dsimp only at hok hbk
        have Hok := Lib.hid hok
        have Hbk := Lib.hid hbk
        unfold rnVal at hrn
        dsimp only at hrn
        refine hrn.mono ?_
        clear hrn hok hbk
        rintro e w' ⟨rfl, rfl⟩
        go_upto_region 23 with fail
        by_cases he : e3 = 0
        · obtain ⟨f1, f2, f3, f4⟩ := Hok.out he
          have f5 := Hbk.out he
          have hb0 : ((e3 : Int) != 0) = false := by simp [he]
          have Hnum := Lib.hid (number_nil v3 wz.drew f4)
          have Hrbz := Lib.hid (Hr'.out.below hbc.out.drew)
          have Hbd : Hid (Below w.heap.size w wz.drew) := hbc.out.drew
          have Hf5 := Lib.hid f5
          have Hnl : Hid ((numBytes v3).length = n3) := by show _ = _; rw [← f5, List.length_take]; omega
          have n1 : n3 ≤ c' := by omega
          have n2' : (n3 : Int) ≤ (c' : Int) := by omega
          clear f1 f2 f3 f4 f5 he Hok Hbk
          go_region_held3 (fun _ => True) (exact trivial) (first
            | (go_at_call 24; refine Hnum.out.mono ?_; rintro e W12 ⟨g3, cap3, rfl, hr3, hcap3, hg3, hb12⟩;
               have hs2 := same_any (some ⟨g3, 0, none⟩) A' cap3 c' (numBytes v3) (b.take n3) W12 _ _ hr3 ((Hrbz.out.take n3).below (hb12.mono Hbd.out.size));
               rw [Hf5.out, Hnl.out, show (numBytes v3 == numBytes v3) = true from by simp] at hs2;
               have Hs2 := Lib.hid hs2;
               have Hb12 : Hid (Below w.heap.size w W12) := Hbd.out.trans (hb12.mono Hbd.out.size);
               rw [Hnl.out];
               clear hs2 hr3 hcap3 hg3 hb12)
            | (go_at_call 18; refine Hs2.out.mono ?_; rintro e w' ⟨rfl, rfl⟩))
          all_goals
            go_wp2_with fail
            go_ret
            exact ⟨rfl, Hb12.out⟩
        · have hb0 : ((e3 : Int) != 0) = true := by simp [he]
          clear he Hok Hbk
          go_quiet (fail)
          all_goals
            go_wp2_with fail
            go_ret
            exact ⟨rfl, ⟨hbc.out.os, hbc.out.tape, hbc.out.output, hbc.out.size, hbc.out.block⟩⟩
theorem back_any (v : Nat) (s : Int) (A : Option Addr) (x : List UInt8) (c : Nat) (seg : Nat) (row shard sz : Int) (A' : Option Addr) (b : List UInt8) (c' : Nat) (w : World) (ht : Tab w) (hr : RB w w.heap.size A x) (hr' : RB w w.heap.size A' b)
    (hv : v < two64) (hc : x.length ≤ c) (hc' : b.length ≤ c') (hA' : A' = none → c' = 0) (hseg : seg < two64) :
    Calls Tryd.prog 6 #[.int .u64 (v : Int), .slice A x.length c, .int .i64 s, .agg #[.int .u64 (seg : Int), .int .i64 row, .int .i64 shard, .int .i64 sz], .slice A' b.length c'] w
      fun e w' => e = .returned (.bool true) ∧ Below w.heap.size w w' := by
  by_cases h : 65536 < x.length ∨ 65536 < b.length
  · exact back_long v s A x.length c seg row shard sz A' b.length c' w ht h
  · exact back_walk v s A x c seg row shard sz A' b c' w ht hr hr' hv hc hc' hA' hseg (by omega) (by omega)
end Go.Proofs.YtlgeknibdgamgaaDoor
