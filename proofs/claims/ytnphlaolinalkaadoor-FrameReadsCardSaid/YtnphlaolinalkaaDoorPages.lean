/-
  FramePages: whatever the size, the heads, the payloads: the call returns true.
-/
import Derived.Test.YtnphlaolinalkaaDoorKnown
import Derived.Test.YtnphlaolinalkaaDoorSame
import Derived.Test.YtnphlaolinalkaaDoorPagesMath
namespace Go.Proofs.YtnphlaolinalkaaDoor
open Go.RowKit

/-- a head in a box of the call's own -/
structure HeadAt (W : World) (b : Nat) (seg row shard sz : Int) : Prop where
  c0 : W.cell? ⟨b, 0, none⟩ = some (.int .u64 seg)
  c1 : W.cell? ⟨b, 1, none⟩ = some (.int .i64 row)
  c2 : W.cell? ⟨b, 2, none⟩ = some (.int .i64 shard)
  c3 : W.cell? ⟨b, 3, none⟩ = some (.int .i64 sz)
theorem HeadAt.below {W W' : World} {b B : Nat} {seg row shard sz : Int} (h : HeadAt W b seg row shard sz) (hb : Below B W W') (hB : b < B) : HeadAt W' b seg row shard sz :=
  ⟨(hb.cell (p := ⟨b, 0, none⟩) hB).trans h.c0, (hb.cell (p := ⟨b, 1, none⟩) hB).trans h.c1, (hb.cell (p := ⟨b, 2, none⟩) hB).trans h.c2, (hb.cell (p := ⟨b, 3, none⟩) hB).trans h.c3⟩
theorem HeadAt.new (w : World) (seg row shard sz : Int) (t : TypeId) : HeadAt (w.alloc (.cells #[.int .u64 seg, .int .i64 row, .int .i64 shard, .int .i64 sz] t)) w.heap.size seg row shard sz :=
  ⟨by simp, by simp, by simp, by simp⟩

theorem pageOf_length (s row shard : Int) (seg : Nat) (x : List UInt8) : (pageOf s row shard seg x).length ≤ 65536 ∧ (pageErr s row shard x.length ≠ 0 → pageOf s row shard seg x = []) := by
  unfold pageOf
  by_cases h : pageErr s row shard x.length = 0
  · rw [if_pos h]
    refine ⟨?_, fun h' => absurd h h'⟩
    obtain ⟨h1, h2, _⟩ := pageErr_none h
    rw [pageBytes_length _ _ _ _ _ (by omega)]
    omega
  · rw [if_neg h]
    exact ⟨by simp, fun _ => rfl⟩
/-- what two pages without an error tell -/
def PagesCore (s : Int) (seg : Nat) (row shard : Int) (seg' : Nat) (row' shard' : Int) (x y : List UInt8) : Prop :=
  ∃ n : Nat, s = (n : Int) ∧ (pageOf s row shard seg x).length = n ∧ (pageOf s row' shard' seg' y).length = n ∧
    (pageOf s row shard seg x = pageOf s row' shard' seg' y ↔ seg = seg' ∧ row = row' ∧ shard = shard' ∧ x = y)
theorem pages_core (s : Int) (seg : Nat) (row shard : Int) (seg' : Nat) (row' shard' : Int) (x y : List UInt8) (hs : seg < two64) (hs' : seg' < two64)
    (h : pageErr s row shard x.length = 0) (h' : pageErr s row' shard' y.length = 0) : PagesCore s seg row shard seg' row' shard' x y := by
  obtain ⟨a1, a2, a3, a4, a5, a6, a7, a8⟩ := pageErr_none h
  obtain ⟨b1, b2, b3, b4, b5, b6, b7, b8⟩ := pageErr_none h'
  refine ⟨s.toNat, by omega, ?_, ?_, ?_⟩
  · unfold pageOf; rw [if_pos h, pageBytes_length _ _ _ _ _ (by omega)]
  · unfold pageOf; rw [if_pos h', pageBytes_length _ _ _ _ _ (by omega)]
  · unfold pageOf
    rw [if_pos h, if_pos h']
    constructor
    · intro e
      obtain ⟨c1, c2, c3, c4⟩ := pageBytes_inj hs (by omega) (by omega) (by omega) hs' (by omega) (by omega) (by omega) e
      exact ⟨c1, by omega, by omega, c4⟩
    · rintro ⟨rfl, rfl, rfl, rfl⟩
      rfl
/-- two heads in boxes of the call's own, behind a world -/
structure Heads (w W : World) (seg row shard sz seg' row' shard' sz' : Int) : Prop where
  g : HeadAt W w.heap.size seg row shard sz
  h : HeadAt W (w.heap.size + 1) seg' row' shard' sz'
  bel : Below w.heap.size w W
  size : w.heap.size + 2 ≤ W.heap.size
theorem Heads.below {w W W' : World} {seg row shard sz seg' row' shard' sz' : Int} (h : Heads w W seg row shard sz seg' row' shard' sz') (hb : Below W.heap.size W W') : Heads w W' seg row shard sz seg' row' shard' sz' :=
  ⟨h.g.below hb (by have := h.size; omega), h.h.below hb (by have := h.size; omega), h.bel.trans (hb.mono (by have := h.size; omega)), Nat.le_trans h.size hb.size⟩
theorem Heads.new (w : World) (seg row shard sz seg' row' shard' sz' : Int) (t : TypeId) :
    Heads w ((w.alloc (.cells #[.int .u64 seg, .int .i64 row, .int .i64 shard, .int .i64 sz] t)).alloc (.cells #[.int .u64 seg', .int .i64 row', .int .i64 shard', .int .i64 sz'] t)) seg row shard sz seg' row' shard' sz' := by
  refine ⟨(HeadAt.new w seg row shard sz t).below ((Below.refl _ _).alloc (Nat.le_refl _) _) (by simp), ?_, ((Below.refl _ _).alloc (Nat.le_refl _) _).alloc (by simp) _, by simp⟩
  have := HeadAt.new (w.alloc (.cells #[.int .u64 seg, .int .i64 row, .int .i64 shard, .int .i64 sz] t)) seg' row' shard' sz' t
  rw [World.size_alloc] at this
  exact this

set_option maxRecDepth 200000 in
set_option maxHeartbeats 1000000 in
theorem pages_walk (s : Int) (seg : Nat) (row shard sz : Int) (seg' : Nat) (row' shard' sz' : Int) (A : Option Addr) (x : List UInt8) (c : Nat) (A' : Option Addr) (y : List UInt8) (c' : Nat) (w : World) (ht : Tab w)
    (hr : RB w w.heap.size A x) (hr' : RB w w.heap.size A' y) (hc : x.length ≤ c) (hc' : y.length ≤ c') (hseg : seg < two64) (hseg' : seg' < two64) (hx : x.length ≤ 65536) (hy : y.length ≤ 65536) :
    Calls Tryd.prog 9 #[.int .i64 s, .agg #[.int .u64 (seg : Int), .int .i64 row, .int .i64 shard, .int .i64 sz], .agg #[.int .u64 (seg' : Int), .int .i64 row', .int .i64 shard', .int .i64 sz'], .slice A x.length c, .slice A' y.length c'] w
      fun e w' => e = .returned (.bool true) ∧ Below w.heap.size w w' := by
  have Ht := Lib.hid ht
  have Hr := Lib.hid hr
  have Hr' := Lib.hid hr'
  have Hs := Lib.hid hseg
  have Hs' := Lib.hid hseg'
  clear ht hr hr' hseg hseg'
  go_enter Tryd.func9, Tryd.ntmps9
  go_wp2_with fail
  have hh := Heads.new w seg row shard sz seg' row' shard' sz' 47
  generalize (w.alloc (.cells #[.int .u64 (seg : Int), .int .i64 row, .int .i64 shard, .int .i64 sz] 47)).alloc (.cells #[.int .u64 (seg' : Int), .int .i64 row', .int .i64 shard', .int .i64 sz'] 47) = W0 at hh ⊢
  have hpos := Ht.out.pos
  refine (known_any W0 (Ht.out.below hh.bel hpos)).mono ?_
  rintro e W1 ⟨rfl, hb1⟩
  replace hh := hh.below hb1
  have HT : ∀ W, Heads w W seg row shard sz seg' row' shard' sz' → Tab W := fun W h => Ht.out.below h.bel hpos
  have HT2 := Lib.hid HT
  have Hpos := Lib.hid hpos
  clear hb1 W0 HT hpos
  have q0 := hh.g.c0
  have q1 := hh.g.c1
  have q2 := hh.g.c2
  have q3 := hh.g.c3
  have Hh := Lib.hid hh
  clear hh
  have hx' : (x.length : Int) ≤ 65536 := by omega
  have hy' : (y.length : Int) ≤ 65536 := by omega
  go_wp2_with fail
  refine (page_any s row shard seg sz A c x W1 w.heap.size (HT2.out _ Hh.out) (Hr.out.below Hh.out.bel) (Hh.out.bel.size) Hs.out hc).mono ?_
  rintro e W2 ⟨v, rfl, hown, hb2⟩
  have hh := Hh.out.below hb2
  clear Hh q0 q1 q2 q3
  obtain ⟨P, cp, rfl, hcp, hrp, _⟩ := hown.rb
  have hlp : (pageOf s row shard seg x).length ≤ 65536 ∧ (pageErr s row shard x.length ≠ 0 → pageOf s row shard seg x = []) := pageOf_length s row shard seg x
  clear hown
  have q0 := hh.h.c0
  have q1 := hh.h.c1
  have q2 := hh.h.c2
  have q3 := hh.h.c3
  have Hh := Lib.hid hh
  have Hrp := Lib.hid hrp
  have Hlp := Lib.hid hlp
  clear hh hrp hb2 hlp
  go_wp2_with fail
  refine (page_any s row' shard' seg' sz' A' c' y W2 w.heap.size (HT2.out _ Hh.out) (Hr'.out.below Hh.out.bel) (Hh.out.bel.size) Hs'.out hc').mono ?_
  rintro e W3 ⟨v, rfl, hown, hb3⟩
  have hh := Hh.out.below hb3
  replace hrp := Hrp.out.below hb3
  clear Hh q0 q1 q2 q3 Hrp
  obtain ⟨P', cp', rfl, hcp', hrp', _⟩ := hown.rb
  have hlp' : (pageOf s row' shard' seg' y).length ≤ 65536 ∧ (pageErr s row' shard' y.length ≠ 0 → pageOf s row' shard' seg' y = []) := pageOf_length s row' shard' seg' y
  have g0 := hh.g.c0
  have g1 := hh.g.c1
  have g2 := hh.g.c2
  have h0 := hh.h.c0
  have h1 := hh.h.c1
  have h2 := hh.h.c2
  have Hend : Hid (Below w.heap.size w W3) := hh.bel
  have Hrx : Hid (RB W3 w.heap.size A x) := Hr.out.below hh.bel
  have Hry : Hid (RB W3 w.heap.size A' y) := Hr'.out.below hh.bel
  have Hrp := Lib.hid hrp
  have Hrp' := Lib.hid hrp'
  have Hlp' := Lib.hid hlp'
  clear hown hb3 hh hrp hrp' hlp' HT2
  have Hcore : Hid (pageErr s row shard x.length = 0 → pageErr s row' shard' y.length = 0 → PagesCore s seg row shard seg' row' shard' x y) := fun e1 e2 => pages_core s seg row shard seg' row' shard' x y Hs.out Hs'.out e1 e2
  by_cases e1 : pageErr s row shard x.length = 0
  · by_cases e2 : pageErr s row' shard' y.length = 0
    · obtain ⟨n, rfl, hl1, hl2, hcase⟩ := Hcore.out e1 e2
      rw [e1, e2]
      have hsame := same_any (some (⟨0, 0, none⟩ : Addr)) none 0 0 [] [] W3 0 0 (RB.nil _ _ _) (RB.nil _ _ _)
      clear hsame e1 e2 Hcore Hlp Hlp'
      have hsp := same_any P P' cp cp' _ _ W3 _ _ Hrp.out Hrp'.out
      have hsx := same_any A A' c c' x y W3 _ _ Hrx.out Hry.out
      rw [hl1, hl2] at hsp
      rw [hl1] at hcp ⊢
      rw [hl2] at hcp' ⊢
      have Hsx := Lib.hid hsx
      have hnn : ((n : Int) == (n : Int)) = true := by simp
      clear hsx Hrp Hrp' Hrx Hry hl1 hl2
      generalize pageOf (n : Int) row shard seg x = l1 at hsp hcase
      generalize pageOf (n : Int) row' shard' seg' y = l2 at hsp hcase
      by_cases c1 : seg = seg'
      · have t1 : ((seg : Int) == (seg' : Int)) = true := by simp; omega
        by_cases c2 : row = row'
        · have t2 : (row == row') = true := by simp [c2]
          by_cases c3 : shard = shard'
          · have t3 : (shard == shard') = true := by simp [c3]
            have hb : (l1 == l2) = (x == y) := by
              rw [Bool.eq_iff_iff, beq_iff_eq, beq_iff_eq, hcase]
              exact ⟨fun h => h.2.2.2, fun h => ⟨c1, c2, c3, h⟩⟩
            rw [hb] at hsp
            have Hsp := Lib.hid hsp
            clear hsp hb hcase c1 c2 c3
            generalize (x == y) = same at Hsp Hsx
            go_wp2_with fail
            refine Hsx.out.mono ?_
            rintro e w' ⟨rfl, rfl⟩
            go_wp2_with fail
            refine Hsp.out.mono ?_
            rintro e w' ⟨rfl, rfl⟩
            go_wp2_with fail
            go_ret
            exact ⟨by simp, Hend.out⟩
          · have t3 : (shard == shard') = false := by simp [c3]
            have hb : (l1 == l2) = false := by
              rw [beq_eq_false_iff_ne]
              intro h
              have := hcase.1 h
              omega
            rw [hb] at hsp
            have Hsp := Lib.hid hsp
            clear hsp hb hcase
            go_wp2_with fail
            refine Hsp.out.mono ?_
            rintro e w' ⟨rfl, rfl⟩
            go_wp2_with fail
            go_ret
            exact ⟨by simp, Hend.out⟩
        · have t2 : (row == row') = false := by simp [c2]
          have hb : (l1 == l2) = false := by
            rw [beq_eq_false_iff_ne]
            intro h
            have := hcase.1 h
            omega
          rw [hb] at hsp
          have Hsp := Lib.hid hsp
          clear hsp hb hcase
          go_wp2_with fail
          refine Hsp.out.mono ?_
          rintro e w' ⟨rfl, rfl⟩
          go_wp2_with fail
          go_ret
          exact ⟨by simp, Hend.out⟩
      · have t1 : ((seg : Int) == (seg' : Int)) = false := by simp; omega
        have hb : (l1 == l2) = false := by
          rw [beq_eq_false_iff_ne]
          intro h
          have := hcase.1 h
          omega
        rw [hb] at hsp
        have Hsp := Lib.hid hsp
        clear hsp hb hcase
        go_wp2_with fail
        refine Hsp.out.mono ?_
        rintro e w' ⟨rfl, rfl⟩
        go_wp2_with fail
        go_ret
        exact ⟨by simp, Hend.out⟩
    · have b1 : ((pageErr s row shard x.length : Int) != 0) = false := by simp [e1]
      have b2 : ((pageErr s row' shard' y.length : Int) != 0) = true := by simp [e2]
      have b3 : ((pageErr s row shard x.length : Int) == 0) = true := by simp [e1]
      clear e1 e2 Hcore Hlp Hlp' Hrp Hrp' Hrx Hry
      generalize (pageErr s row shard x.length : Int) = z1 at *
      generalize (pageErr s row' shard' y.length : Int) = z2 at *
      go_wp2_with fail
      all_goals
        go_ret
        exact ⟨rfl, Hend.out⟩
  · have b1 : ((pageErr s row shard x.length : Int) != 0) = true := by simp [e1]
    have hl0 := Hlp.out.2 e1
    rw [hl0]
    clear e1 Hcore Hlp Hlp' Hrp Hrp' Hrx Hry hl0
    generalize (pageErr s row shard x.length : Int) = z1 at *
    generalize (pageErr s row' shard' y.length : Int) = z2 at *
    go_wp2_with fail
    all_goals
      go_ret
      exact ⟨rfl, Hend.out⟩
end Go.Proofs.YtnphlaolinalkaaDoor
