/-
  The second saying's reader of pages.
-/
import Derived.Test.YtnphlaolinalkaaDoorRefReadRec
import Derived.Test.YtnphlaolinalkaaDoorReadPg
namespace Go.Proofs.YtnphlaolinalkaaDoor
open Go.RowKit

/-- a head's block of the second saying, none of it frozen -/
def RBlk (W : World) (g : Nat) (seg row shard sz : Int) : Prop := W.heap[g]? = some (.cells #[.int .u64 seg, .int .i64 row, .int .i64 shard, .int .i64 sz] 50 (0, 0))
theorem RBlk.cells {W : World} {g : Nat} {seg row shard sz : Int} (h : RBlk W g seg row shard sz) :
    W.cell? ⟨g, 0, none⟩ = some (.int .u64 seg) ∧ W.cell? ⟨g, 1, none⟩ = some (.int .i64 row) ∧ W.cell? ⟨g, 2, none⟩ = some (.int .i64 shard) ∧ W.cell? ⟨g, 3, none⟩ = some (.int .i64 sz) ∧
      W.frozen? ⟨g, 0, none⟩ = false ∧ W.frozen? ⟨g, 1, none⟩ = false ∧ W.frozen? ⟨g, 2, none⟩ = false ∧ W.frozen? ⟨g, 3, none⟩ = false := by
  unfold RBlk at h
  refine ⟨?_, ?_, ?_, ?_, ?_, ?_, ?_, ?_⟩ <;> simp [World.cell?, World.frozen?, h]
theorem RBlk.store {W W1 : World} {g B : Nat} {seg row shard sz : Int} (h : RBlk W g seg row shard sz) (a b c d : Int) (hb : Below B W1 W) (hg : B ≤ g) :
    RBlk ((((W.setCell ⟨g, 0, none⟩ (.int .u64 a)).setCell ⟨g, 1, none⟩ (.int .i64 b)).setCell ⟨g, 2, none⟩ (.int .i64 c)).setCell ⟨g, 3, none⟩ (.int .i64 d)) g a b c d ∧
      Below B W1 ((((W.setCell ⟨g, 0, none⟩ (.int .u64 a)).setCell ⟨g, 1, none⟩ (.int .i64 b)).setCell ⟨g, 2, none⟩ (.int .i64 c)).setCell ⟨g, 3, none⟩ (.int .i64 d)) := by
  refine ⟨?_, (((hb.setCell (p := ⟨g, 0, none⟩) hg _).setCell (p := ⟨g, 1, none⟩) hg _).setCell (p := ⟨g, 2, none⟩) hg _).setCell (p := ⟨g, 3, none⟩) hg _⟩
  unfold RBlk at h ⊢
  simp [World.setCell, Array.getElem?_modify, h]

set_option maxRecDepth 200000 in
set_option maxHeartbeats 20000000 in
theorem refReadPg_any (A : Option Addr) (c : Nat) (l : List UInt8) (w : World) (hr : RB w w.heap.size A l) (hl : l.length ≤ 1099511627776) (hc : l.length ≤ c) :
    Calls Tryd.prog 22 #[.slice A l.length c] w fun e w' => ∃ v, e = .returned (.tuple #[.agg #[.int .u64 ((readPg l).1.1 : Nat), .int .i64 ((readPg l).1.2.1 : Nat), .int .i64 ((readPg l).1.2.2.1 : Nat), .int .i64 ((readPg l).1.2.2.2 : Nat)], v, .int .i64 ((readPg l).2.2 : Nat)]) ∧
      Own w' w.heap.size v (readPg l).2.1 ∧ Below w.heap.size w w' := by
  have Hr := Lib.hid hr
  have Hspec : Hid (readPg l = _) := (by rw [readPg] : readPg l = _)
  generalize readPg l = out at Hspec ⊢
  generalize hrm : roomOf (l.length : Int) = rm at Hspec
  have Hrm := Lib.hid hrm
  clear hr
  by_cases h0 : rm = 0
  · have hs : out = ((0, 0, 0, 0), [], 1) := by rw [Hspec.out]; simp [h0]
    subst hs
    have hb0 : (rm == 0) = true := by simp [h0]
    clear Hspec h0 hrm
    go_enter Tryd.func22, Tryd.ntmps22
    go_wp2_with (go_at_call 31; refine (refRoom_any _ _).mono ?_; rw [Hrm.out]; rintro e w' ⟨rfl, rfl⟩)
    refine bodyPost_ret (v := .tuple #[.agg #[.int .u64 0, .int .i64 0, .int .i64 0, .int .i64 0], .slice none 0 0, .int .i64 1]) (by simp [results, Tryd.results22, go_sem]) rfl ⟨_, rfl, Own.nil _ _, (Below.refl _ _).alloc (Nat.le_refl _) _⟩
  · have hsz : 32 ≤ l.length ∧ l.length ≤ 65536 ∧ rm ≤ (l.length : Int) - 19 ∧ 13 ≤ rm ∧ rm ≤ 65535 := by
      have h1 := Hrm.out
      unfold roomOf at h1
      split at h1
      · omega
      · split at h1 <;> omega
    obtain ⟨hz1, hz2, hz3, hz4, hz5⟩ := hsz
    obtain ⟨b, o, rfl, hblk⟩ := Hr.out.flat (show 0 < l.length by omega)
    have hb0 : (rm == 0) = false := by simp [h0]
    have n4 : ¬ c = 4 := by omega
    have c4 : 4 ≤ c := by omega
    have c4' : (4 : Int) ≤ (c : Int) := by omega
    have m4' : (4 : Int) ≤ (l.length : Int) := by omega
    have m4 : 4 ≤ l.length := by omega
    clear hrm hblk
    go_enter Tryd.func22, Tryd.ntmps22
    go_upto_region 3 with (go_at_call 31; refine (refRoom_any _ _).mono ?_; rw [Hrm.out]; rintro e w' ⟨rfl, rfl⟩)
    have hhb : RBlk (w.alloc (.cells #[.int .u64 0, .int .i64 0, .int .i64 0, .int .i64 0] 50)) w.heap.size 0 0 0 0 := heap_alloc_new w _
    have hbel0 : Below w.heap.size w (w.alloc (.cells #[.int .u64 0, .int .i64 0, .int .i64 0, .int .i64 0] 50)) := (Below.refl _ _).alloc (Nat.le_refl _) _
    have hszW : w.heap.size + 1 = (w.alloc (.cells #[.int .u64 0, .int .i64 0, .int .i64 0, .int .i64 0] 50)).heap.size := by simp
    generalize w.alloc (.cells #[.int .u64 0, .int .i64 0, .int .i64 0, .int .i64 0] 50) = W0 at hhb hbel0 hszW ⊢
    have hr0 : RB W0 w.heap.size (some ⟨b, o, none⟩) l := Hr.out.below hbel0
    have Hsum : Hid (Calls Tryd.prog 13 #[.slice (some ⟨b, o + 4, none⟩) (l.length - 4) (c - 4)] W0 fun e w' => e = .returned (.int .u32 (sumOf (l.drop 4) : Nat)) ∧ W0 = w') := by
      have := refSum_any (some ⟨b, o + 4, none⟩) (c - 4) (l.drop 4) W0 _ (hr0.cutFlat 4) (by rw [List.length_drop]; omega)
      rw [List.length_drop] at this
      exact this
    have Hfour := Lib.hid (readFour_any (some ⟨b, o, none⟩) c l W0 _ hr0 m4 hl)
    have Hhb := Lib.hid hhb
    have Hbel0 := Lib.hid hbel0
    have HszW := Lib.hid hszW
    have Hr0 := Lib.hid hr0
    generalize ha : leNat (l.take 4) = a at Hfour Hspec
    generalize hsm : sumOf (l.drop 4) = sm at Hsum Hspec
    clear hhb hbel0 hszW hr0 ha hsm
    go_wp2_with fail
    refine Hsum.out.mono ?_
    rintro e w' ⟨rfl, rfl⟩
    go_wp2_with fail
    refine Hfour.out.mono ?_
    rintro e w' ⟨rfl, k4, rfl⟩
    have hhb4 : RBlk (W0.drewN k4) w.heap.size 0 0 0 0 := Hhb.out
    have hbel4 : Below w.heap.size w (W0.drewN k4) := ⟨Hbel0.out.os, Hbel0.out.tape, Hbel0.out.output, Hbel0.out.size, Hbel0.out.block⟩
    have hsz4 : w.heap.size + 1 = (W0.drewN k4).heap.size := HszW.out
    generalize W0.drewN k4 = wc at hhb4 hbel4 hsz4 ⊢
    have Hhc := Lib.hid hhb4
    have Hend := Lib.hid hbel4
    have HszC := Lib.hid hsz4
    have Hrc : Hid (RB wc w.heap.size (some ⟨b, o, none⟩) l) := Hr.out.below Hend.out
    clear hhb4 hbel4 hsz4 Hhb Hbel0 HszW Hr0 Hsum Hfour
    by_cases hsum : a = sm
    · have hb : ((sm : Int) != (a : Int)) = false := by simp [hsum]
      have hs2 := Hspec.out
      rw [if_neg h0, if_neg (fun h => h hsum)] at hs2
      have Hs2 := Lib.hid hs2
      have hrowlt : leNat ((l.drop 12).take 4) < 4294967296 := by have := leNat_lt ((l.drop 12).take 4); rw [List.length_take, List.length_drop, Nat.min_eq_left (by omega)] at this; exact this
      have hszlt : leNat ((l.drop 17).take 2) < 65536 := by have := leNat_lt ((l.drop 17).take 2); rw [List.length_take, List.length_drop, Nat.min_eq_left (by omega)] at this; exact this
      obtain ⟨F, hF⟩ : ∃ F : Nat → Int → Nat, F = fun k z => leNat ((l.drop k).take z.toNat) := ⟨_, rfl⟩
      have hlow : ∀ k z, (k ≤ 24 ∧ 0 ≤ z ∧ z ≤ 8) → ∀ W, Below w.heap.size wc W → Calls Tryd.prog 38 #[.slice (some ⟨b, o + k, none⟩) (l.length - k) (c - k), .int .i64 z] W fun e w' => e = .returned (.int .u64 (F k z : Nat)) ∧ W = w' := fun k z hkz W hW => by
        obtain ⟨j, rfl⟩ := Int.eq_ofNat_of_zero_le hkz.2.1
        have h1 := (Hrc.out.below hW).cutFlat k
        have := readLow_any (some ⟨b, o + k, none⟩) (c - k) (l.drop k) j W _ h1 (by omega) (by rw [List.length_drop]; omega) (by rw [List.length_drop]; omega)
        rw [List.length_drop] at this
        rw [hF]
        exact this
      have Hlow := Lib.hid hlow
      have f4 : leNat ((l.drop 4).take 8) = F 4 8 := by rw [hF]; rfl
      have f12 : leNat ((l.drop 12).take 4) = F 12 4 := by rw [hF]; rfl
      have f17 : leNat ((l.drop 17).take 2) = F 17 2 := by rw [hF]; rfl
      rw [f4, f12, f17] at Hs2
      rw [f12] at hrowlt
      rw [f17] at hszlt
      clear hF f4 f12 f17
      obtain ⟨ad16, e16, hb16, h16⟩ := Hrc.out.at_ (show 16 < l.length by omega)
      obtain rfl : ad16 = ⟨b, o, none⟩ := by injection e16 with h; exact h.symm
      rw [show (⟨b, o, none⟩ : Addr).add 16 = ⟨b, o + 16, none⟩ from rfl] at h16
      have hsh : leNat ((l.drop 16).take 1) = l[16].toNat := by
        rw [List.drop_eq_getElem_cons (show 16 < l.length by omega)]
        rfl
      have hshlt := l[16].toNat_lt
      have hbk : b < w.heap.size := hb16
      rw [hsh] at Hs2
      generalize l[16].toNat = sh at h16 hshlt Hs2
      have n12 : ¬ c = 12 := by omega
      have n17 : ¬ c = 17 := by omega
      have n19 : ¬ c = 19 := by omega
      have c12' : (12 : Int) ≤ (c : Int) := by omega
      have c17' : (17 : Int) ≤ (c : Int) := by omega
      have l12' : (12 : Int) ≤ (l.length : Int) := by omega
      have l17' : (17 : Int) ≤ (l.length : Int) := by omega
      have l16 : (16 : Int) < (l.length : Int) := by omega
      have l16' : 16 < l.length := by omega
      have l12 : 12 ≤ l.length := by omega
      have l17 : 17 ≤ l.length := by omega
      have hws : IntKind.i64.wrap (sh : Int) = (sh : Int) := by rw [IntKind.wrap_i64]; omega
      have hwr : IntKind.i64.wrap (F 12 4 : Int) = (F 12 4 : Int) := by rw [IntKind.wrap_i64]; omega
      have hwz : IntKind.i64.wrap (F 17 2 : Int) = (F 17 2 : Int) := by rw [IntKind.wrap_i64]; omega
      have hrowlt' : (F 12 4 : Int) < 4294967296 := by omega
      have hszlt' : (F 17 2 : Int) ≤ 65535 := by omega
      have Hszc : Hid (w.heap.size ≤ wc.heap.size) := Hend.out.size
      clear hs2 hlow hsum e16 hb16 hsh hrowlt hszlt hshlt Hspec
      go_upto_region 5 with fail
      obtain ⟨wk, rfl⟩ : ∃ wk : World, wk = wc := ⟨_, rfl⟩
      go_cut [5] (fun s wx => s = .pointer (some ⟨wk.heap.size, 0, none⟩) ∧ Hid (RBlk wx wk.heap.size (F 4 8 : Int) (F 12 4 : Int) (sh : Int) (F 17 2 : Int)) ∧ Hid (Below wk.heap.size wk wx))
      case first =>
        go_region_held3 (fun w' => w'.cell? ⟨b, o + 16, none⟩ = some (.int .u8 (sh : Int))) (first | exact h16 | exact (World.cell?_alloc_lt wk _ _ (by show b < _; have := Hszc.out; omega)).trans h16) ((go_at_call 38; refine (Hlow.out _ _ (by decide) _ (by first | exact (Below.refl _ _).drew | exact ((Below.refl _ _).drew).alloc Hszc.out _ | exact ((Below.refl _ _).alloc Hszc.out _).drew)).mono ?_; rintro e w' ⟨rfl, rfl⟩))
        all_goals
          go_wp2_with fail
          go_meet
          exact ⟨rfl, heap_alloc_new wk _, ((Below.refl _ _).alloc (Nat.le_refl _) _).drew⟩
      case rest =>
        obtain ⟨rfl, hhx, hbx⟩ := hcut
        have hwH : w.heap.size < wk.heap.size := by have := HszC.out; omega
        have Hhw : Hid (RBlk wc w.heap.size 0 0 0 0) := (hbx.out.block _ hwH).trans Hhc.out
        have Hendw : Hid (Below w.heap.size w wc) := Hend.out.trans (hbx.out.mono Hszc.out)
        have hgl : wk.heap.size < wc.heap.size := by
          have := hhx.out
          rcases Nat.lt_or_ge wk.heap.size wc.heap.size with h | h
          · exact h
          · unfold RBlk at this; rw [Array.getElem?_eq_none h] at this; cases this
        have Hroom : Hid (∀ W : World, Calls Tryd.prog 31 #[.int .i64 (l.length : Int)] W fun e w' => e = .returned (.int .i64 rm) ∧ w' = W) := fun W => (refRoom_any _ W).mono fun _ _ ⟨h1, h2⟩ => ⟨by rw [h1, Hrm.out], h2.symm⟩
        clear h16 Hlow Hrc Hhc Hend HszC Hszc hbx hws hwr hwz
        by_cases hbad : 1073741824 < F 12 4
        · have hout : out = ((0, 0, 0, 0), [], 24) := by rw [Hs2.out, if_pos (Or.inl hbad)]
          subst hout
          have hd1 : decide ((1073741824 : Int) < (F 12 4 : Int)) = true := by simp; omega
          obtain ⟨g0, g1, g2, g3, _⟩ := hhx.out.cells
          clear Hs2 hbad
          go_wp2_with fail
          go_quiet (fail)
          all_goals
            clear g0 g1 g2 g3
            have hhwd : RBlk (wc.drewN nq) w.heap.size 0 0 0 0 := Hhw.out
            have hhxd : RBlk (wc.drewN nq) wk.heap.size (F 4 8 : Int) (F 12 4 : Int) (sh : Int) (F 17 2 : Int) := hhx.out
            have hendd : Below w.heap.size w (wc.drewN nq) := ⟨Hendw.out.os, Hendw.out.tape, Hendw.out.output, Hendw.out.size, Hendw.out.block⟩
            have hgld : wk.heap.size < (wc.drewN nq).heap.size := hgl
            generalize wc.drewN nq = wd at hhwd hhxd hendd hgld ⊢
            have Hhwd := Lib.hid hhwd
            have Hendd := Lib.hid hendd
            clear hhwd hhxd hendd hgld
            obtain ⟨q0, q1, q2, q3, f0, f1, f2, f3⟩ := RBlk.cells Hhwd.out
            go_wp2_with fail
            have hst := RBlk.store Hhwd.out 0 0 0 0 Hendd.out (Nat.le_refl _)
            generalize ((((wd.setCell ⟨w.heap.size, 0, none⟩ (.int .u64 0)).setCell ⟨w.heap.size, 1, none⟩ (.int .i64 0)).setCell ⟨w.heap.size, 2, none⟩ (.int .i64 0)).setCell ⟨w.heap.size, 3, none⟩ (.int .i64 0)) = Wf at hst ⊢
            clear q0 q1 q2 q3 f0 f1 f2 f3
            obtain ⟨q0, q1, q2, q3, _⟩ := hst.1.cells
            refine bodyPost_ret (v := .tuple #[.agg #[.int .u64 0, .int .i64 0, .int .i64 0, .int .i64 0], .slice none 0 0, .int .i64 24]) (by simp [results, Tryd.results22, go_sem, q0, q1, q2, q3]) rfl ⟨_, rfl, Own.nil _ _, hst.2⟩
        · have hd1 : decide ((1073741824 : Int) < (F 12 4 : Int)) = false := by simp; omega
          by_cases hbad2 : rm < (F 17 2 : Int)
          · have hout : out = ((0, 0, 0, 0), [], 24) := by rw [Hs2.out, if_pos (Or.inr (Or.inl hbad2))]
            subst hout
            have hd2 : decide (rm < (F 17 2 : Int)) = true := by simp; omega
            obtain ⟨g0, g1, g2, g3, _⟩ := hhx.out.cells
            clear Hs2 hbad hbad2
            go_wp2_with fail
            go_quiet ((go_at_call 31; exact Calls.quiet_of_same (Hroom.out _)))
            all_goals
              clear g0 g1 g2 g3
              have hhwd : RBlk (wc.drewN nq) w.heap.size 0 0 0 0 := Hhw.out
              have hhxd : RBlk (wc.drewN nq) wk.heap.size (F 4 8 : Int) (F 12 4 : Int) (sh : Int) (F 17 2 : Int) := hhx.out
              have hendd : Below w.heap.size w (wc.drewN nq) := ⟨Hendw.out.os, Hendw.out.tape, Hendw.out.output, Hendw.out.size, Hendw.out.block⟩
              have hgld : wk.heap.size < (wc.drewN nq).heap.size := hgl
              generalize wc.drewN nq = wd at hhwd hhxd hendd hgld ⊢
              have Hhwd := Lib.hid hhwd
              have Hendd := Lib.hid hendd
              clear hhwd hhxd hendd hgld
              obtain ⟨q0, q1, q2, q3, f0, f1, f2, f3⟩ := RBlk.cells Hhwd.out
              go_wp2_with fail
              have hst := RBlk.store Hhwd.out 0 0 0 0 Hendd.out (Nat.le_refl _)
              generalize ((((wd.setCell ⟨w.heap.size, 0, none⟩ (.int .u64 0)).setCell ⟨w.heap.size, 1, none⟩ (.int .i64 0)).setCell ⟨w.heap.size, 2, none⟩ (.int .i64 0)).setCell ⟨w.heap.size, 3, none⟩ (.int .i64 0)) = Wf at hst ⊢
              clear q0 q1 q2 q3 f0 f1 f2 f3
              obtain ⟨q0, q1, q2, q3, _⟩ := hst.1.cells
              refine bodyPost_ret (v := .tuple #[.agg #[.int .u64 0, .int .i64 0, .int .i64 0, .int .i64 0], .slice none 0 0, .int .i64 24]) (by simp [results, Tryd.results22, go_sem, q0, q1, q2, q3]) rfl ⟨_, rfl, Own.nil _ _, hst.2⟩
          · have hd2 : decide (rm < (F 17 2 : Int)) = false := by simp; omega
            obtain ⟨g0, g1, g2, g3, _⟩ := hhx.out.cells
            have Hbads := Lib.hid (And.intro hbad hbad2)
            have s19 : 19 + F 17 2 ≤ l.length := by omega
            have s19' : 19 + (F 17 2 : Int) ≤ (l.length : Int) := by omega
            clear hbad hbad2
            go_wp2_with fail
            go_quiet ((go_at_call 31; exact Calls.quiet_of_same (Hroom.out _)))
            all_goals
              clear g0 g1 g2 g3
              have hhwd : RBlk (wc.drewN nq) w.heap.size 0 0 0 0 := Hhw.out
              have hhxd : RBlk (wc.drewN nq) wk.heap.size (F 4 8 : Int) (F 12 4 : Int) (sh : Int) (F 17 2 : Int) := hhx.out
              have hendd : Below w.heap.size w (wc.drewN nq) := ⟨Hendw.out.os, Hendw.out.tape, Hendw.out.output, Hendw.out.size, Hendw.out.block⟩
              have hgld : wk.heap.size < (wc.drewN nq).heap.size := hgl
              generalize wc.drewN nq = wd at hhwd hhxd hendd hgld ⊢
              have Hhwd := Lib.hid hhwd
              have Hhxd := Lib.hid hhxd
              have Hendd := Lib.hid hendd
              obtain ⟨g0, g1, g2, g3, _⟩ := hhxd.cells
              have Hrd : Hid (RB wd w.heap.size (some ⟨b, o, none⟩) l) := Hr.out.below hendd
              have Hgld := Lib.hid hgld
              clear hhwd hhxd hendd hd1 hd2 hgld
              go_wp2_with fail
              go_loop [6] (fun i => ∃ k : Nat, 19 + F 17 2 ≤ k ∧ k ≤ l.length ∧ i = .int .i64 (k : Int) ∧ Hid (∀ x ∈ (l.drop (19 + F 17 2)).take (k - (19 + F 17 2)), x = 0)) (fun i => (l.length - intOf i).toNat)
              case atStart => exact ⟨19 + F 17 2, Nat.le_refl _, s19, by go_num, fun x hx => by simp at hx⟩
              case round =>
                obtain ⟨k, hk1, hk2, rfl, hno⟩ := hrel
                by_cases hkl : k < l.length
                · obtain ⟨adk, ek, _, hck⟩ := Hrd.out.at_ hkl
                  obtain rfl : adk = ⟨b, o, none⟩ := by injection ek with h; exact h.symm
                  rw [add_flat] at hck
                  have hkl' : (k : Int) < (l.length : Int) := by omega
                  have Htk : Hid ((l.drop (19 + F 17 2)).take (k + 1 - (19 + F 17 2)) = (l.drop (19 + F 17 2)).take (k - (19 + F 17 2)) ++ [l[k]]) := by
                    show _ = _
                    rw [show k + 1 - (19 + F 17 2) = (k - (19 + F 17 2)) + 1 by omega, List.take_succ_eq_append_getElem (by rw [List.length_drop]; omega), List.getElem_drop]
                    simp only [show 19 + F 17 2 + (k - (19 + F 17 2)) = k by omega]
                  have Hmem : Hid (l[k] ∈ l.drop (19 + F 17 2)) := by
                    refine List.mem_iff_getElem.2 ⟨k - (19 + F 17 2), by rw [List.length_drop]; omega, ?_⟩
                    rw [List.getElem_drop]
                    simp only [show 19 + F 17 2 + (k - (19 + F 17 2)) = k by omega]
                  generalize l[k] = x at hck Htk Hmem
                  by_cases hx0 : x = 0
                  · have Hno2 : Hid (∀ y ∈ (l.drop (19 + F 17 2)).take (k + 1 - (19 + F 17 2)), y = 0) := by
                      intro y hy
                      rw [Htk.out, List.mem_append] at hy
                      rcases hy with hy | hy
                      · exact hno.out y hy
                      · simp at hy; rw [hy, hx0]
                    have hbz : ((x.toNat : Int) != 0) = false := by simp [hx0]
                    clear hx0 Hmem
                    go_wp2_with fail
                    go_round
                    case rel => exact ⟨k + 1, by omega, by omega, by go_num, Hno2.out⟩
                    case measure => simp [intOf]; omega
                  · have hout : out = ((0, 0, 0, 0), [], 24) := by
                      rw [Hs2.out, if_pos]
                      refine Or.inr (Or.inr fun hall => hx0 ?_)
                      rw [List.all_eq_true] at hall
                      simpa using hall x Hmem.out
                    subst hout
                    have hxn : x.toNat ≠ 0 := fun h => hx0 (UInt8.toNat_inj.1 h)
                    have hbz : ((x.toNat : Int) != 0) = true := by simp; omega
                    clear hx0 hxn Hmem Htk
                    obtain ⟨q0, q1, q2, q3, f0, f1, f2, f3⟩ := RBlk.cells Hhwd.out
                    go_wp2_with fail
                    have hst := RBlk.store Hhwd.out 0 0 0 0 Hendd.out (Nat.le_refl _)
                    generalize ((((wd.setCell ⟨w.heap.size, 0, none⟩ (.int .u64 0)).setCell ⟨w.heap.size, 1, none⟩ (.int .i64 0)).setCell ⟨w.heap.size, 2, none⟩ (.int .i64 0)).setCell ⟨w.heap.size, 3, none⟩ (.int .i64 0)) = Wf at hst ⊢
                    clear q0 q1 q2 q3 f0 f1 f2 f3
                    obtain ⟨q0, q1, q2, q3, _⟩ := hst.1.cells
                    refine bodyPost_ret (v := .tuple #[.agg #[.int .u64 0, .int .i64 0, .int .i64 0, .int .i64 0], .slice none 0 0, .int .i64 24]) (by simp [results, Tryd.results22, go_sem, q0, q1, q2, q3]) rfl ⟨_, rfl, Own.nil _ _, hst.2⟩
                · obtain rfl : k = l.length := by omega
                  have hout : out = ((F 4 8, F 12 4, sh, F 17 2), (l.drop 19).take (F 17 2), 0) := by
                    rw [Hs2.out, if_neg]
                    rintro (h | h | h)
                    · exact Hbads.out.1 h
                    · exact absurd h (by have := Hbads.out.2; omega)
                    · apply h
                      rw [List.all_eq_true]
                      intro x hx
                      have := hno.out x (by rw [List.take_of_length_le (by rw [List.length_drop]; exact Nat.le_refl _)]; exact hx)
                      simp [this]
                  subst hout
                  clear Hs2
                  go_upto_region 13 with fail
                  have hn19 : ¬ c = 19 := by omega
                  have HwA : Hid (IntKind.i64.wrap (19 + (F 17 2 : Int)) = 19 + (F 17 2 : Int)) := by show _ = _; rw [IntKind.wrap_i64]; omega
                  have c19i : 19 + (F 17 2 : Int) ≤ (c : Int) := by omega
                  have hs1 : (19 : Int) ≤ 19 + (F 17 2 : Int) := by omega
                  have hs3 : (19 + (F 17 2 : Int)).toNat = 19 + F 17 2 := by omega
                  have hs4 : 19 + F 17 2 - 19 = F 17 2 := by omega
                  have hs5 : (0 : Int) ≤ 19 + (F 17 2 : Int) := by omega
                  have hwd : w.heap.size < wd.heap.size := by have := Hgld.out; omega
                  have Hwd := Lib.hid hwd
                  have Hpay : Hid (RB wd w.heap.size (some ⟨b, o + 19, none⟩) ((l.drop 19).take (F 17 2))) := (Hrd.out.cutFlat 19).take (F 17 2)
                  have Hpl : Hid (F 17 2 = ((l.drop 19).take (F 17 2)).length) := by show _ = _; rw [List.length_take, List.length_drop]; omega
                  have Hl0 : Hid (([] : List UInt8).length + ((l.drop 19).take (F 17 2)).length ≤ 140737488355327) := by show _ ≤ _; rw [← Hpl.out]; simp; omega
                  have Hsw : Hid (w.heap.size ≤ wd.heap.size) := Nat.le_of_lt hwd
                  generalize hpay : (l.drop 19).take (F 17 2) = pay at Hpay Hpl Hl0 ⊢
                  have Hpe := Lib.hid hpay
                  clear hpay
                  have ga : ∀ x, (wd.alloc x).cell? ⟨wk.heap.size, 0, none⟩ = some (.int .u64 (F 4 8 : Int)) := fun x => (World.cell?_alloc_lt wd x _ (by show wk.heap.size < _; exact Hgld.out)).trans g0
                  have gb : ∀ x, (wd.alloc x).cell? ⟨wk.heap.size, 1, none⟩ = some (.int .i64 (F 12 4 : Int)) := fun x => (World.cell?_alloc_lt wd x _ (by show wk.heap.size < _; exact Hgld.out)).trans g1
                  have gc : ∀ x, (wd.alloc x).cell? ⟨wk.heap.size, 2, none⟩ = some (.int .i64 (sh : Int)) := fun x => (World.cell?_alloc_lt wd x _ (by show wk.heap.size < _; exact Hgld.out)).trans g2
                  have gd : ∀ x, (wd.alloc x).cell? ⟨wk.heap.size, 3, none⟩ = some (.int .i64 (F 17 2 : Int)) := fun x => (World.cell?_alloc_lt wd x _ (by show wk.heap.size < _; exact Hgld.out)).trans g3
                  have hwAo := HwA.out
                  clear hwd
                  go_region_law (first
                    | (go_must (refine step_app_bytes (by rfl) (.tmp 63) (.tmp 68) (by rfl) wd.heap.size _ [] (by rfl) (Own.made wd.drew _ (Nat.le_refl _)) _ (some ⟨b, o + 19, none⟩) (F 17 2) _ pay (by rfl) Hpl.out ((RB.drew Hpay.out).alloc Hsw.out _) Hl0.out (by simp) ?_); intro v9 W9 hown9 hbel9 _; have hh9 : RBlk W9 w.heap.size 0 0 0 0 := (hbel9.block _ Hwd.out).trans ((Below.heap_alloc wd.drew _ _ Hwd.out).trans Hhwd.out); have hx9 : RBlk W9 wk.heap.size (F 4 8 : Int) (F 12 4 : Int) (sh : Int) (F 17 2 : Int) := (hbel9.block _ Hgld.out).trans ((Below.heap_alloc wd.drew _ _ Hgld.out).trans Hhxd.out); obtain ⟨p0, p1, p2, p3, z0, z1, z2, z3⟩ := hh9.cells; obtain ⟨k0, k1, k2, k3, _⟩ := hx9.cells))
                  all_goals
                    clear k0 k1 k2 k3 p0 p1 p2 p3 z0 z1 z2 z3 g0 g1 g2 g3 ga gb gc gd hwAo hs1 hs3 hs4 hs5
                    go_wp2_with fail
                    have hst := RBlk.store hh9 (F 4 8 : Int) (F 12 4 : Int) (sh : Int) (F 17 2 : Int) (((Hendd.out.drew).alloc Hsw.out _).trans (hbel9.mono Hsw.out)) (Nat.le_refl _)
                    have hwn : Own ((((W9.setCell ⟨w.heap.size, 0, none⟩ (.int .u64 (F 4 8 : Int))).setCell ⟨w.heap.size, 1, none⟩ (.int .i64 (F 12 4 : Int))).setCell ⟨w.heap.size, 2, none⟩ (.int .i64 (sh : Int))).setCell ⟨w.heap.size, 3, none⟩ (.int .i64 (F 17 2 : Int))) w.heap.size v9 pay := ((((hown9.poke (by exact Hwd.out) _).poke (by exact Hwd.out) _).poke (by exact Hwd.out) _).poke (by exact Hwd.out) _).wide Hsw.out
                    generalize ((((W9.setCell ⟨w.heap.size, 0, none⟩ (.int .u64 (F 4 8 : Int))).setCell ⟨w.heap.size, 1, none⟩ (.int .i64 (F 12 4 : Int))).setCell ⟨w.heap.size, 2, none⟩ (.int .i64 (sh : Int))).setCell ⟨w.heap.size, 3, none⟩ (.int .i64 (F 17 2 : Int))) = Wf at hst hwn ⊢
                    obtain ⟨q0, q1, q2, q3, _⟩ := hst.1.cells
                    refine bodyPost_ret (v := .tuple #[.agg #[.int .u64 (F 4 8 : Int), .int .i64 (F 12 4 : Int), .int .i64 (sh : Int), .int .i64 (F 17 2 : Int)], v9, .int .i64 0]) (by simp [results, Tryd.results22, go_sem, q0, q1, q2, q3]) rfl ⟨v9, rfl, by show Own _ _ _ _; rw [Hpe.out]; exact hwn, hst.2⟩
    · have hb : ((sm : Int) != (a : Int)) = true := by simp; omega
      have hout : out = ((0, 0, 0, 0), [], 23) := by rw [Hspec.out, if_neg h0, if_pos hsum]
      subst hout
      obtain ⟨q0, q1, q2, q3, f0, f1, f2, f3⟩ := Hhc.out.cells
      clear hsum Hspec
      go_wp2_with fail
      have hst := RBlk.store Hhc.out 0 0 0 0 Hend.out (Nat.le_refl _)
      generalize ((((wc.setCell ⟨w.heap.size, 0, none⟩ (.int .u64 0)).setCell ⟨w.heap.size, 1, none⟩ (.int .i64 0)).setCell ⟨w.heap.size, 2, none⟩ (.int .i64 0)).setCell ⟨w.heap.size, 3, none⟩ (.int .i64 0)) = Wf at hst ⊢
      obtain ⟨q0, q1, q2, q3, _⟩ := hst.1.cells
      refine bodyPost_ret (v := .tuple #[.agg #[.int .u64 0, .int .i64 0, .int .i64 0, .int .i64 0], .slice none 0 0, .int .i64 23]) (by simp [results, Tryd.results22, go_sem, q0, q1, q2, q3]) rfl ⟨_, rfl, Own.nil _ _, hst.2⟩
end Go.Proofs.YtnphlaolinalkaaDoor
