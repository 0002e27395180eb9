/-
  The ring is gone round, no record being looked at.
-/
import Derived.Test.YtkjogkmdldplgaaDoorLgWalk
import Derived.WalkMore
import Derived.StillTailTactics
namespace Go.Proofs.YtkjogkmdldplgaaDoor
open Go.RowKit

section
set_option maxRecDepth 20000
set_option maxHeartbeats 8000000
theorem walk_pass (pw nv lb R up : Nat) (P : Pow) (D : Dev) (O : Nat → Option Tag) (b : Bd) (rs : List (List UInt8)) (w : World) (h : SysAt w O pw P nv D) (hoff : P.off = false) (hl : LogC w lb nv R) (hR : R = D.mem.length - 57) (hR0 : 0 < R) (hi : InRing D.mem R b rs) (hup : up ≤ 1099511627776) :
    Calls Tryd.prog 24 #[.pointer (some ⟨lb, 0, none⟩), bdV b, .int .u64 (up : Int), .func (.func 23) #[] #[]] w fun e w' => ∃ j, j ≤ rs.length ∧ (j = rs.length ∨ up < b.first + j) ∧ (∀ i, i < j → b.first + i ≤ up) ∧ e = .returned (.tuple #[bdV (advB b R (rs.take j)), .nilIface]) ∧ InRing D.mem R (advB b R (rs.take j)) (rs.drop j) ∧ Below w.heap.size w w' := by
  have hhi := h.ok.high
  have hR6 : R ≤ 67108864 := by omega
  have Hst : Hid (WalkSt w ((w.alloc (.cells #[.int .u64 (b.first : Int), .int .u64 (b.next : Int), .int .i64 (b.at_ : Int), .int .i64 (b.used : Int)] 62)).alloc (.cells #[.int .u64 0, .int .u64 0, .int .i64 0, .int .i64 0] 62)) (fun _ => True) D.mem R up b rs 0) := by
    refine ⟨Nat.zero_le _, (Cells.new w #[.int .u64 (b.first : Int), .int .u64 (b.next : Int), .int .i64 (b.at_ : Int), .int .i64 (b.used : Int)] _).alloc _, ?_, hi, rfl, rfl, ((Kept.refl _ w).alloc _).alloc _, fun i h => by omega⟩
    have := Cells.new (w.alloc (.cells #[.int .u64 (b.first : Int), .int .u64 (b.next : Int), .int .i64 (b.at_ : Int), .int .i64 (b.used : Int)] 62)) #[.int .u64 0, .int .u64 0, .int .i64 0, .int .i64 0] 62
    simp only [World.size_alloc] at this
    exact this
  have Hsys : Hid (∀ W, Kept (fun _ => True) w W → SysAt W O pw P nv D ∧ LogC W lb nv R) := fun W hk => ⟨h.kept (hk.mono fun _ _ _ => trivial), hl.move (hk.block lb hl.lt trivial)⟩
  have Hfr : Hid (∀ W (b' : Bd) (r : List UInt8) (X : List (List UInt8)), Kept (fun _ => True) w W → InRing D.mem R b' (r :: X) → Calls Tryd.prog 43 #[.pointer (some ⟨lb, 0, none⟩), bdV b'] W fun e w' => e = .returned (.tuple #[.int .i64 ((numBytes r.length).length : Int), .int .i64 (r.length : Int), .nilIface]) ∧ Below W.heap.size W w') := by
    intro W b' r X hk hi'
    obtain ⟨s1, s2⟩ := Hsys.out W hk
    exact front_any pw nv lb R P D O b' r (enc X) W s1 hoff s2 hR hR0 (by have := hi'.at_; omega) hi'.used hi'.front.1
  have Hn := Lib.hid (And.intro hR6 hR0)
  have hup' : (up : Int) ≤ 1099511627776 := by omega
  clear h hl hi hoff hR hhi hR6 hR0 hup
  unfold bdV
  go_enter Tryd.func24, Tryd.ntmps24
  go_wp2_with fail
  apply wp_scope_straight
  go_wp2_with fail
  apply wp_label
  go_wp2_with fail
  go_loopw [13] (fun _ wr => ∃ j, Hid (WalkSt w wr (fun _ => True) D.mem R up b rs j)) (fun _ wr => b.next - boxFirst wr w.heap.size)
  case atStart => exact ⟨0, Hst.out⟩
  case round =>
    obtain ⟨j, hst⟩ := hrel
    obtain ⟨b', hb'⟩ : ∃ b', b' = advB b R (rs.take j) := ⟨_, rfl⟩
    have hbox := hst.out.box
    have hinr := hst.out.inr
    have hok := hinr.ok Hn.out.1
    have hfst := hst.out.first
    rw [← hb'] at hbox hinr hok hfst
    have hout := hst.out.out
    obtain ⟨c0, c1, c2, c3⟩ := BoxAt.four hbox
    have hle := hst.out.le
    have hcnt := hinr.cnt
    rw [List.length_drop] at hcnt
    have Hb' : Hid (b' = advB b R (rs.take j)) := hb'
    clear hb'
    by_cases hj : j < rs.length
    · have hne : ((b'.first : Int) == (b'.next : Int)) = false := by simp; omega
      have hN := hok.next
      by_cases hpu : b'.first ≤ up
      · have hpu' : (b'.first : Int) ≤ (up : Int) := by omega
        have hpj : b.first + j ≤ up := by omega
        have hinr2 := hinr
        rw [List.drop_eq_getElem_cons hj] at hinr2
        obtain ⟨r1, r2, r3⟩ := hinr2.front
        have Hfr1 : Hid (Calls Tryd.prog 43 #[.pointer (some ⟨lb, 0, none⟩), .agg #[.int .u64 (b'.first : Int), .int .u64 (b'.next : Int), .int .i64 (b'.at_ : Int), .int .i64 (b'.used : Int)]] wr fun e w' => e = .returned (.tuple #[.int .i64 ((numBytes rs[j].length).length : Int), .int .i64 (rs[j].length : Int), .nilIface]) ∧ Below wr.heap.size wr w') := Hfr.out wr b' rs[j] _ hst.out.kept hinr2
        have Hnx : Hid (∀ w1, Below wr.heap.size wr w1 → Cells w1 w.heap.size 62 (bdL b') ∧ LogC w1 lb nv R ∧ Kept (fun _ => True) w w1) := fun w1 hb1 => by
          have hk := hst.out.kept.below hb1
          exact ⟨hbox.move (hb1.block _ hbox.lt), (Hsys.out w1 hk).2, hk⟩
        have Hsh : Hid (∀ w1, Below wr.heap.size wr w1 → Calls Tryd.prog 44 #[.agg #[.int .u64 (b'.first : Int), .int .u64 (b'.next : Int), .int .i64 (b'.at_ : Int), .int .i64 (b'.used : Int)], .int .i64 (((numBytes rs[j].length).length : Int) + (rs[j].length : Int)), .int .i64 (R : Int)] w1 fun e w2 => e = .returned (.agg #[.int .u64 ((shorterB b' (encR rs[j]).length R).first : Int), .int .u64 ((shorterB b' (encR rs[j]).length R).next : Int), .int .i64 ((shorterB b' (encR rs[j]).length R).at_ : Int), .int .i64 ((shorterB b' (encR rs[j]).length R).used : Int)]) ∧ Cells w2 w.heap.size 62 (bdL b') ∧
            ∀ W, W = (((w2.setCell ⟨w.heap.size, 0, none⟩ (.int .u64 ((shorterB b' (encR rs[j]).length R).first : Int))).setCell ⟨w.heap.size, 1, none⟩ (.int .u64 ((shorterB b' (encR rs[j]).length R).next : Int))).setCell ⟨w.heap.size, 2, none⟩ (.int .i64 ((shorterB b' (encR rs[j]).length R).at_ : Int))).setCell ⟨w.heap.size, 3, none⟩ (.int .i64 ((shorterB b' (encR rs[j]).length R).used : Int)) → WalkSt w W (fun _ => True) D.mem R up b rs (j + 1) ∧ b.next - boxFirst W w.heap.size < b.next - boxFirst wr w.heap.size) := by
          intro w1 hb1
          have he : (((numBytes rs[j].length).length : Int) + (rs[j].length : Int)) = ((encR rs[j]).length : Int) := by rw [encR_length]; omega
          rw [he]
          refine (shorter_any b' (encR rs[j]).length R w1 (by rw [encR_length]; omega) hok Hn.out.1 Hn.out.2).mono ?_
          rintro e w2 ⟨rfl, hb2⟩
          have hb12 : Below wr.heap.size wr w2 := hb1.trans (hb2.mono hb1.size)
          have hc2 : Cells w2 w.heap.size 62 (bdL b') := hbox.move (hb12.block _ hbox.lt)
          refine ⟨rfl, hc2, ?_⟩
          rintro W rfl
          have hcW := four_set hc2 rfl (shorterB b' (encR rs[j]).length R)
          have hkW : Kept (fun x => x ≠ w.heap.size) w2 ((((w2.setCell ⟨w.heap.size, 0, none⟩ (.int .u64 ((shorterB b' (encR rs[j]).length R).first : Int))).setCell ⟨w.heap.size, 1, none⟩ (.int .u64 ((shorterB b' (encR rs[j]).length R).next : Int))).setCell ⟨w.heap.size, 2, none⟩ (.int .i64 ((shorterB b' (encR rs[j]).length R).at_ : Int))).setCell ⟨w.heap.size, 3, none⟩ (.int .i64 ((shorterB b' (encR rs[j]).length R).used : Int))) := ((((Kept.refl _ w2).setCell (fun h => h rfl) _).setCell (fun h => h rfl) _).setCell (fun h => h rfl) _).setCell (fun h => h rfl) _
          have hk2 : Kept (fun _ => True) w w2 := hst.out.kept.below hb12
          refine ⟨hst.out.step hj hpj ⟨hkW.os.trans hk2.os, hkW.tape.trans hk2.tape, hkW.output.trans hk2.output, Nat.le_trans hk2.size hkW.size, fun x hx _ => (hkW.block x (Nat.lt_of_lt_of_le hx hk2.size) (by omega)).trans (hk2.block x hx trivial)⟩ (by rw [← Hb'.out]; exact hcW) ((hkW.block _ (Nat.lt_of_lt_of_le hout.lt hb12.size) (by omega)).trans (hb12.block _ hout.lt)), ?_⟩
          have z1 := (BoxAt.four (b := shorterB b' (encR rs[j]).length R) hcW).1
          have z2 := (BoxAt.four (b := b') hbox).1
          unfold boxFirst
          rw [z1, z2]
          have z3 := hst.out.next
          rw [← Hb'.out] at z3
          show b.next - ((shorterB b' (encR rs[j]).length R).first : Int).toNat < b.next - (b'.first : Int).toNat
          show b.next - ((b'.first + 1 : Nat) : Int).toNat < _
          omega
        have hr3 : ((numBytes rs[j].length).length : Int) + (rs[j].length : Int) ≤ 67108864 := by have := hok.used; omega
        have hat : (b'.at_ : Int) ≤ 67108864 := by have := hok.at_; omega
        clear hle hcnt r1 r2 r3 hinr2 hinr hok hfst hout hN hst hpj hpu hbox
        generalize hnl : (numBytes rs[j].length).length = nl at *
        generalize hrl : rs[j].length = rl at *
        generalize shorterB b' (encR rs[j]).length R = b2 at *
        clear hnl hrl
        go_wp2_with fail
        refine Hfr1.out.mono ?_
        rintro e w1 ⟨rfl, hb1⟩
        obtain ⟨hbx1, hlc1, hk1⟩ := Hnx.out w1 hb1
        obtain ⟨d0, d1, d2, d3⟩ := BoxAt.four hbx1
        have l1 := hlc1.cell1
        have Hsh1 := Lib.hid (Hsh.out w1.drew hb1.drew)
        clear hb1 hbx1 hlc1 hk1 c0 c1 c2 c3
        go_wp2_with fail
        refine (pass_any _ _ _ _).mono ?_
        rintro e w2 ⟨rfl, rfl⟩
        go_wp2_with fail
        refine wp_region_still_tail 8 (by kernel_rfl) (by kernel_rfl) ?_
        simp only [List.take_succ_cons, List.take_zero, List.drop_succ_cons, List.drop_zero]
        repeat still_step
        refine wpStill_nil ?_
        change wpList _ _ _ _ _ w1.drew
        clear d0 d1 d2 d3 l1
        go_wp2_with fail
        refine Hsh1.out.mono ?_
        rintro e w2 ⟨rfl, hc2, hW⟩
        have y0 := hc2.cell (i := 0) rfl
        have y1 := hc2.cell (i := 1) rfl
        have y2 := hc2.cell (i := 2) rfl
        have y3 := hc2.cell (i := 3) rfl
        have z0 := hc2.frozen 0
        have z1 := hc2.frozen 1
        have z2 := hc2.frozen 2
        have z3 := hc2.frozen 3
        have HW := Lib.hid hW
        clear hW hc2 Hsh Hsh1 Hnx Hfr1
        go_wp2_with fail
        go_roundw
        case rel => exact ⟨j + 1, (HW.out _ rfl).1⟩
        case measure => exact (HW.out _ rfl).2
      · have hpu' : (up : Int) < (b'.first : Int) := by omega
        have hub : b'.used ≤ 67108864 := hok.used
        have Hend : Hid (∀ W, W = (((wr.setCell ⟨w.heap.size + 1, 0, none⟩ (.int .u64 (b'.first : Int))).setCell ⟨w.heap.size + 1, 1, none⟩ (.int .u64 (b'.next : Int))).setCell ⟨w.heap.size + 1, 2, none⟩ (.int .i64 (b'.at_ : Int))).setCell ⟨w.heap.size + 1, 3, none⟩ (.int .i64 (b'.used : Int)) → Cells W (w.heap.size + 1) 62 (bdL b') ∧ ∃ j, j ≤ rs.length ∧ (j = rs.length ∨ up < b.first + j) ∧ (∀ i, i < j → b.first + i ≤ up) ∧ Ending.returned (.tuple #[bdV b', .nilIface]) = .returned (.tuple #[bdV (advB b R (rs.take j)), .nilIface]) ∧ InRing D.mem R (advB b R (rs.take j)) (rs.drop j) ∧ Below w.heap.size w W) := by
          rintro W rfl
          have hbl : Below w.heap.size w wr := hst.out.kept.to_below (fun _ _ => trivial) (Nat.le_refl _)
          exact ⟨four_set hout rfl b', j, hst.out.le, .inr (by omega), hst.out.upto, by rw [← Hb'.out], by rw [← Hb'.out]; exact hinr, (((hbl.setCell (by show w.heap.size ≤ w.heap.size + 1; omega) _).setCell (by show w.heap.size ≤ w.heap.size + 1; omega) _).setCell (by show w.heap.size ≤ w.heap.size + 1; omega) _).setCell (by show w.heap.size ≤ w.heap.size + 1; omega) _⟩
        have g0 := hout.cell (i := 0) rfl
        have g1 := hout.cell (i := 1) rfl
        have g2 := hout.cell (i := 2) rfl
        have g3 := hout.cell (i := 3) rfl
        have f0 := hout.frozen 0
        have f1 := hout.frozen 1
        have f2 := hout.frozen 2
        have f3 := hout.frozen 3
        clear hle hcnt hinr hok hfst hout hst hpu hbox
        go_wp2_with fail
        obtain ⟨W, hW⟩ : ∃ W, W = (((wr.setCell ⟨w.heap.size + 1, 0, none⟩ (.int .u64 (b'.first : Int))).setCell ⟨w.heap.size + 1, 1, none⟩ (.int .u64 (b'.next : Int))).setCell ⟨w.heap.size + 1, 2, none⟩ (.int .i64 (b'.at_ : Int))).setCell ⟨w.heap.size + 1, 3, none⟩ (.int .i64 (b'.used : Int)) := ⟨_, rfl⟩
        rw [← hW]
        obtain ⟨t3, t4⟩ := Hend.out W hW
        obtain ⟨q0, q1, q2, q3⟩ := BoxAt.four (b := b') t3
        simp only [Exit.noGoto_ret]
        change bodyPost _ _ _ Exit.ret _ _
        exact bodyPost_ret (v := .tuple #[bdV b', .nilIface]) (by simp [results, Tryd.results24, go_sem, q0, q1, q2, q3, bdV]) rfl t4
    · have hfe : ((b'.first : Int) == (b'.next : Int)) = true := by simp; omega
      have hu0 : b'.used = 0 := by
        have := hinr.used_eq
        rw [List.drop_eq_nil_of_le (by omega)] at this
        exact this
      have hu1 : (b'.used : Int) ≤ 0 := by omega
      have hje : j = rs.length := by omega
      have hub : b'.used ≤ 67108864 := hok.used
      have Hend : Hid (∀ W, W = (((wr.setCell ⟨w.heap.size + 1, 0, none⟩ (.int .u64 (b'.first : Int))).setCell ⟨w.heap.size + 1, 1, none⟩ (.int .u64 (b'.next : Int))).setCell ⟨w.heap.size + 1, 2, none⟩ (.int .i64 (b'.at_ : Int))).setCell ⟨w.heap.size + 1, 3, none⟩ (.int .i64 (b'.used : Int)) → Cells W (w.heap.size + 1) 62 (bdL b') ∧ ∃ j, j ≤ rs.length ∧ (j = rs.length ∨ up < b.first + j) ∧ (∀ i, i < j → b.first + i ≤ up) ∧ Ending.returned (.tuple #[bdV b', .nilIface]) = .returned (.tuple #[bdV (advB b R (rs.take j)), .nilIface]) ∧ InRing D.mem R (advB b R (rs.take j)) (rs.drop j) ∧ Below w.heap.size w W) := by
        rintro W rfl
        have hbl : Below w.heap.size w wr := hst.out.kept.to_below (fun _ _ => trivial) (Nat.le_refl _)
        exact ⟨four_set hout rfl b', j, hst.out.le, .inl hje, hst.out.upto, by rw [← Hb'.out], by rw [← Hb'.out]; exact hinr, (((hbl.setCell (by show w.heap.size ≤ w.heap.size + 1; omega) _).setCell (by show w.heap.size ≤ w.heap.size + 1; omega) _).setCell (by show w.heap.size ≤ w.heap.size + 1; omega) _).setCell (by show w.heap.size ≤ w.heap.size + 1; omega) _⟩
      have g0 := hout.cell (i := 0) rfl
      have g1 := hout.cell (i := 1) rfl
      have g2 := hout.cell (i := 2) rfl
      have g3 := hout.cell (i := 3) rfl
      have f0 := hout.frozen 0
      have f1 := hout.frozen 1
      have f2 := hout.frozen 2
      have f3 := hout.frozen 3
      clear hle hcnt hinr hok hfst hout hst hbox hje hj hu0
      go_wp2_with fail
      obtain ⟨W, hW⟩ : ∃ W, W = (((wr.setCell ⟨w.heap.size + 1, 0, none⟩ (.int .u64 (b'.first : Int))).setCell ⟨w.heap.size + 1, 1, none⟩ (.int .u64 (b'.next : Int))).setCell ⟨w.heap.size + 1, 2, none⟩ (.int .i64 (b'.at_ : Int))).setCell ⟨w.heap.size + 1, 3, none⟩ (.int .i64 (b'.used : Int)) := ⟨_, rfl⟩
      rw [← hW]
      obtain ⟨t3, t4⟩ := Hend.out W hW
      obtain ⟨q0, q1, q2, q3⟩ := BoxAt.four (b := b') t3
      simp only [Exit.noGoto_ret]
      change bodyPost _ _ _ Exit.ret _ _
      exact bodyPost_ret (v := .tuple #[bdV b', .nilIface]) (by simp [results, Tryd.results24, go_sem, q0, q1, q2, q3, bdV]) rfl t4
end
end Go.Proofs.YtkjogkmdldplgaaDoor
