/-
  Bounds are made those that hold.
-/
import Derived.Test.YtkjogkmdldplgaaDoorKLgTurn
namespace Go.Proofs.YtkjogkmdldplgaaDoor
open Go.RowKit

/-- the box of the bounds to come -/
def BoxAt (w : World) (g : Nat) (b : Bd) : Prop := Cells w g 62 (bdL b)
theorem BoxAt.four {w : World} {g : Nat} {b : Bd} (h : BoxAt w g b) : w.cell? ⟨g, 0, none⟩ = some (.int .u64 (b.first : Int)) ∧ w.cell? ⟨g, 1, none⟩ = some (.int .u64 (b.next : Int)) ∧ w.cell? ⟨g, 2, none⟩ = some (.int .i64 (b.at_ : Int)) ∧ w.cell? ⟨g, 3, none⟩ = some (.int .i64 (b.used : Int)) :=
  ⟨h.cell rfl, h.cell rfl, h.cell rfl, h.cell rfl⟩
def LogK (w : World) (lb nv R : Nat) (b : Bd) : Prop := Cells w lb 77 [.pointer (some ⟨nv, 0, none⟩), .int .i64 (R : Int), .int .u64 (b.first : Int), .int .u64 (b.next : Int), .int .i64 (b.at_ : Int), .int .i64 (b.used : Int)]
theorem LogK.logC {w : World} {lb nv R : Nat} {b : Bd} (h : LogK w lb nv R b) : LogC w lb nv R := ⟨_, _, _, _, h⟩
def SetPost (w : World) (O : Nat → Option Tag) (pw nv lb R n : Nat) (m : List UInt8) (b : Bd) (e : Ending) (w' : World) : Prop :=
  e = .returned .nilIface ∧ ∃ O', SysAt w' O' pw (Pk n) nv ⟨m, [], 0⟩ ∧ ExtL lb w O w' O' ∧ LogK w' lb nv R b

section
set_option maxRecDepth 20000
set_option maxHeartbeats 4000000
theorem settle_log (pw nv lb R n t : Nat) (D : Dev) (O : Nat → Option Tag) (b : Bd) (w : World) (h : SysAt w O pw (Pk n) nv D) (hl : LogC w lb nv R) (hlo : O lb = none) (ht : t = 0 ∨ t = 1 ∨ t = 2) (hb0 : byteAt D.mem 0 = UInt8.ofNat t) (hb : BdOk b) (hm : 256 ≤ D.mem.length) (hp : D.pending ≤ 1000000000) (hn : n ≤ 1000000) :
    Calls Tryd.prog 20 #[.pointer (some ⟨lb, 0, none⟩), bdV b] w (SetPost w O pw nv lb R (n + 4) (settled D.mem t b) b) := by
  obtain ⟨w0, hw0⟩ : ∃ w0, w0 = w.alloc (.cells #[.int .u64 (b.first : Int), .int .u64 (b.next : Int), .int .i64 (b.at_ : Int), .int .i64 (b.used : Int)] 62) := ⟨_, rfl⟩
  have hbox : BoxAt w0 w.heap.size b := by rw [hw0]; exact Cells.new w #[.int .u64 (b.first : Int), .int .u64 (b.next : Int), .int .i64 (b.at_ : Int), .int .i64 (b.used : Int)] _
  have hbl0 : Below w.heap.size w w0 := by rw [hw0]; exact (Below.refl _ w).alloc (Nat.le_refl _) _
  have h0 := h.below hbl0
  have hl0 := hl.move (hbl0.block lb hl.lt)
  have hgo : O w.heap.size = none := h.free (Nat.le_refl _)
  have hsl := slotL_length b (by have := hb.first; have := hb.next; omega) hb.next hb.at_ hb.used
  have h2 := Nat.mod_lt t (show 0 < 2 by omega)
  have Ht : Hid (Calls Tryd.prog 38 #[.pointer (some ⟨lb, 0, none⟩)] w0 fun e w' => ∃ ev, e = .returned (.tuple #[.int .u8 (t : Int), ev]) ∧ Below w0.heap.size w0 w' ∧ ((t ≠ 0 ∧ ev = .nilIface) ∨ (t = 0 ∧ ∃ fp, ev = faultV fp ∧ FaultAt w' fp 24))) := by
    by_cases t0 : t = 0
    · subst t0
      exact (turn_new pw nv lb _ D O w0 h0 rfl hl0.cell0 hb0).mono fun e w' ⟨fp, he, hf, hbl⟩ => ⟨_, he, hbl, .inr ⟨rfl, fp, rfl, hf⟩⟩
    · exact (turn_any pw nv lb _ D O t w0 h0 rfl hl0.cell0 (by omega) hb0).mono fun e w' ⟨he, hbl⟩ => ⟨_, he, hbl, .inl ⟨t0, rfl⟩⟩
  have Hp : Hid (∀ W : World, Calls Tryd.prog 41 #[.int .u8 ((t % 2 + 1 : Nat) : Int)] W fun e w' => e = .returned (.int .i64 ((1 + 28 * (t % 2) : Nat) : Int)) ∧ w' = W) := fun W => by
    have := place_any (t % 2 + 1) (by omega) W
    exact this.mono fun _ _ ⟨a, b⟩ => ⟨a, b.symm⟩
  have Hsl : Hid (∀ W, Below w0.heap.size w0 W → BoxAt W w.heap.size b ∧ Calls Tryd.prog 42 #[bdV b] W fun e w' => ∃ A c, e = .returned (.slice A (slotL b).length c) ∧ Below w0.heap.size w0 w' ∧ BoxAt w' w.heap.size b ∧
      Calls Tryd.prog 40 #[.pointer (some ⟨lb, 0, none⟩), .int .i64 ((1 + 28 * (t % 2) : Nat) : Int), .slice A (slotL b).length c] w' fun e w2 => e = .returned .nilIface ∧ ∃ O2, SysAt w2 O2 pw (Pk (n + 2)) nv ⟨splat D.mem (1 + 28 * (t % 2)) (slotL b), [], 0⟩ ∧ Ext w0 O w2 O2) := by
    intro W hW
    have hlt : w.heap.size < w0.heap.size := hbox.lt
    refine ⟨hbox.move (hW.block _ hlt), (slot_any b W hb).mono ?_⟩
    rintro e w' ⟨v, rfl, ho, hbl⟩
    obtain ⟨A, c, rfl, hc, hr, hA⟩ := ho.rb
    have hbl2 := hW.trans (hbl.mono hW.size)
    have hs' := h0.below hbl2
    refine ⟨A, c, rfl, hbl2, hbox.move (hbl2.block _ hlt), (lpersist_any pw nv lb R n (1 + 28 * (t % 2)) D O A c (slotL b) w' hs' (hl0.move (hbl2.block lb hl0.lt)) hlo hr ?_ (by omega) hp (by omega)).mono ?_⟩
    · intro _ ad he
      have := ho.lt ad.block (by rw [he]; rfl)
      exact h0.free (Nat.le_trans hW.size this.1)
    · rintro e w2 ⟨he, O2, s1, s2⟩
      exact ⟨he, O2, s1, (Below.ext hbl2).trans s2⟩
  have Hfin : Hid (∀ w2 O2, SysAt w2 O2 pw (Pk (n + 2)) nv ⟨splat D.mem (1 + 28 * (t % 2)) (slotL b), [], 0⟩ → Ext w0 O w2 O2 →
      Calls Tryd.prog 40 #[.pointer (some ⟨lb, 0, none⟩), .int .i64 0, .slice (some ⟨w2.heap.size, 0, none⟩) 1 1] (w2.alloc (.cells #[.int .u8 ((t % 2 + 1 : Nat) : Int)] 5)) fun e w3 => e = .returned .nilIface ∧ BoxAt w3 w.heap.size b ∧ (∃ v1 v2 v3 v4, Cells w3 lb 77 [.pointer (some ⟨nv, 0, none⟩), .int .i64 (R : Int), v1, v2, v3, v4]) ∧
        ∀ w4, w4 = (((w3.setCell ⟨lb, 2, none⟩ (.int .u64 (b.first : Int))).setCell ⟨lb, 3, none⟩ (.int .u64 (b.next : Int))).setCell ⟨lb, 4, none⟩ (.int .i64 (b.at_ : Int))).setCell ⟨lb, 5, none⟩ (.int .i64 (b.used : Int)) → SetPost w O pw nv lb R (n + 4) (settled D.mem t b) b (.returned .nilIface) w4) := by
    intro w2 O2 s1 s2
    have hlen : (splat D.mem (1 + 28 * (t % 2)) (slotL b)).length = D.mem.length := splat_length _ _ _ (by omega)
    have hk : Below w2.heap.size w2 (w2.alloc (.cells #[.int .u8 ((t % 2 + 1 : Nat) : Int)] 5)) := (Below.refl _ w2).alloc (Nat.le_refl _) _
    have hr : RB (w2.alloc (.cells #[.int .u8 ((t % 2 + 1 : Nat) : Int)] 5)) (w2.alloc (.cells #[.int .u8 ((t % 2 + 1 : Nat) : Int)] 5)).heap.size (some ⟨w2.heap.size, 0, none⟩) [UInt8.ofNat (t % 2 + 1)] := by
      have := RB.new w2 #[.int .u8 ((t % 2 + 1 : Nat) : Int)] 5 [UInt8.ofNat (t % 2 + 1)] (by
        have e : ((UInt8.ofNat (t % 2 + 1)).toNat : Int) = ((t % 2 + 1 : Nat) : Int) := by rw [UInt8.toNat_ofNat']; omega
        show [Value.int .u8 ((t % 2 + 1 : Nat) : Int)] = [Value.int .u8 ((UInt8.ofNat (t % 2 + 1)).toNat : Int)]
        rw [e])
      exact this.wide (by simp)
    have hl2 : LogC w2 lb nv R := hl0.move (s2.1.block lb hl0.lt hlo)
    have hlo2 : O2 lb = none := (s2.2 lb hl0.lt).trans hlo
    have hl1 : LogC (w2.alloc (.cells #[.int .u8 ((t % 2 + 1 : Nat) : Int)] 5)) lb nv R := hl2.move (hk.block lb hl2.lt)
    refine (lpersist_any pw nv lb R (n + 2) 0 _ O2 (some ⟨w2.heap.size, 0, none⟩) 1 [UInt8.ofNat (t % 2 + 1)] _ (s1.alloc _) hl1 hlo2 hr (fun _ ad e => by cases e; exact s1.free (Nat.le_refl _)) (by show 0 + 1 ≤ (splat _ _ _).length; rw [hlen]; omega) (Nat.zero_le _) (by omega)).mono ?_
    rintro e w3 ⟨he, O3, t1, t2⟩
    have e23 := (Below.ext (O := O2) hk).trans t2
    have e03 := s2.trans e23
    have hlt : w.heap.size < w0.heap.size := hbox.lt
    obtain ⟨v1, v2, v3, v4, hc3⟩ := hl0.move (e03.1.block lb hl0.lt hlo)
    refine ⟨he, hbox.move (e03.1.block _ hlt hgo), ⟨v1, v2, v3, v4, hc3⟩, ?_⟩
    rintro w4 rfl
    have hk4 : Kept (fun x => x ≠ lb) w3 ((((w3.setCell ⟨lb, 2, none⟩ (.int .u64 (b.first : Int))).setCell ⟨lb, 3, none⟩ (.int .u64 (b.next : Int))).setCell ⟨lb, 4, none⟩ (.int .i64 (b.at_ : Int))).setCell ⟨lb, 5, none⟩ (.int .i64 (b.used : Int))) :=
      ((((Kept.refl _ w3).setCell (fun h => h rfl) _).setCell (fun h => h rfl) _).setCell (fun h => h rfl) _).setCell (fun h => h rfl) _
    have hlo3 : O3 lb = none := (e03.2 lb hl0.lt).trans hlo
    refine ⟨rfl, O3, (t1.kept (hk4.mono fun x _ hx e => hx (e ▸ hlo3))), (((Below.ext hbl0).trans e03).toL).trans ⟨hk4.mono fun x _ hx => hx.2, fun _ _ => rfl⟩, ?_⟩
    exact (((hc3.set 2 (.int .u64 (b.first : Int))).set 3 (.int .u64 (b.next : Int))).set 4 (.int .i64 (b.at_ : Int))).set 5 (.int .i64 (b.used : Int))
  have Hbox : Hid (∀ W, Below w0.heap.size w0 W → BoxAt W w.heap.size b) := fun W hW => (Hsl.out W hW).1
  have Hbox2 : Hid (∀ W O2, Ext w0 O W O2 → BoxAt W w.heap.size b) := fun W O2 hW => hbox.move (hW.1.block _ hbox.lt hgo)
  clear hbox hbl0 h0 hl0 hgo hsl h hl hlo hb0 hb hm hp hn h2
  unfold bdV at Hsl ⊢
  rcases ht with rfl | rfl | rfl
  · go_enter Tryd.func20, Tryd.ntmps20
    go_wp2_with fail
    rw [← hw0]
    clear hw0
    refine Ht.out.mono ?_
    rintro e w1 ⟨ev, rfl, hb1, ⟨hc, _⟩ | ⟨_, fp, rfl, hf⟩⟩
    · exact absurd rfl hc
    have Hb1 := Lib.hid hb1
    have Hf := Lib.hid hf
    clear hb1 hf Ht
    unfold faultV
    have Hf2 : Hid (Calls Tryd.prog 39 #[.iface 63 (.pointer (some ⟨fp, 0, none⟩)), .iface 24 (.int .i64 24)] w1 fun e w' => e = .returned (.bool true) ∧ w1 = w') := is_form fp w1 Hf.out
    go_wp2_with fail
    refine Hf2.out.mono ?_
    rintro e w2 ⟨rfl, rfl⟩
    go_wp2_with fail
    have b1 := (Hbox.out w1 Hb1.out).four
    go_region_held3 (fun W => W.cell? ⟨w.heap.size, 0, none⟩ = some (.int .u64 (b.first : Int)) ∧ W.cell? ⟨w.heap.size, 1, none⟩ = some (.int .u64 (b.next : Int)) ∧ W.cell? ⟨w.heap.size, 2, none⟩ = some (.int .i64 (b.at_ : Int)) ∧ W.cell? ⟨w.heap.size, 3, none⟩ = some (.int .i64 (b.used : Int))) (first | exact b1 | exact b6 | exact b7) (first
      | (go_at_call 41; refine (Hp.out _).mono ?_; rintro e w5 ⟨rfl, rfl⟩)
      | (go_at_call 42; refine (Hsl.out _ (by exact Hb1.out.drew)).2.mono ?_; rintro e w6 ⟨A, c, rfl, hb6, hx6, hp6⟩; have b6 := hx6.four; have Hp6 := Lib.hid hp6; clear hb6 hx6 hp6)
      | (go_at_call 40; refine Hp6.out.mono ?_; rintro e w7 ⟨rfl, O7, s7, x7⟩; have b7 := (Hbox2.out w7 O7 x7).four; have Hf7 := Lib.hid (Hfin.out w7 O7 s7 x7); clear s7 x7))
    all_goals
      clear Hp Hsl Hfin Hbox Hbox2 b1
      go_wp2_with fail
      refine Hf7.out.mono ?_
      rintro e w3 ⟨rfl, hbx, ⟨v1, v2, v3, v4, hc3⟩, hset⟩
      have Hset := Lib.hid hset
      obtain ⟨p0, p1, p2, p3⟩ := hbx.four
      have g2 := hc3.cell (i := 2) rfl
      have g3 := hc3.cell (i := 3) rfl
      have g4 := hc3.cell (i := 4) rfl
      have g5 := hc3.cell (i := 5) rfl
      have f2 := hc3.frozen 2
      have f3 := hc3.frozen 3
      have f4 := hc3.frozen 4
      have f5 := hc3.frozen 5
      clear hset hbx hc3
      go_wp2_with fail
      go_ret
      exact Hset.out _ rfl
  all_goals
    go_enter Tryd.func20, Tryd.ntmps20
    go_wp2_with fail
    rw [← hw0]
    clear hw0
    refine Ht.out.mono ?_
    rintro e w1 ⟨ev, rfl, hb1, ⟨_, rfl⟩ | ⟨hc, _⟩⟩
    case inr => cases hc
    have Hb1 := Lib.hid hb1
    clear hb1 Ht
    go_wp2_with fail
    have b1 := (Hbox.out w1 Hb1.out).four
    go_region_held3 (fun W => W.cell? ⟨w.heap.size, 0, none⟩ = some (.int .u64 (b.first : Int)) ∧ W.cell? ⟨w.heap.size, 1, none⟩ = some (.int .u64 (b.next : Int)) ∧ W.cell? ⟨w.heap.size, 2, none⟩ = some (.int .i64 (b.at_ : Int)) ∧ W.cell? ⟨w.heap.size, 3, none⟩ = some (.int .i64 (b.used : Int))) (first | exact b1 | exact b6 | exact b7) (first
      | (go_at_call 41; refine (Hp.out _).mono ?_; rintro e w5 ⟨rfl, rfl⟩)
      | (go_at_call 42; refine (Hsl.out _ (by exact Hb1.out.drew)).2.mono ?_; rintro e w6 ⟨A, c, rfl, hb6, hx6, hp6⟩; have b6 := hx6.four; have Hp6 := Lib.hid hp6; clear hb6 hx6 hp6)
      | (go_at_call 40; refine Hp6.out.mono ?_; rintro e w7 ⟨rfl, O7, s7, x7⟩; have b7 := (Hbox2.out w7 O7 x7).four; have Hf7 := Lib.hid (Hfin.out w7 O7 s7 x7); clear s7 x7))
    all_goals
      clear Hp Hsl Hfin Hbox Hbox2 b1
      go_wp2_with fail
      refine Hf7.out.mono ?_
      rintro e w3 ⟨rfl, hbx, ⟨v1, v2, v3, v4, hc3⟩, hset⟩
      have Hset := Lib.hid hset
      obtain ⟨p0, p1, p2, p3⟩ := hbx.four
      have g2 := hc3.cell (i := 2) rfl
      have g3 := hc3.cell (i := 3) rfl
      have g4 := hc3.cell (i := 4) rfl
      have g5 := hc3.cell (i := 5) rfl
      have f2 := hc3.frozen 2
      have f3 := hc3.frozen 3
      have f4 := hc3.frozen 4
      have f5 := hc3.frozen 5
      clear hset hbx hc3
      go_wp2_with fail
      go_ret
      exact Hset.out _ rfl
end
end Go.Proofs.YtkjogkmdldplgaaDoor

/-
  Bounds with a record more, without the first one.
-/
namespace Go.Proofs.YtkjogkmdldplgaaDoor
open Go.RowKit

def longerB (b : Bd) (n : Nat) : Bd := ⟨b.first, b.next + 1, b.at_, b.used + n⟩
def shorterB (b : Bd) (n R : Nat) : Bd := ⟨b.first + 1, b.next, (b.at_ + n) % R, b.used - n⟩
/-- four cells of bounds are set -/
theorem four_set {W : World} {g : Nat} {cs : List Value} (h : Cells W g 62 cs) (hl : cs.length = 4) (b : Bd) :
    Cells ((((W.setCell ⟨g, 0, none⟩ (.int .u64 (b.first : Int))).setCell ⟨g, 1, none⟩ (.int .u64 (b.next : Int))).setCell ⟨g, 2, none⟩ (.int .i64 (b.at_ : Int))).setCell ⟨g, 3, none⟩ (.int .i64 (b.used : Int))) g 62 (bdL b) := by
  have := (((h.set 0 (.int .u64 (b.first : Int))).set 1 (.int .u64 (b.next : Int))).set 2 (.int .i64 (b.at_ : Int))).set 3 (.int .i64 (b.used : Int))
  match cs, hl with
  | [a, b, c, d], _ => exact this
section
set_option maxRecDepth 20000
set_option maxHeartbeats 4000000
theorem longer_any (b : Bd) (n : Nat) (w : World) (hn : n ≤ 1000000000) (hb : BdOk b) :
    Calls Tryd.prog 28 #[bdV b, .int .i64 (n : Int)] w fun e w' => e = .returned (bdV (longerB b n)) ∧ Below w.heap.size w w' := by
  have hN := hb.next
  have hU := hb.used
  obtain ⟨w1, hw1⟩ : ∃ w1, w1 = (w.alloc (.cells #[.int .u64 (b.first : Int), .int .u64 (b.next : Int), .int .i64 (b.at_ : Int), .int .i64 (b.used : Int)] 62)).alloc (.cells #[.int .u64 0, .int .u64 0, .int .i64 0, .int .i64 0] 62) := ⟨_, rfl⟩
  have c1 : Cells w1 w.heap.size 62 (bdL b) := by rw [hw1]; exact (Cells.new w #[.int .u64 (b.first : Int), .int .u64 (b.next : Int), .int .i64 (b.at_ : Int), .int .i64 (b.used : Int)] _).alloc _
  have c2 : Cells w1 (w.heap.size + 1) 62 [.int .u64 0, .int .u64 0, .int .i64 0, .int .i64 0] := by
    rw [hw1]
    have := Cells.new (w.alloc (.cells #[.int .u64 (b.first : Int), .int .u64 (b.next : Int), .int .i64 (b.at_ : Int), .int .i64 (b.used : Int)] 62)) #[.int .u64 0, .int .u64 0, .int .i64 0, .int .i64 0] 62
    simp only [World.size_alloc] at this
    exact this
  have hb1 : Below w.heap.size w w1 := by rw [hw1]; exact ((Below.refl _ w).alloc (Nat.le_refl _) _).alloc (by simp) _
  obtain ⟨w2, hw2⟩ : ∃ w2, w2 = (w1.setCell ⟨w.heap.size, 1, none⟩ (.int .u64 ((b.next : Int) + 1))).setCell ⟨w.heap.size, 3, none⟩ (.int .i64 ((b.used : Int) + (n : Int))) := ⟨_, rfl⟩
  have d1 : Cells w2 w.heap.size 62 (bdL (longerB b n)) := by rw [hw2]; exact (c1.set 1 (.int .u64 ((b.next : Int) + 1))).set 3 (.int .i64 ((b.used : Int) + (n : Int)))
  have k2 : Kept (fun x => x ≠ w.heap.size) w1 w2 := by rw [hw2]; exact ((Kept.refl _ w1).setCell (fun h => h rfl) _).setCell (fun h => h rfl) _
  have d2 : Cells w2 (w.heap.size + 1) 62 [.int .u64 0, .int .u64 0, .int .i64 0, .int .i64 0] := c2.move (k2.block _ c2.lt (by omega))
  have hb2 : Below w.heap.size w w2 := by rw [hw2]; exact (hb1.setCell (Nat.le_refl _) _).setCell (Nat.le_refl _) _
  have Hend : Hid (∀ W, W = (((w2.setCell ⟨w.heap.size + 1, 0, none⟩ (.int .u64 ((longerB b n).first : Int))).setCell ⟨w.heap.size + 1, 1, none⟩ (.int .u64 ((longerB b n).next : Int))).setCell ⟨w.heap.size + 1, 2, none⟩ (.int .i64 ((longerB b n).at_ : Int))).setCell ⟨w.heap.size + 1, 3, none⟩ (.int .i64 ((longerB b n).used : Int)) → Below w.heap.size w W ∧ Cells W (w.heap.size + 1) 62 (bdL (longerB b n))) := by
    rintro W rfl
    exact ⟨(((hb2.setCell (by show w.heap.size ≤ w.heap.size + 1; omega) _).setCell (by show w.heap.size ≤ w.heap.size + 1; omega) _).setCell (by show w.heap.size ≤ w.heap.size + 1; omega) _).setCell (by show w.heap.size ≤ w.heap.size + 1; omega) _, four_set d2 rfl _⟩
  have e1 : (w1.setCell ⟨w.heap.size, 1, none⟩ (.int .u64 ((b.next : Int) + 1))).cell? ⟨w.heap.size, 3, none⟩ = some (.int .i64 (b.used : Int)) := (c1.set 1 (.int .u64 ((b.next : Int) + 1))).cell rfl
  have e2 : (w1.setCell ⟨w.heap.size, 1, none⟩ (.int .u64 ((b.next : Int) + 1))).frozen? ⟨w.heap.size, 3, none⟩ = false := (c1.set 1 (.int .u64 ((b.next : Int) + 1))).frozen 3
  have e3 : w1.cell? ⟨w.heap.size, 1, none⟩ = some (.int .u64 (b.next : Int)) := c1.cell rfl
  have e4 := c1.frozen 1
  have hwN : IntKind.u64.wrap ((b.next : Int) + 1) = (b.next : Int) + 1 := by rw [IntKind.wrap_u64]; omega
  have hUi : (b.used : Int) ≤ 67108864 := by omega
  have hni : (n : Int) ≤ 1000000000 := by omega
  have H2 := Lib.hid (And.intro d1 d2)
  clear c1 c2 d1 d2 k2 hb1 hb2 hb hN hU hn
  unfold bdV
  go_enter Tryd.func28, Tryd.ntmps28
  go_upto_region 1 with fail
  rw [← hw1]
  clear hw1
  go_upto_region 3 with fail
  rw [← hw2]
  clear hw2 e1 e2 e3 e4 hwN hUi hni
  obtain ⟨d1, d2⟩ := H2.out
  obtain ⟨p0, p1, p2, p3⟩ := BoxAt.four (b := longerB b n) d1
  have g0 := d2.cell (i := 0) rfl
  have g1 := d2.cell (i := 1) rfl
  have g2 := d2.cell (i := 2) rfl
  have g3 := d2.cell (i := 3) rfl
  have f0 := d2.frozen 0
  have f1 := d2.frozen 1
  have f2 := d2.frozen 2
  have f3 := d2.frozen 3
  clear d1 d2 H2
  go_wp2_with fail
  obtain ⟨W, hW⟩ : ∃ W, W = (((w2.setCell ⟨w.heap.size + 1, 0, none⟩ (.int .u64 ((longerB b n).first : Int))).setCell ⟨w.heap.size + 1, 1, none⟩ (.int .u64 ((longerB b n).next : Int))).setCell ⟨w.heap.size + 1, 2, none⟩ (.int .i64 ((longerB b n).at_ : Int))).setCell ⟨w.heap.size + 1, 3, none⟩ (.int .i64 ((longerB b n).used : Int)) := ⟨_, rfl⟩
  rw [← hW]
  obtain ⟨t1, t3⟩ := Hend.out W hW
  obtain ⟨q0, q1, q2, q3⟩ := BoxAt.four (b := longerB b n) t3
  exact bodyPost_ret (v := bdV (longerB b n)) (by simp [results, Tryd.results28, go_sem, q0, q1, q2, q3, bdV]) rfl ⟨rfl, t1⟩
theorem shorter_r (b : Bd) (n R r0 : Nat) (w : World) (hn : n ≤ b.used) (hb : BdOk b) (hR : R ≤ 67108864) (hR0 : 0 < R) (hf : b.first ≤ 1099511627776) (hr0 : r0 = (b.at_ + n) % R) (b2 : Bd) (hb2' : b2 = ⟨b.first + 1, b.next, r0, b.used - n⟩) :
    Calls Tryd.prog 44 #[bdV b, .int .i64 (n : Int), .int .i64 (R : Int)] w fun e w' => e = .returned (bdV b2) ∧ Below w.heap.size w w' := by
  have hN := hb.next
  have hU := hb.used
  obtain ⟨w1, hw1⟩ : ∃ w1, w1 = (w.alloc (.cells #[.int .u64 (b.first : Int), .int .u64 (b.next : Int), .int .i64 (b.at_ : Int), .int .i64 (b.used : Int)] 62)).alloc (.cells #[.int .u64 0, .int .u64 0, .int .i64 0, .int .i64 0] 62) := ⟨_, rfl⟩
  have c1 : Cells w1 w.heap.size 62 (bdL b) := by rw [hw1]; exact (Cells.new w #[.int .u64 (b.first : Int), .int .u64 (b.next : Int), .int .i64 (b.at_ : Int), .int .i64 (b.used : Int)] _).alloc _
  have c2 : Cells w1 (w.heap.size + 1) 62 [.int .u64 0, .int .u64 0, .int .i64 0, .int .i64 0] := by
    rw [hw1]
    have := Cells.new (w.alloc (.cells #[.int .u64 (b.first : Int), .int .u64 (b.next : Int), .int .i64 (b.at_ : Int), .int .i64 (b.used : Int)] 62)) #[.int .u64 0, .int .u64 0, .int .i64 0, .int .i64 0] 62
    simp only [World.size_alloc] at this
    exact this
  have hb1 : Below w.heap.size w w1 := by rw [hw1]; exact ((Below.refl _ w).alloc (Nat.le_refl _) _).alloc (by simp) _
  obtain ⟨w2, hw2⟩ : ∃ w2, w2 = ((w1.setCell ⟨w.heap.size, 0, none⟩ (.int .u64 ((b.first : Int) + 1))).setCell ⟨w.heap.size, 2, none⟩ (.int .i64 (r0 : Int))).setCell ⟨w.heap.size, 3, none⟩ (.int .i64 ((b.used : Int) - (n : Int))) := ⟨_, rfl⟩
  have d1 : Cells w2 w.heap.size 62 (bdL b2) := by
    rw [hw2, hb2']
    have := ((c1.set 0 (.int .u64 ((b.first : Int) + 1))).set 2 (.int .i64 (r0 : Int))).set 3 (.int .i64 ((b.used : Int) - (n : Int)))
    rw [show (b.used : Int) - (n : Int) = ((b.used - n : Nat) : Int) by omega] at this ⊢
    exact this
  have k2 : Kept (fun x => x ≠ w.heap.size) w1 w2 := by rw [hw2]; exact (((Kept.refl _ w1).setCell (fun h => h rfl) _).setCell (fun h => h rfl) _).setCell (fun h => h rfl) _
  have d2 : Cells w2 (w.heap.size + 1) 62 [.int .u64 0, .int .u64 0, .int .i64 0, .int .i64 0] := c2.move (k2.block _ c2.lt (by omega))
  have hb2 : Below w.heap.size w w2 := by rw [hw2]; exact ((hb1.setCell (Nat.le_refl _) _).setCell (Nat.le_refl _) _).setCell (Nat.le_refl _) _
  have Hend : Hid (∀ W, W = (((w2.setCell ⟨w.heap.size + 1, 0, none⟩ (.int .u64 (b2.first : Int))).setCell ⟨w.heap.size + 1, 1, none⟩ (.int .u64 (b2.next : Int))).setCell ⟨w.heap.size + 1, 2, none⟩ (.int .i64 (b2.at_ : Int))).setCell ⟨w.heap.size + 1, 3, none⟩ (.int .i64 (b2.used : Int)) → Below w.heap.size w W ∧ Cells W (w.heap.size + 1) 62 (bdL b2)) := by
    rintro W rfl
    exact ⟨(((hb2.setCell (by show w.heap.size ≤ w.heap.size + 1; omega) _).setCell (by show w.heap.size ≤ w.heap.size + 1; omega) _).setCell (by show w.heap.size ≤ w.heap.size + 1; omega) _).setCell (by show w.heap.size ≤ w.heap.size + 1; omega) _, four_set d2 rfl _⟩
  have e0 : w1.cell? ⟨w.heap.size, 0, none⟩ = some (.int .u64 (b.first : Int)) := c1.cell rfl
  have e1 : w1.cell? ⟨w.heap.size, 2, none⟩ = some (.int .i64 (b.at_ : Int)) := c1.cell rfl
  have e2 : w1.cell? ⟨w.heap.size, 3, none⟩ = some (.int .i64 (b.used : Int)) := c1.cell rfl
  have e3 := c1.frozen 0
  have e4 := c1.frozen 2
  have e5 := c1.frozen 3
  have hwN : IntKind.u64.wrap ((b.first : Int) + 1) = (b.first : Int) + 1 := by rw [IntKind.wrap_u64]; omega
  have hUi : (b.used : Int) ≤ 67108864 := by omega
  have hni : (n : Int) ≤ (b.used : Int) := by omega
  have hai : (b.at_ : Int) ≤ 67108864 := by have := hb.at_; omega
  have hRi : (R : Int) ≤ 67108864 := by omega
  have hRn : ¬ R = 0 := by omega
  have hre : ((b.at_ : Int) + (n : Int)) % (R : Int) = (r0 : Int) := by rw [hr0]; rfl
  have H2 := Lib.hid (And.intro d1 d2)
  clear c1 c2 d1 d2 k2 hb1 hb2 hb hN hU hn hr0 hR hR0 hf hb2'
  unfold bdV
  go_enter Tryd.func44, Tryd.ntmps44
  go_upto_region 1 with fail
  rw [← hw1]
  clear hw1
  go_upto_region 4 with fail
  rw [← hw2]
  clear hw2 e0 e1 e2 e3 e4 e5 hwN hUi hni hai hRi hRn hre
  obtain ⟨d1, d2⟩ := H2.out
  obtain ⟨p0, p1, p2, p3⟩ := BoxAt.four (b := b2) d1
  have g0 := d2.cell (i := 0) rfl
  have g1 := d2.cell (i := 1) rfl
  have g2 := d2.cell (i := 2) rfl
  have g3 := d2.cell (i := 3) rfl
  have f0 := d2.frozen 0
  have f1 := d2.frozen 1
  have f2 := d2.frozen 2
  have f3 := d2.frozen 3
  clear d1 d2 H2
  go_wp2_with fail
  obtain ⟨W, hW⟩ : ∃ W, W = (((w2.setCell ⟨w.heap.size + 1, 0, none⟩ (.int .u64 (b2.first : Int))).setCell ⟨w.heap.size + 1, 1, none⟩ (.int .u64 (b2.next : Int))).setCell ⟨w.heap.size + 1, 2, none⟩ (.int .i64 (b2.at_ : Int))).setCell ⟨w.heap.size + 1, 3, none⟩ (.int .i64 (b2.used : Int)) := ⟨_, rfl⟩
  rw [← hW]
  obtain ⟨t1, t3⟩ := Hend.out W hW
  obtain ⟨q0, q1, q2, q3⟩ := BoxAt.four (b := b2) t3
  exact bodyPost_ret (v := bdV b2) (by simp [results, Tryd.results44, go_sem, q0, q1, q2, q3, bdV]) rfl ⟨rfl, t1⟩
theorem shorter_any (b : Bd) (n R : Nat) (w : World) (hn : n ≤ b.used) (hb : BdOk b) (hR : R ≤ 67108864) (hR0 : 0 < R) :
    Calls Tryd.prog 44 #[bdV b, .int .i64 (n : Int), .int .i64 (R : Int)] w fun e w' => e = .returned (bdV (shorterB b n R)) ∧ Below w.heap.size w w' :=
  shorter_r b n R ((b.at_ + n) % R) w hn hb hR hR0 (by have := hb.first; have := hb.next; omega) rfl _ rfl
end
end Go.Proofs.YtkjogkmdldplgaaDoor
