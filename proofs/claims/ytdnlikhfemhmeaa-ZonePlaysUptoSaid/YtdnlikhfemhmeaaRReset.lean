/-
  The second saying's Reset.
-/
import Derived.Test.YtdnlikhfemhmeaaRTell
import Derived.Test.YtdnlikhfemhmeaaZReset
namespace Go.Proofs.Ytdnlikhfemhmeaa
open Go.RowKit

/-- one pile of the second saying's has another row and another number, no page of its own made -/
theorem RDrvAt.blank {w : World} {O : Nat → Option Tag} {i pw d g z : Nat} {cs : List Value} {D : Drv}
    (h1 : Cells w d 75 [.pointer (some ⟨pw, 0, none⟩), .int .i64 (D.cap : Int), .int .i64 (D.size : Int), .slice (some ⟨g, 0, none⟩) D.piles.length D.piles.length, .bool D.lost]) (h2 : O d = some (.drv i))
    (h3 : Cells w g 93 cs) (h4 : O g = some (.piles i)) (h5 : cs.length = D.piles.length * 2) (h6 : ∀ (z : Nat) p, D.piles[z]? = some p → PileAt w O i z cs p) (hz : z < D.piles.length) :
    RDrvAt ((w.setCell ⟨g, z * 2, none⟩ (.slice none 0 0)).setCell ⟨g, z * 2 + 1, none⟩ (.int .i64 0)) O i pw d (D.reset z) ∧ Kept (fun x => O x ≠ some (.piles i)) w ((w.setCell ⟨g, z * 2, none⟩ (.slice none 0 0)).setCell ⟨g, z * 2 + 1, none⟩ (.int .i64 0)) := by
  have hk : Kept (fun x => O x ≠ some (.piles i)) w ((w.setCell ⟨g, z * 2, none⟩ (.slice none 0 0)).setCell ⟨g, z * 2 + 1, none⟩ (.int .i64 0)) := ((Kept.refl _ w).setCell (fun h => h h4) _).setCell (fun h => h h4) _
  have hag : Agree (fun t => t ≠ .piles i) w O ((w.setCell ⟨g, z * 2, none⟩ (.slice none 0 0)).setCell ⟨g, z * 2 + 1, none⟩ (.int .i64 0)) O := hk.agree fun b t hb ht e => ht (by rw [hb] at e; cases e; rfl)
  refine ⟨⟨g, (cs.set (z * 2) (.slice none 0 0)).set (z * 2 + 1) (.int .i64 0), ?_, h2, (h3.set _ _).set _ _, h4, ?_, fun z' p' hz' => ?_⟩, hk⟩
  · simp only [Drv.reset, List.length_set]
    exact h1.move (hk.block d h1.lt (by rw [h2]; intro e; cases e))
  · simp only [Drv.reset, List.length_set]
    exact h5
  · simp only [Drv.reset] at hz'
    by_cases e : z' = z
    · subst e
      rw [List.getElem?_set_self hz] at hz'
      cases hz'
      exact ⟨.slice none 0 0, by rw [List.getElem?_set_ne (by omega), List.getElem?_set_self (by omega)], by rw [List.getElem?_set_self (by simp; omega)]; rfl, [], OwnV.nil _ _ _, (fun g hg => by cases hg), rfl, fun k l hl => by simp at hl⟩
    · rw [List.getElem?_set_ne (fun h => e h.symm)] at hz'
      obtain ⟨v, a0, a1, a2⟩ := h6 z' p' hz'
      exact ⟨v, by rw [List.getElem?_set_ne (by omega), List.getElem?_set_ne (by omega)]; exact a0, by rw [List.getElem?_set_ne (by omega), List.getElem?_set_ne (by omega)]; exact a1, a2.keep hag (by intro e; cases e) (fun k => by intro e; cases e)⟩

set_option maxRecDepth 20000 in
set_option maxHeartbeats 1000000 in
theorem rreset_any (pw i d : Nat) (P : Pow) (ds : List (Nat × Drv)) (D : Drv) (O : Nat → Option Tag) (z : Int) (w : World) (h : RSysAt w O pw P ds) (hi : ds[i]? = some (d, D))
    (hn : ds.length ≤ 1048576) (hw : P.writes ≤ 1099511627776) (hl : P.left ≤ 9223372036854775807) :
    Calls Try.prog 28 #[.pointer (some ⟨d, 0, none⟩), .int .i64 z] w (RSysPost w O pw (rsP P D z) (rsD P ds i d D z) (.int .i64 (rsCode P D z : Nat))) := by
  obtain ⟨g, cs, h1, h2, h3, h4, h5, h6⟩ := (h.drv i d D hi).1
  obtain ⟨dv, Ap, np, cp, hp1, hp2, hp3⟩ := h.pow
  have c0 := h1.cell (i := 0) rfl
  have cs1 := h1.cell (i := 3) rfl
  have c4 := h1.cell (i := 4) rfl
  have cp1 := hp1.cell (i := 0) rfl
  have Hf := Lib.hid (up_any pw d P.off D.lost w c0 cp1 c4)
  have stay : ∀ c, ptrCode P D z = c → c ≠ 0 → RSysPost w O pw (rsP P D z) (rsD P ds i d D z) (.int .i64 (rsCode P D z : Nat)) = RSysPost w O pw P ds (.int .i64 (c : Int)) ∧ RSysPost w O pw P ds (.int .i64 (c : Int)) (.returned (.int .i64 (c : Int))) w := by
    intro c hc hne
    have e1 : rsP P D z = P := by unfold rsP; rw [if_pos (by rw [hc]; exact hne)]
    have e2 : rsD P ds i d D z = ds := by unfold rsD; rw [if_pos (by rw [hc]; exact hne)]
    have e3 : rsCode P D z = c := by unfold rsCode; rw [if_pos (by rw [hc]; exact hne), hc]
    exact ⟨by rw [e1, e2, e3], O, rfl, h, Ext.refl _ _⟩
  by_cases hrd : readyCode P.off D.lost = 0
  case neg =>
    obtain ⟨hs1, hs2⟩ := stay (readyCode P.off D.lost) (by unfold ptrCode; rw [if_pos hrd]) hrd
    rw [hs1]
    have Hs := Lib.hid hs2
    have hne : (((readyCode P.off D.lost : Nat) : Int) != 0) = true := by simp; exact hrd
    generalize readyCode P.off D.lost = r at *
    clear hs1 hs2 stay hrd h1 h2 h3 h4 h5 h6 hp1 hp2 hp3 c0 cs1 c4 cp1 h hi
    go_enter Try.func28, Try.ntmps28
    go_wp2_with (go_at_call 42; refine Hf.out.mono ?_; rintro e w1 ⟨rfl, rfl⟩)
    go_ret
    exact Hs.out
  rw [hrd] at Hf
  have Hf2 : Hid (Calls Try.prog 42 #[.pointer (some ⟨d, 0, none⟩)] w fun e w' => e = .returned (.int .i64 0) ∧ w = w') := Hf.out
  have Hh := Lib.hid (is_any d g D.piles.length z w cs1)
  by_cases hz : 0 ≤ z ∧ z < (D.piles.length : Int)
  case neg =>
    rw [show decide (0 ≤ z ∧ z < (D.piles.length : Int)) = false from decide_eq_false hz] at Hh
    obtain ⟨hs1, hs2⟩ := stay 1 (by unfold ptrCode; rw [if_neg (by simp [hrd]), if_pos hz]) (by decide)
    rw [hs1]
    have Hs : Hid (RSysPost w O pw P ds (.int .i64 1) (.returned (.int .i64 1)) w) := hs2
    have Hg : Hid (RSysPost w O pw P ds (.int .i64 ((1 : Nat) : Int)) = RSysPost w O pw P ds (.int .i64 1)) := rfl
    rw [Hg.out]
    clear Hg hs1 hs2 stay hrd h1 h2 h3 h4 h5 h6 hp1 hp2 hp3 c0 cs1 c4 cp1 h hi hz Hf
    go_enter Try.func28, Try.ntmps28
    go_wp2_with (first | (go_at_call 42; refine Hf2.out.mono ?_; rintro e w1 ⟨rfl, rfl⟩) | (go_at_call 43; refine Hh.out.mono ?_; rintro e w1 ⟨rfl, rfl⟩))
    go_ret
    exact Hs.out
  rw [show decide (0 ≤ z ∧ z < (D.piles.length : Int)) = true from decide_eq_true hz] at Hh
  obtain ⟨zn, rfl⟩ : ∃ zn : Nat, z = (zn : Int) := ⟨z.toNat, by omega⟩
  have hzn : zn < D.piles.length := by omega
  have hzi : (zn : Int) < (D.piles.length : Int) := by omega
  have hcode : ptrCode P D (zn : Int) = 0 := by unfold ptrCode; rw [if_neg (by simp [hrd]), if_neg (by intro hh; exact hh hz)]
  have eP : rsP P D (zn : Int) = writeP P := by unfold rsP; rw [hcode]; rfl
  have eD : rsD P ds i d D (zn : Int) = if writeOk P then ds.set i (d, D.reset zn) else writeD P ds := by unfold rsD; rw [hcode]; rfl
  have eC : rsCode P D (zn : Int) = if writeOk P then 0 else 8 := by unfold rsCode; rw [hcode]; rfl
  rw [eP, eD, eC]
  clear eP eD eC stay
  have Hw := Lib.hid (rdwrite_any pw i d P ds D O w h hi hn hw hl)
  by_cases hok2 : writeOk P = true
  case neg =>
    have hok3 : writeOk P = false := by simpa using hok2
    rw [hok3] at Hw ⊢
    have Hw2 : Hid (Calls Try.prog 51 #[.pointer (some ⟨d, 0, none⟩)] w fun e w' => e = .returned (.int .i64 8) ∧ RWritePost w O pw P ds w') := Hw.out
    have Hg : Hid (RSysPost w O pw (writeP P) (if false = true then ds.set i (d, D.reset zn) else writeD P ds) (.int .i64 ((if false = true then 0 else 8 : Nat) : Int)) = RSysPost w O pw (writeP P) (writeD P ds) (.int .i64 8)) := rfl
    rw [Hg.out]
    clear Hg hrd h1 h2 h3 h4 h5 h6 hp1 hp2 hp3 cp1 h hi hok2 hok3 c4 Hf Hw
    go_enter Try.func28, Try.ntmps28
    go_wp2_with (first
      | (go_at_call 42; refine Hf2.out.mono ?_; rintro e w1 ⟨rfl, rfl⟩) | (go_at_call 43; refine Hh.out.mono ?_; rintro e w1 ⟨rfl, rfl⟩)
      | (go_at_call 51; refine Hw2.out.mono ?_; rintro e w2 ⟨rfl, O2, hsys, hext, _⟩; have Hs2 : Hid (RSysPost w O pw (writeP P) (writeD P ds) (.int .i64 8) (.returned (.int .i64 8)) w2) := ⟨O2, rfl, hsys, hext⟩; clear hsys hext))
    go_ret
    exact Hs2.out
  have Hok2 := Lib.hid hok2
  rw [hok2] at Hw ⊢
  rw [writeD_ok hok2]
  have Hw2 : Hid (Calls Try.prog 51 #[.pointer (some ⟨d, 0, none⟩)] w fun e w' => e = .returned (.int .i64 0) ∧ RWritePost w O pw P ds w') := Hw.out
  have Hg : Hid (RSysPost w O pw (writeP P) (if true = true then ds.set i (d, D.reset zn) else ds) (.int .i64 ((if true = true then 0 else 8 : Nat) : Int)) = RSysPost w O pw (writeP P) (ds.set i (d, D.reset zn)) (.int .i64 0)) := rfl
  rw [Hg.out]
  obtain ⟨p, hzp⟩ : ∃ p, D.piles[zn]? = some p := ⟨_, List.getElem?_eq_getElem hzn⟩
  have Hst : Hid (∀ w2, RWritePost w O pw P ds w2 → w2.cell? ⟨d, 3, none⟩ = some (.slice (some ⟨g, 0, none⟩) D.piles.length D.piles.length) ∧
      (∃ v, w2.cell? ⟨g, zn * 2, none⟩ = some v) ∧ (∃ v, w2.cell? ⟨g, zn * 2 + 1, none⟩ = some v) ∧ w2.frozen? ⟨g, zn * 2, none⟩ = false ∧ w2.frozen? ⟨g, zn * 2 + 1, none⟩ = false ∧
      RSysPost w O pw (writeP P) (ds.set i (d, D.reset zn)) (.int .i64 0) (.returned (.int .i64 0)) ((w2.setCell ⟨g, zn * 2, none⟩ (.slice none 0 0)).setCell ⟨g, zn * 2 + 1, none⟩ (.int .i64 0))) := by
    rintro w2 ⟨O2, q1, q2, q3⟩
    obtain ⟨rfl, k3⟩ := q3 Hok2.out
    rw [writeD_ok Hok2.out] at q1
    have ht : ∀ b t, O2 b = some t → t ≠ .pw → b ≠ pw := fun b t hb n e => n (by rw [e, hp2] at hb; cases hb; rfl)
    have hag : Agree (fun t => t ≠ .pw) w O2 w2 O2 := fun b t hlt hb ht2 => ⟨k3.block b hlt (ht b t hb ht2), hb⟩
    have r1 := h1.move (k3.block d h1.lt (ht d _ h2 (by intro e; cases e)))
    have r3 := h3.move (k3.block g h3.lt (ht g _ h4 (by intro e; cases e)))
    have r6 : ∀ (z : Nat) p, D.piles[z]? = some p → PileAt w2 O2 i z cs p := fun z' p' hz' => (h6 z' p' hz').keep hag (by intro e; cases e) (fun k => by intro e; cases e)
    obtain ⟨v, e0, e1, _⟩ := h6 zn p hzp
    obtain ⟨d1, d2⟩ := RDrvAt.blank r1 h2 r3 h4 h5 r6 hzn
    obtain ⟨s1, s2⟩ := q1.change (O' := O2) hi d2 (fun b t hb ht e => ht (by rw [hb] at e; cases e; rfl)) (fun b hb e => by rw [hb] at e; cases e) (fun _ _ => rfl) (fun b hb => Nat.lt_of_lt_of_le (q1.fresh b hb) d2.size) d1 ((h.drv i d D hi).2.reset zn)
    exact ⟨r1.cell rfl, ⟨v, r3.cell e0⟩, ⟨_, r3.cell e1⟩, r3.frozen _, r3.frozen _, O2, rfl, s1, q2.trans s2⟩
  generalize ds.set i (d, D.reset zn) = ds2 at *
  generalize D.piles.length = N at *
  clear Hg hrd h1 h2 h3 h4 h5 h6 hp1 hp2 hp3 cp1 h hi hok2 c4 hzp Hf Hw cs1 c0
  go_enter Try.func28, Try.ntmps28
  go_wp2_with (first
    | (go_at_call 42; refine Hf2.out.mono ?_; rintro e w1 ⟨rfl, rfl⟩) | (go_at_call 43; refine Hh.out.mono ?_; rintro e w1 ⟨rfl, rfl⟩)
    | (go_at_call 51; refine Hw2.out.mono ?_; rintro e w2 ⟨rfl, hpost⟩; obtain ⟨hd3, ⟨v0, hv0⟩, ⟨v1, hv1⟩, hfz0, hfz1, hfin⟩ := Hst.out w2 hpost; have Hfin := Lib.hid hfin; clear hpost hfin))
  go_ret
  exact Hfin.out
end Go.Proofs.Ytdnlikhfemhmeaa
