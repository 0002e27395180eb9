/-
  Reset: a zone without pages; the shape of a drive.
-/
import Derived.Test.YtdnlikhfemhmeaaZFlush
namespace Go.Proofs.Ytdnlikhfemhmeaa
open Go.RowKit

def Drv.reset (D : Drv) (z : Nat) : Drv := { D with piles := D.piles.set z ⟨[], 0⟩ }
theorem Drv.Ok.reset {D : Drv} (h : D.Ok) (z : Nat) : (D.reset z).Ok := by
  have hmem : ∀ q ∈ D.piles.set z ⟨[], 0⟩, q = ⟨[], 0⟩ ∨ q ∈ D.piles := fun q hq => by
    rcases List.mem_or_eq_of_mem_set hq with h | h
    · exact .inr h
    · exact .inl h
  refine ⟨by simp only [Drv.reset, List.length_set]; exact h.zones, h.cap, h.low, h.high, fun q hq => ?_, fun q hq => ?_, fun q hq l hl => ?_, fun hl q hq => ?_⟩
  · rcases hmem q hq with rfl | hq
    · exact Nat.zero_le _
    · exact h.pages _ hq
  · rcases hmem q hq with rfl | hq
    · exact Nat.le_refl _
    · exact h.firm _ hq
  · rcases hmem q hq with rfl | hq
    · simp at hl
    · exact h.sizes _ hq l hl
  · rcases hmem q hq with rfl | hq
    · rfl
    · exact h.lost hl q hq
theorem DrvAt.blank {w : World} {O : Nat → Option Tag} {i pw d g z : Nat} {cs : List Value} {D : Drv}
    (h1 : Cells w d 71 [.pointer (some ⟨pw, 0, none⟩), .slice (some ⟨g, 0, none⟩) D.piles.length D.piles.length, .int .i64 (D.cap : Int), .int .i64 (D.size : Int), .bool D.lost]) (h2 : O d = some (.drv i))
    (h3 : Cells w g 91 cs) (h4 : O g = some (.piles i)) (h5 : cs.length = D.piles.length * 2) (h6 : ∀ (z : Nat) p, D.piles[z]? = some p → PileAt w O i z cs p) (hz : z < D.piles.length) :
    DrvAt ((w.setCell ⟨g, z * 2, none⟩ (.slice none 0 0)).setCell ⟨g, z * 2 + 1, none⟩ (.int .i64 0)) O i pw d (D.reset z) ∧ Kept (fun x => O x ≠ some (.piles i)) w ((w.setCell ⟨g, z * 2, none⟩ (.slice none 0 0)).setCell ⟨g, z * 2 + 1, none⟩ (.int .i64 0)) := by
  have hk : Kept (fun x => O x ≠ some (.piles i)) w ((w.setCell ⟨g, z * 2, none⟩ (.slice none 0 0)).setCell ⟨g, z * 2 + 1, none⟩ (.int .i64 0)) := ((Kept.refl _ w).setCell (fun h => h h4) _).setCell (fun h => h h4) _
  have hag : Agree (fun t => t ≠ .piles i) w O ((w.setCell ⟨g, z * 2, none⟩ (.slice none 0 0)).setCell ⟨g, z * 2 + 1, none⟩ (.int .i64 0)) O := hk.agree fun b t hb ht e => ht (by rw [hb] at e; cases e; rfl)
  refine ⟨⟨g, (cs.set (z * 2) (.slice none 0 0)).set (z * 2 + 1) (.int .i64 0), ?_, h2, (h3.set _ _).set _ _, h4, ?_, fun z' p' hz' => ?_⟩, hk⟩
  · simp only [Drv.reset, List.length_set]
    exact h1.move (hk.block d h1.lt (by rw [h2]; intro e; cases e))
  · simp only [Drv.reset, List.length_set]
    exact h5
  · simp only [Drv.reset] at hz'
    by_cases e : z' = z
    · subst e
      rw [List.getElem?_set_self hz] at hz'
      cases hz'
      exact ⟨.slice none 0 0, by rw [List.getElem?_set_ne (by omega), List.getElem?_set_self (by omega)], by rw [List.getElem?_set_self (by simp; omega)]; rfl, [], OwnV.nil _ _ _, (fun g hg => by cases hg), rfl, fun k l hl => by simp at hl⟩
    · rw [List.getElem?_set_ne (fun h => e h.symm)] at hz'
      obtain ⟨v, a0, a1, a2⟩ := h6 z' p' hz'
      exact ⟨v, by rw [List.getElem?_set_ne (by omega), List.getElem?_set_ne (by omega)]; exact a0, by rw [List.getElem?_set_ne (by omega), List.getElem?_set_ne (by omega)]; exact a1, a2.keep hag (by intro e; cases e) (fun k => by intro e; cases e)⟩

def rsCode (P : Pow) (D : Drv) (z : Int) : Nat := if ptrCode P D z ≠ 0 then ptrCode P D z else if writeOk P then 0 else 8
def rsP (P : Pow) (D : Drv) (z : Int) : Pow := if ptrCode P D z ≠ 0 then P else writeP P
def rsD (P : Pow) (ds : List (Nat × Drv)) (i d : Nat) (D : Drv) (z : Int) : List (Nat × Drv) := if ptrCode P D z ≠ 0 then ds else if writeOk P then ds.set i (d, D.reset z.toNat) else writeD P ds

set_option maxRecDepth 20000 in
set_option maxHeartbeats 1000000 in
theorem reset_any (pw i d : Nat) (P : Pow) (ds : List (Nat × Drv)) (D : Drv) (O : Nat → Option Tag) (z : Int) (w : World) (h : SysAt w O pw P ds) (hi : ds[i]? = some (d, D))
    (hn : ds.length ≤ 1048576) (hw : P.writes ≤ 1099511627776) (hl : P.left ≤ 9223372036854775807) :
    Calls Try.prog 27 #[.pointer (some ⟨d, 0, none⟩), .int .i64 z] w (SysPost w O pw (rsP P D z) (rsD P ds i d D z) (.int .i64 (rsCode P D z : Nat))) := by
  obtain ⟨g, cs, h1, h2, h3, h4, h5, h6⟩ := (h.drv i d D hi).1
  obtain ⟨dv, Ap, cp, hp1, hp2, hp3⟩ := h.pow
  have c0 := h1.cell (i := 0) rfl
  have cs1 := h1.cell (i := 1) rfl
  have c4 := h1.cell (i := 4) rfl
  have cp1 := hp1.cell (i := 1) rfl
  have stay : ∀ c, ptrCode P D z = c → c ≠ 0 → SysPost w O pw (rsP P D z) (rsD P ds i d D z) (.int .i64 (rsCode P D z : Nat)) = SysPost w O pw P ds (.int .i64 (c : Int)) ∧ SysPost w O pw P ds (.int .i64 (c : Int)) (.returned (.int .i64 (c : Int))) w := by
    intro c hc hne
    have e1 : rsP P D z = P := by unfold rsP; rw [if_pos (by rw [hc]; exact hne)]
    have e2 : rsD P ds i d D z = ds := by unfold rsD; rw [if_pos (by rw [hc]; exact hne)]
    have e3 : rsCode P D z = c := by unfold rsCode; rw [if_pos (by rw [hc]; exact hne), hc]
    exact ⟨by rw [e1, e2, e3], O, rfl, h, Ext.refl _ _⟩
  by_cases hrd : readyCode P.off D.lost = 0
  case neg =>
    have Hf := Lib.hid (find_bad pw d g D.piles.length P.off D.lost z w c0 cp1 c4 hrd)
    obtain ⟨hs1, hs2⟩ := stay (readyCode P.off D.lost) (by unfold ptrCode; rw [if_pos hrd]) hrd
    rw [hs1]
    have Hs := Lib.hid hs2
    have hne : (((readyCode P.off D.lost : Nat) : Int) != 0) = true := by simp; exact hrd
    generalize readyCode P.off D.lost = r at *
    clear hs1 hs2 stay hrd h1 h2 h3 h4 h5 h6 hp1 hp2 hp3 c0 cs1 c4 cp1 h hi
    go_enter Try.func27, Try.ntmps27
    go_wp2_with (go_at_call 39; refine Hf.out.mono ?_; rintro e w1 ⟨rfl, rfl⟩)
    go_ret
    exact Hs.out
  have hoff : P.off = false := by unfold readyCode at hrd; revert hrd; cases P.off <;> simp
  have hlost : D.lost = false := by unfold readyCode at hrd; rw [hoff] at hrd; revert hrd; cases D.lost <;> simp
  rw [hoff] at cp1
  rw [hlost] at c4
  by_cases hz : 0 ≤ z ∧ z < (D.piles.length : Int)
  case neg =>
    have Hf := Lib.hid (find_out pw d g D.piles.length z w c0 cp1 c4 cs1 hz)
    obtain ⟨hs1, hs2⟩ := stay 1 (by unfold ptrCode; rw [if_neg (by simp [hrd]), if_pos hz]) (by decide)
    rw [hs1]
    have Hs : Hid (SysPost w O pw P ds (.int .i64 1) (.returned (.int .i64 1)) w) := hs2
    have Hg : Hid (SysPost w O pw P ds (.int .i64 ((1 : Nat) : Int)) = SysPost w O pw P ds (.int .i64 1)) := rfl
    rw [Hg.out]
    clear Hg hs1 hs2 stay hrd h1 h2 h3 h4 h5 h6 hp1 hp2 hp3 c0 cs1 c4 cp1 h hi hz
    go_enter Try.func27, Try.ntmps27
    go_wp2_with (go_at_call 39; refine Hf.out.mono ?_; rintro e w1 ⟨rfl, rfl⟩)
    go_ret
    exact Hs.out
  obtain ⟨zn, rfl⟩ : ∃ zn : Nat, z = (zn : Int) := ⟨z.toNat, by omega⟩
  have hzn : zn < D.piles.length := by omega
  have Hf := Lib.hid (find_in pw d g D.piles.length zn w c0 cp1 c4 cs1 hzn)
  have hcode : ptrCode P D (zn : Int) = 0 := by unfold ptrCode; rw [if_neg (by simp [hrd]), if_neg (by intro hh; exact hh hz)]
  have eP : rsP P D (zn : Int) = writeP P := by unfold rsP; rw [hcode]; rfl
  have eD : rsD P ds i d D (zn : Int) = if writeOk P then ds.set i (d, D.reset zn) else writeD P ds := by unfold rsD; rw [hcode]; rfl
  have eC : rsCode P D (zn : Int) = if writeOk P then 0 else 8 := by unfold rsCode; rw [hcode]; rfl
  rw [eP, eD, eC]
  clear eP eD eC stay
  have Hw := Lib.hid (write_any pw P ds O w h hn hw hl)
  by_cases hok2 : writeOk P = true
  case neg =>
    have hok3 : writeOk P = false := by simpa using hok2
    rw [hok3] at Hw ⊢
    have Hg : Hid (SysPost w O pw (writeP P) (if false = true then ds.set i (d, D.reset zn) else writeD P ds) (.int .i64 ((if false = true then 0 else 8 : Nat) : Int)) = SysPost w O pw (writeP P) (writeD P ds) (.int .i64 8)) := rfl
    rw [Hg.out]
    clear Hg hrd h1 h2 h3 h4 h5 h6 hp1 hp2 hp3 cp1 h hi hok2 hok3 cs1 c4
    go_enter Try.func27, Try.ntmps27
    go_wp2_with (first
      | (go_at_call 39; refine Hf.out.mono ?_; rintro e w1 ⟨rfl, rfl⟩)
      | (go_at_call 44; refine Hw.out.mono ?_; rintro e w2 ⟨rfl, hsys, hext, _⟩; have Hs2 : Hid (SysPost w O pw (writeP P) (writeD P ds) (.int .i64 8) (.returned (.int .i64 8)) w2) := ⟨O, rfl, hsys, hext⟩; clear hsys hext))
    go_ret
    exact Hs2.out
  rw [hok2] at Hw ⊢
  rw [writeD_ok hok2] at Hw ⊢
  have Hg : Hid (SysPost w O pw (writeP P) (if true = true then ds.set i (d, D.reset zn) else ds) (.int .i64 ((if true = true then 0 else 8 : Nat) : Int)) = SysPost w O pw (writeP P) (ds.set i (d, D.reset zn)) (.int .i64 0)) := rfl
  rw [Hg.out]
  obtain ⟨p, hzp⟩ : ∃ p, D.piles[zn]? = some p := ⟨_, List.getElem?_eq_getElem hzn⟩
  have Hst : Hid (∀ w2, SysAt w2 O pw (writeP P) ds → Ext w O w2 O → Kept (fun b => b ≠ pw) w w2 →
      (∃ v, w2.cell? ⟨g, zn * 2, none⟩ = some v) ∧ (∃ v, w2.cell? ⟨g, zn * 2 + 1, none⟩ = some v) ∧ w2.frozen? ⟨g, zn * 2, none⟩ = false ∧ w2.frozen? ⟨g, zn * 2 + 1, none⟩ = false ∧
      SysPost w O pw (writeP P) (ds.set i (d, D.reset zn)) (.int .i64 0) (.returned (.int .i64 0)) ((w2.setCell ⟨g, zn * 2, none⟩ (.slice none 0 0)).setCell ⟨g, zn * 2 + 1, none⟩ (.int .i64 0))) := by
    intro w2 q1 q2 k3
    have ht : ∀ b t, O b = some t → t ≠ .pw → b ≠ pw := fun b t hb n e => n (by rw [e, hp2] at hb; cases hb; rfl)
    have hag : Agree (fun t => t ≠ .pw) w O w2 O := fun b t hlt hb ht2 => ⟨k3.block b hlt (ht b t hb ht2), hb⟩
    have r1 := h1.move (k3.block d h1.lt (ht d _ h2 (by intro e; cases e)))
    have r3 := h3.move (k3.block g h3.lt (ht g _ h4 (by intro e; cases e)))
    have r6 : ∀ (z : Nat) p, D.piles[z]? = some p → PileAt w2 O i z cs p := fun z' p' hz' => (h6 z' p' hz').keep hag (by intro e; cases e) (fun k => by intro e; cases e)
    obtain ⟨v, e0, e1, _⟩ := h6 zn p hzp
    obtain ⟨d1, d2⟩ := DrvAt.blank r1 h2 r3 h4 h5 r6 hzn
    obtain ⟨s1, s2⟩ := q1.change (O' := O) hi d2 (fun b t hb ht e => ht (by rw [hb] at e; cases e; rfl)) (fun b hb e => by rw [hb] at e; cases e) (fun _ _ => rfl) (fun b hb => Nat.lt_of_lt_of_le (q1.fresh b hb) d2.size) d1 ((h.drv i d D hi).2.reset zn)
    exact ⟨⟨v, r3.cell e0⟩, ⟨_, r3.cell e1⟩, r3.frozen _, r3.frozen _, O, rfl, s1, q2.trans s2⟩
  generalize ds.set i (d, D.reset zn) = ds2 at *
  clear Hg hrd h1 h2 h3 h4 h5 h6 hp1 hp2 hp3 cp1 h hi hok2 cs1 c4 hzp
  go_enter Try.func27, Try.ntmps27
  go_wp2_with (first
    | (go_at_call 39; refine Hf.out.mono ?_; rintro e w1 ⟨rfl, rfl⟩)
    | (go_at_call 44; refine Hw.out.mono ?_; rintro e w2 ⟨rfl, hsys, hext, hkp⟩; obtain ⟨⟨v0, hv0⟩, ⟨v1, hv1⟩, hfz0, hfz1, hfin⟩ := Hst.out w2 hsys hext (hkp (by trivial)); have Hfin := Lib.hid hfin; clear hsys hext hkp hfin))
  go_ret
  exact Hfin.out

set_option maxRecDepth 20000 in
theorem shape_any (pw i d : Nat) (P : Pow) (ds : List (Nat × Drv)) (D : Drv) (O : Nat → Option Tag) (w : World) (h : SysAt w O pw P ds) (hi : ds[i]? = some (d, D)) :
    Calls Try.prog 11 #[.pointer (some ⟨d, 0, none⟩)] w fun e w' => e = .returned (.tuple #[.int .i64 (D.piles.length : Int), .int .i64 (D.cap : Int), .int .i64 (D.size : Int)]) ∧ ∃ q, w' = w.drewN q := by
  obtain ⟨g, cs, h1, h2, h3⟩ := (h.drv i d D hi).1
  have cs1 := h1.cell (i := 1) rfl
  have c2 := h1.cell (i := 2) rfl
  have c3 := h1.cell (i := 3) rfl
  generalize D.piles.length = N at *
  clear h1 h2 h3 h hi
  go_enter Try.func11, Try.ntmps11
  go_wp2_with fail
  go_quiet (fail)
  go_wp2_with fail
  go_ret3
  exact ⟨rfl, _, rfl⟩
end Go.Proofs.Ytdnlikhfemhmeaa
