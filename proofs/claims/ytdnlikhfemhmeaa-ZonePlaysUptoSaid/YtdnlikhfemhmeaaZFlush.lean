/-
  Flush: all pages outlast cuts.
-/
import Derived.Test.YtdnlikhfemhmeaaZTell
namespace Go.Proofs.Ytdnlikhfemhmeaa
open Go.RowKit

def Pile.flush (p : Pile) : Pile := ⟨p.pages, p.pages.length⟩
def flushTo (k : Nat) (ps : List Pile) : List Pile := (ps.take k).map Pile.flush ++ ps.drop k
def Drv.flush (D : Drv) : Drv := { D with piles := D.piles.map Pile.flush }
theorem flushTo_all (ps : List Pile) : flushTo ps.length ps = ps.map Pile.flush := by unfold flushTo; simp
theorem flushTo_len (k : Nat) (ps : List Pile) : (flushTo k ps).length = ps.length := by unfold flushTo; simp; omega
theorem flushTo_at (k : Nat) (ps : List Pile) (p : Pile) (h : ps[k]? = some p) : (flushTo k ps)[k]? = some p ∧ (flushTo k ps).set k p.flush = flushTo (k + 1) ps := by
  have hk := (List.getElem?_eq_some_iff.1 h).1
  have hp := (List.getElem?_eq_some_iff.1 h).2
  have hl : ((ps.take k).map Pile.flush).length = k := by simp; omega
  unfold flushTo
  constructor
  · rw [List.getElem?_append_right (by omega), hl, Nat.sub_self, List.getElem?_drop]
    simpa using h
  · rw [List.set_append_right _ _ (by omega), hl, Nat.sub_self, List.drop_eq_getElem_cons hk, List.set_cons_zero, List.take_succ_eq_append_getElem hk, hp, List.map_append]
    simp
theorem Drv.Ok.flush {D : Drv} (h : D.Ok) : D.flush.Ok := by
  have hmem : ∀ q ∈ D.piles.map Pile.flush, ∃ p ∈ D.piles, q = p.flush := fun q hq => by
    obtain ⟨p, hp, rfl⟩ := List.mem_map.1 hq
    exact ⟨p, hp, rfl⟩
  refine ⟨by simp only [Drv.flush, List.length_map]; exact h.zones, h.cap, h.low, h.high, fun q hq => ?_, fun q hq => ?_, fun q hq l hl => ?_, fun hl q hq => ?_⟩
  · obtain ⟨p, hp, rfl⟩ := hmem q hq; exact h.pages p hp
  · obtain ⟨p, hp, rfl⟩ := hmem q hq; exact Nat.le_refl _
  · obtain ⟨p, hp, rfl⟩ := hmem q hq; exact h.sizes p hp l hl
  · obtain ⟨p, hp, rfl⟩ := hmem q hq
    have := h.lost hl p hp
    subst this
    rfl

/-- one pile of a drive has another number of firm pages -/
theorem DrvAt.firm {w : World} {O : Nat → Option Tag} {i pw d g z n : Nat} {cs : List Value} {D : Drv} {p : Pile}
    (h1 : Cells w d 71 [.pointer (some ⟨pw, 0, none⟩), .slice (some ⟨g, 0, none⟩) D.piles.length D.piles.length, .int .i64 (D.cap : Int), .int .i64 (D.size : Int), .bool D.lost]) (h2 : O d = some (.drv i))
    (h3 : Cells w g 91 cs) (h4 : O g = some (.piles i)) (h5 : cs.length = D.piles.length * 2) (h6 : ∀ (z : Nat) p, D.piles[z]? = some p → PileAt w O i z cs p) (hz : D.piles[z]? = some p) :
    DrvAt (w.setCell ⟨g, z * 2 + 1, none⟩ (.int .i64 (n : Int))) O i pw d { D with piles := D.piles.set z ⟨p.pages, n⟩ } ∧ Kept (fun x => O x ≠ some (.piles i)) w (w.setCell ⟨g, z * 2 + 1, none⟩ (.int .i64 (n : Int))) := by
  have hk : Kept (fun x => O x ≠ some (.piles i)) w (w.setCell ⟨g, z * 2 + 1, none⟩ (.int .i64 (n : Int))) := (Kept.refl _ w).setCell (fun h => h h4) _
  have hzl := (List.getElem?_eq_some_iff.1 hz).1
  have hag : Agree (fun t => t ≠ .piles i) w O (w.setCell ⟨g, z * 2 + 1, none⟩ (.int .i64 (n : Int))) O := hk.agree fun b t hb ht e => ht (by rw [hb] at e; cases e; rfl)
  refine ⟨⟨g, cs.set (z * 2 + 1) (.int .i64 (n : Int)), ?_, h2, h3.set _ _, h4, ?_, fun z' p' hz' => ?_⟩, hk⟩
  · simp only [List.length_set]
    exact h1.move (hk.block d h1.lt (by rw [h2]; intro e; cases e))
  · simp only [List.length_set]
    exact h5
  · by_cases e : z' = z
    · subst e
      simp only [List.getElem?_set_self hzl, Option.some.injEq] at hz'
      subst hz'
      obtain ⟨v, a0, a1, a2⟩ := h6 z' p hz
      exact ⟨v, by rw [List.getElem?_set_ne (by omega)]; exact a0, by rw [List.getElem?_set_self (by omega)], a2.keep hag (by intro e; cases e) (fun k => by intro e; cases e)⟩
    · have hz2 : D.piles[z']? = some p' := by
        rw [List.getElem?_set_ne (fun h => e h.symm)] at hz'
        exact hz'
      obtain ⟨v, a0, a1, a2⟩ := h6 z' p' hz2
      exact ⟨v, by rw [List.getElem?_set_ne (by omega)]; exact a0, by rw [List.getElem?_set_ne (by omega)]; exact a1, a2.keep hag (by intro e; cases e) (fun k => by intro e; cases e)⟩

def flCode (P : Pow) (D : Drv) : Nat := if readyCode P.off D.lost ≠ 0 then readyCode P.off D.lost else if writeOk P then 0 else 8
def flP (P : Pow) (D : Drv) : Pow := if readyCode P.off D.lost ≠ 0 then P else writeP P
def flD (P : Pow) (ds : List (Nat × Drv)) (i d : Nat) (D : Drv) : List (Nat × Drv) := if readyCode P.off D.lost ≠ 0 then ds else if writeOk P then ds.set i (d, D.flush) else writeD P ds

set_option maxRecDepth 20000 in
set_option maxHeartbeats 2000000 in
theorem driveFlush_any (pw i d : Nat) (P : Pow) (ds : List (Nat × Drv)) (D : Drv) (O : Nat → Option Tag) (w : World) (h : SysAt w O pw P ds) (hi : ds[i]? = some (d, D))
    (hn : ds.length ≤ 1048576) (hw : P.writes ≤ 1099511627776) (hl : P.left ≤ 9223372036854775807) :
    Calls Try.prog 17 #[.pointer (some ⟨d, 0, none⟩)] w (SysPost w O pw (flP P D) (flD P ds i d D) (.int .i64 (flCode P D : Nat))) := by
  obtain ⟨g, cs, h1, h2, h3, h4, h5, h6⟩ := (h.drv i d D hi).1
  obtain ⟨dv, Ap, cp, hp1, hp2, hp3⟩ := h.pow
  have c0 := h1.cell (i := 0) rfl
  have cs1 := h1.cell (i := 1) rfl
  have c4 := h1.cell (i := 4) rfl
  have cp1 := hp1.cell (i := 1) rfl
  have Hf := Lib.hid (ready_any pw d P.off D.lost w c0 cp1 c4)
  by_cases hrd : readyCode P.off D.lost = 0
  case neg =>
    have eP : flP P D = P := by unfold flP; rw [if_pos hrd]
    have eD : flD P ds i d D = ds := by unfold flD; rw [if_pos hrd]
    have eC : flCode P D = readyCode P.off D.lost := by unfold flCode; rw [if_pos hrd]
    rw [eP, eD, eC]
    clear eP eD eC
    have Hs : Hid (SysPost w O pw P ds (.int .i64 (readyCode P.off D.lost : Nat)) (.returned (.int .i64 (readyCode P.off D.lost : Nat))) w) := ⟨O, rfl, h, Ext.refl _ _⟩
    have hne : (((readyCode P.off D.lost : Nat) : Int) != 0) = true := by simp; exact hrd
    generalize readyCode P.off D.lost = r at *
    clear hrd h1 h2 h3 h4 h5 h6 hp1 hp2 hp3 c0 cs1 c4 cp1 h hi
    go_enter Try.func17, Try.ntmps17
    go_wp2_with (go_at_call 46; refine Hf.out.mono ?_; rintro e w1 ⟨rfl, rfl⟩)
    go_ret
    exact Hs.out
  have eP : flP P D = writeP P := by unfold flP; rw [if_neg (by simp [hrd])]
  have eD : flD P ds i d D = if writeOk P then ds.set i (d, D.flush) else writeD P ds := by unfold flD; rw [if_neg (by simp [hrd])]
  have eC : flCode P D = if writeOk P then 0 else 8 := by unfold flCode; rw [if_neg (by simp [hrd])]
  rw [eP, eD, eC]
  clear eP eD eC
  rw [hrd] at Hf
  have Hf2 : Hid (Calls Try.prog 46 #[.pointer (some ⟨d, 0, none⟩)] w fun e w' => e = .returned (.int .i64 0) ∧ w = w') := Hf.out
  have Hw := Lib.hid (write_any pw P ds O w h hn hw hl)
  by_cases hok2 : writeOk P = true
  case neg =>
    have hok3 : writeOk P = false := by simpa using hok2
    rw [hok3] at Hw ⊢
    have Hg : Hid (SysPost w O pw (writeP P) (if false = true then ds.set i (d, D.flush) else writeD P ds) (.int .i64 ((if false = true then 0 else 8 : Nat) : Int)) = SysPost w O pw (writeP P) (writeD P ds) (.int .i64 8)) := rfl
    rw [Hg.out]
    clear Hg hrd h1 h2 h3 h4 h5 h6 hp1 hp2 hp3 cp1 h hi hok2 hok3 Hf cs1 c4
    go_enter Try.func17, Try.ntmps17
    go_wp2_with (first
      | (go_at_call 46; refine Hf2.out.mono ?_; rintro e w1 ⟨rfl, rfl⟩)
      | (go_at_call 44; refine Hw.out.mono ?_; rintro e w2 ⟨rfl, hsys, hext, _⟩; have Hs2 : Hid (SysPost w O pw (writeP P) (writeD P ds) (.int .i64 8) (.returned (.int .i64 8)) w2) := ⟨O, rfl, hsys, hext⟩; clear hsys hext))
    go_ret
    exact Hs2.out
  rw [hok2] at Hw ⊢
  rw [writeD_ok hok2] at Hw ⊢
  have Hg : Hid (SysPost w O pw (writeP P) (if true = true then ds.set i (d, D.flush) else ds) (.int .i64 ((if true = true then 0 else 8 : Nat) : Int)) = SysPost w O pw (writeP P) (ds.set i (d, D.flush)) (.int .i64 0)) := rfl
  rw [Hg.out]
  obtain ⟨N, hN⟩ : ∃ N, N = D.piles.length := ⟨_, rfl⟩
  have hok := (h.drv i d D hi).2
  have hN1 : (N : Int) ≤ 4096 := by have := hok.zones; omega
  have HN := Lib.hid hN
  have Hok := Lib.hid hok
  have Hi := Lib.hid hi
  clear Hg hrd h1 h2 h3 h4 h5 h6 hp1 hp2 hp3 cp1 h hi hok2 Hf cs1 c4 hN hok
  go_enter Try.func17, Try.ntmps17
  go_wp2_with (first
    | (go_at_call 46; refine Hf2.out.mono ?_; rintro e w1 ⟨rfl, rfl⟩)
    | (go_at_call 44; refine Hw.out.mono ?_; rintro e w2 ⟨rfl, hsys, hext, _⟩; have Hsys := Lib.hid hsys; have Hext := Lib.hid hext; have hp1 : ∃ g, w2.cell? ⟨d, 1, none⟩ = some (.slice (some ⟨g, 0, none⟩) N N) := (by obtain ⟨g, cs, q1, _⟩ := (hsys.drv i d D Hi.out).1; exact ⟨g, by rw [HN.out]; exact q1.cell rfl⟩); obtain ⟨g2, hp1⟩ := hp1; clear hsys hext))
  have Hst : Hid (DrvAt w2 O i pw d { D with piles := flushTo 0 D.piles } ∧ Kept (fun x => O x ≠ some (.piles i)) w2 w2) := ⟨(Hsys.out.drv i d D Hi.out).1, Kept.refl _ _⟩
  clear hp1
  go_loopw [21] (fun iv wr => ∃ k : Nat, iv = .int .i64 (k : Int) ∧ k ≤ N ∧ Hid (DrvAt wr O i pw d { D with piles := flushTo k D.piles } ∧ Kept (fun x => O x ≠ some (.piles i)) w2 wr)) (fun iv _ => N - (intOf iv).toNat)
  case atStart => exact ⟨0, rfl, Nat.zero_le _, Hst.out⟩
  case round =>
    obtain ⟨k, rfl, hk, hrel⟩ := hrel
    by_cases hlt : k < N
    case neg =>
      obtain rfl : k = N := by omega
      have Hfin : Hid (SysPost w O pw (writeP P) (ds.set i (d, D.flush)) (.int .i64 0) (.returned (.int .i64 0)) wr) := by
        obtain ⟨q1, q2⟩ := hrel.out
        rw [HN.out, flushTo_all] at q1
        obtain ⟨q3, q4⟩ := Hsys.out.change (O' := O) Hi.out q2 (fun b t hb ht e => ht (by rw [hb] at e; cases e; rfl)) (fun b hb e => by rw [hb] at e; cases e) (fun _ _ => rfl) (fun b hb => Nat.lt_of_lt_of_le (Hsys.out.fresh b hb) q2.size) q1 Hok.out.flush
        exact ⟨O, rfl, q3, Hext.out.trans q4⟩
      clear hlt hk
      go_wp2_with fail
      go_ret
      exact Hfin.out
    have hk' : (k : Int) < (N : Int) := by omega
    obtain ⟨p, hp⟩ : ∃ p, D.piles[k]? = some p := ⟨_, List.getElem?_eq_getElem (by rw [← HN.out]; exact hlt)⟩
    obtain ⟨fa, fs⟩ := flushTo_at k D.piles p hp
    obtain ⟨⟨g, cs, h1, h2, h3, h4, h5, h6⟩, hkp⟩ := hrel.out
    simp only [flushTo_len] at h1 h5
    rw [← HN.out] at h1 h5
    have hd1 : wr.cell? ⟨d, 1, none⟩ = some (.slice (some ⟨g, 0, none⟩) N N) := h1.cell rfl
    obtain ⟨v, e0, e1, vs, hrow, hOr, hvl, hpg⟩ := h6 k p fa
    obtain ⟨Ar, cr, rfl, _, _, _⟩ := hrow.rd
    have hc0 := h3.cell e0
    have hc1 := h3.cell e1
    have hf1 := h3.frozen (k * 2 + 1)
    rw [hvl] at hc0
    have hfl := flush_any g (k * 2) Ar p.pages.length cr _ wr hc0 hc1 hf1
    have hup := DrvAt.firm (n := p.pages.length) (D := { D with piles := flushTo k D.piles }) (by simp only [flushTo_len]; rw [← HN.out]; exact h1) h2 h3 h4 (by simp only [flushTo_len]; rw [← HN.out]; exact h5) h6 fa
    have Hstep : Hid (Calls Try.prog 47 #[.pointer (some ⟨g, k * 2, none⟩)] wr fun e w' => e = .returned (.tuple #[]) ∧ (DrvAt w' O i pw d { D with piles := flushTo (k + 1) D.piles } ∧ Kept (fun x => O x ≠ some (.piles i)) w2 w')) := by
      refine hfl.mono fun e w' ⟨he, hw'⟩ => ⟨he, ?_⟩
      subst hw'
      have e9 : (flushTo k D.piles).set k ⟨p.pages, p.pages.length⟩ = flushTo (k + 1) D.piles := fs
      simp only [e9] at hup
      exact ⟨hup.1, hkp.trans hup.2⟩
    clear hfl hup hc0 hc1 hf1 hvl hpg hOr hrow e0 e1 h1 h2 h3 h4 h5 h6 hkp fa fs hp
    go_wp2_with (go_at_call 47; refine Hstep.out.mono ?_; rintro e w3 ⟨rfl, hrel3⟩; have Hrel3 := Lib.hid hrel3; clear hrel3)
    go_roundw
    case rel => exact ⟨k + 1, by go_num, by omega, Hrel3.out⟩
    case measure => simp [intOf]; omega
end Go.Proofs.Ytdnlikhfemhmeaa
