/-
  The second saying's Flush.
-/
import Derived.Test.YtdnlikhfemhmeaaRReset
namespace Go.Proofs.Ytdnlikhfemhmeaa
open Go.RowKit

theorem RDrvAt.firm {w : World} {O : Nat → Option Tag} {i pw d g z n : Nat} {cs : List Value} {D : Drv} {p : Pile}
    (h1 : Cells w d 75 [.pointer (some ⟨pw, 0, none⟩), .int .i64 (D.cap : Int), .int .i64 (D.size : Int), .slice (some ⟨g, 0, none⟩) D.piles.length D.piles.length, .bool D.lost]) (h2 : O d = some (.drv i))
    (h3 : Cells w g 93 cs) (h4 : O g = some (.piles i)) (h5 : cs.length = D.piles.length * 2) (h6 : ∀ (z : Nat) p, D.piles[z]? = some p → PileAt w O i z cs p) (hz : D.piles[z]? = some p) :
    RDrvAt (w.setCell ⟨g, z * 2 + 1, none⟩ (.int .i64 (n : Int))) O i pw d { D with piles := D.piles.set z ⟨p.pages, n⟩ } ∧ Kept (fun x => O x ≠ some (.piles i)) w (w.setCell ⟨g, z * 2 + 1, none⟩ (.int .i64 (n : Int))) := by
  have hk : Kept (fun x => O x ≠ some (.piles i)) w (w.setCell ⟨g, z * 2 + 1, none⟩ (.int .i64 (n : Int))) := (Kept.refl _ w).setCell (fun h => h h4) _
  have hzl := (List.getElem?_eq_some_iff.1 hz).1
  have hag : Agree (fun t => t ≠ .piles i) w O (w.setCell ⟨g, z * 2 + 1, none⟩ (.int .i64 (n : Int))) O := hk.agree fun b t hb ht e => ht (by rw [hb] at e; cases e; rfl)
  refine ⟨⟨g, cs.set (z * 2 + 1) (.int .i64 (n : Int)), ?_, h2, h3.set _ _, h4, ?_, fun z' p' hz' => ?_⟩, hk⟩
  · simp only [List.length_set]
    exact h1.move (hk.block d h1.lt (by rw [h2]; intro e; cases e))
  · simp only [List.length_set]
    exact h5
  · by_cases e : z' = z
    · subst e
      simp only [List.getElem?_set_self hzl, Option.some.injEq] at hz'
      subst hz'
      obtain ⟨v, a0, a1, a2⟩ := h6 z' p hz
      exact ⟨v, by rw [List.getElem?_set_ne (by omega)]; exact a0, by rw [List.getElem?_set_self (by omega)], a2.keep hag (by intro e; cases e) (fun k => by intro e; cases e)⟩
    · have hz2 : D.piles[z']? = some p' := by
        rw [List.getElem?_set_ne (fun h => e h.symm)] at hz'
        exact hz'
      obtain ⟨v, a0, a1, a2⟩ := h6 z' p' hz2
      exact ⟨v, by rw [List.getElem?_set_ne (by omega)]; exact a0, by rw [List.getElem?_set_ne (by omega)]; exact a1, a2.keep hag (by intro e; cases e) (fun k => by intro e; cases e)⟩

/-- behind a write a drive has as many zones as it had -/
theorem RWritePost.zones {w w2 : World} {O : Nat → Option Tag} {i pw d : Nat} {P : Pow} {ds : List (Nat × Drv)} {D : Drv} (h : RWritePost w O pw P ds w2) (hi : ds[i]? = some (d, D)) :
    ∃ g, w2.cell? ⟨d, 3, none⟩ = some (.slice (some ⟨g, 0, none⟩) D.piles.length D.piles.length) := by
  obtain ⟨O2, q1, _⟩ := h
  have hx : ∃ D', (writeD P ds)[i]? = some (d, D') ∧ D'.piles.length = D.piles.length := by
    unfold writeD
    split
    · exact ⟨D, hi, rfl⟩
    · split
      · exact ⟨D.cut P.picks, by rw [List.getElem?_map, hi]; rfl, by simp only [Drv.cut, cutPiles_length]⟩
      · exact ⟨D, hi, rfl⟩
  obtain ⟨D', hx, hlen⟩ := hx
  obtain ⟨g, cs, r1, _⟩ := (q1.drv i d D' hx).1
  rw [hlen] at r1
  exact ⟨g, r1.cell rfl⟩

set_option maxRecDepth 20000 in
set_option maxHeartbeats 2000000 in
theorem rflush_any (pw i d : Nat) (P : Pow) (ds : List (Nat × Drv)) (D : Drv) (O : Nat → Option Tag) (w : World) (h : RSysAt w O pw P ds) (hi : ds[i]? = some (d, D))
    (hn : ds.length ≤ 1048576) (hw : P.writes ≤ 1099511627776) (hl : P.left ≤ 9223372036854775807) :
    Calls Try.prog 29 #[.pointer (some ⟨d, 0, none⟩)] w (RSysPost w O pw (flP P D) (flD P ds i d D) (.int .i64 (flCode P D : Nat))) := by
  obtain ⟨g, cs, h1, h2, h3, h4, h5, h6⟩ := (h.drv i d D hi).1
  obtain ⟨dv, Ap, np, cp, hp1, hp2, hp3⟩ := h.pow
  have c0 := h1.cell (i := 0) rfl
  have cs1 := h1.cell (i := 3) rfl
  have c4 := h1.cell (i := 4) rfl
  have cp1 := hp1.cell (i := 0) rfl
  have Hf := Lib.hid (up_any pw d P.off D.lost w c0 cp1 c4)
  have hokD := (h.drv i d D hi).2
  have hN9 : (D.piles.length : Int) ≤ 4096 := by have := hokD.zones; omega
  by_cases hrd : readyCode P.off D.lost = 0
  case neg =>
    have eP : flP P D = P := by unfold flP; rw [if_pos hrd]
    have eD : flD P ds i d D = ds := by unfold flD; rw [if_pos hrd]
    have eC : flCode P D = readyCode P.off D.lost := by unfold flCode; rw [if_pos hrd]
    rw [eP, eD, eC]
    clear eP eD eC
    have Hs : Hid (RSysPost w O pw P ds (.int .i64 (readyCode P.off D.lost : Nat)) (.returned (.int .i64 (readyCode P.off D.lost : Nat))) w) := ⟨O, rfl, h, Ext.refl _ _⟩
    have hne : (((readyCode P.off D.lost : Nat) : Int) == 0) = false := by simp; exact hrd
    have hne2 : ¬ ((readyCode P.off D.lost : Nat) : Int) = 0 := by omega
    generalize readyCode P.off D.lost = r at *
    generalize D.piles.length = N at *
    clear hrd h1 h2 h3 h4 h5 h6 hp1 hp2 hp3 c0 c4 cp1 h hi hokD
    have hN : 0 < N ∨ N = 0 := by omega
    rcases hN with hN | rfl
    all_goals
      go_enter Try.func29, Try.ntmps29
      go_wp2_with (go_at_call 42; refine Hf.out.mono ?_; rintro e w1 ⟨rfl, rfl⟩)
      go_loopw [4] (fun iv wr => iv = .int .i64 0 ∧ wr = w) (fun iv _ => 0)
      case atStart => exact ⟨rfl, rfl⟩
      case round =>
        obtain ⟨rfl, rfl⟩ := hrel
        go_wp2_with fail
        go_ret
        exact Hs.out
  have eP : flP P D = writeP P := by unfold flP; rw [if_neg (by simp [hrd])]
  have eD : flD P ds i d D = if writeOk P then ds.set i (d, D.flush) else writeD P ds := by unfold flD; rw [if_neg (by simp [hrd])]
  have eC : flCode P D = if writeOk P then 0 else 8 := by unfold flCode; rw [if_neg (by simp [hrd])]
  rw [eP, eD, eC]
  clear eP eD eC
  rw [hrd] at Hf
  have Hf2 : Hid (Calls Try.prog 42 #[.pointer (some ⟨d, 0, none⟩)] w fun e w' => e = .returned (.int .i64 0) ∧ w = w') := Hf.out
  have Hw := Lib.hid (rdwrite_any pw i d P ds D O w h hi hn hw hl)
  have Hz : Hid (∀ w2, RWritePost w O pw P ds w2 → ∃ g, w2.cell? ⟨d, 3, none⟩ = some (.slice (some ⟨g, 0, none⟩) D.piles.length D.piles.length)) := fun w2 q => q.zones hi
  by_cases hok2 : writeOk P = true
  case neg =>
    have hok3 : writeOk P = false := by simpa using hok2
    rw [hok3] at Hw ⊢
    have Hw2 : Hid (Calls Try.prog 51 #[.pointer (some ⟨d, 0, none⟩)] w fun e w' => e = .returned (.int .i64 8) ∧ RWritePost w O pw P ds w') := Hw.out
    have Hg : Hid (RSysPost w O pw (writeP P) (if false = true then ds.set i (d, D.flush) else writeD P ds) (.int .i64 ((if false = true then 0 else 8 : Nat) : Int)) = RSysPost w O pw (writeP P) (writeD P ds) (.int .i64 8)) := rfl
    rw [Hg.out]
    generalize D.piles.length = N at *
    clear Hg hrd h1 h2 h3 h4 h5 h6 hp1 hp2 hp3 cp1 h hi hok2 hok3 c4 Hf Hw cs1 hokD
    have hN : 0 < N ∨ N = 0 := by omega
    rcases hN with hN | rfl
    all_goals
      go_enter Try.func29, Try.ntmps29
      go_wp2_with (first
        | (go_at_call 42; refine Hf2.out.mono ?_; rintro e w1 ⟨rfl, rfl⟩)
        | (go_at_call 51; refine Hw2.out.mono ?_; rintro e w2 ⟨rfl, hpost⟩; obtain ⟨g2, hd3⟩ := Hz.out w2 hpost; obtain ⟨O2, hsys, hext, _⟩ := hpost; have Hs2 : Hid (RSysPost w O pw (writeP P) (writeD P ds) (.int .i64 8) (.returned (.int .i64 8)) w2) := ⟨O2, rfl, hsys, hext⟩; clear hsys hext))
      go_loopw [4] (fun iv wr => iv = .int .i64 0 ∧ wr = w2) (fun iv _ => 0)
      case atStart => exact ⟨rfl, rfl⟩
      case round =>
        obtain ⟨rfl, rfl⟩ := hrel
        go_wp2_with fail
        go_ret
        exact Hs2.out
  have Hok2 := Lib.hid hok2
  rw [hok2] at Hw ⊢
  rw [writeD_ok hok2]
  have Hw2 : Hid (Calls Try.prog 51 #[.pointer (some ⟨d, 0, none⟩)] w fun e w' => e = .returned (.int .i64 0) ∧ RWritePost w O pw P ds w') := Hw.out
  have Hg : Hid (RSysPost w O pw (writeP P) (if true = true then ds.set i (d, D.flush) else ds) (.int .i64 ((if true = true then 0 else 8 : Nat) : Int)) = RSysPost w O pw (writeP P) (ds.set i (d, D.flush)) (.int .i64 0)) := rfl
  rw [Hg.out]
  obtain ⟨N, hN⟩ : ∃ N, N = D.piles.length := ⟨_, rfl⟩
  have hN1 : (N : Int) ≤ 4096 := by rw [hN]; exact hN9
  have HN := Lib.hid hN
  have Hok := Lib.hid hokD
  have Hi := Lib.hid hi
  clear Hg hrd h1 h2 h3 h4 h5 h6 hp1 hp2 hp3 cp1 h hi hok2 Hf cs1 c4 hN hokD hN9 Hw
  go_enter Try.func29, Try.ntmps29
  go_wp2_with (first
    | (go_at_call 42; refine Hf2.out.mono ?_; rintro e w1 ⟨rfl, rfl⟩)
    | (go_at_call 51; refine Hw2.out.mono ?_; rintro e w2 ⟨rfl, O2, hsys, hext, hk3⟩; obtain ⟨rfl, _⟩ := hk3 Hok2.out; rw [writeD_ok Hok2.out] at hsys; have Hsys := Lib.hid hsys; have Hext := Lib.hid hext; clear hsys hext hk3))
  have Hst : Hid (RDrvAt w2 O2 i pw d { D with piles := flushTo 0 D.piles } ∧ Kept (fun x => O2 x ≠ some (.piles i)) w2 w2) := ⟨(Hsys.out.drv i d D Hi.out).1, Kept.refl _ _⟩
  go_loopw [4] (fun iv wr => ∃ k : Nat, iv = .int .i64 (k : Int) ∧ k ≤ N ∧ Hid (RDrvAt wr O2 i pw d { D with piles := flushTo k D.piles } ∧ Kept (fun x => O2 x ≠ some (.piles i)) w2 wr)) (fun iv _ => N - (intOf iv).toNat)
  case atStart => exact ⟨0, rfl, Nat.zero_le _, Hst.out⟩
  case round =>
    obtain ⟨k, rfl, hk, hrel⟩ := hrel
    obtain ⟨⟨g, cs, h1, h2, h3, h4, h5, h6⟩, hkp⟩ := hrel.out
    simp only [flushTo_len] at h1 h5
    rw [← HN.out] at h1 h5
    have hd1 : wr.cell? ⟨d, 3, none⟩ = some (.slice (some ⟨g, 0, none⟩) N N) := h1.cell rfl
    by_cases hlt : k < N
    case neg =>
      obtain rfl : k = N := by omega
      have Hfin : Hid (RSysPost w O2 pw (writeP P) (ds.set i (d, D.flush)) (.int .i64 0) (.returned (.int .i64 0)) wr) := by
        obtain ⟨q1, q2⟩ := hrel.out
        rw [HN.out, flushTo_all] at q1
        obtain ⟨q3, q4⟩ := Hsys.out.change (O' := O2) Hi.out q2 (fun b t hb ht e => ht (by rw [hb] at e; cases e; rfl)) (fun b hb e => by rw [hb] at e; cases e) (fun _ _ => rfl) (fun b hb => Nat.lt_of_lt_of_le (Hsys.out.fresh b hb) q2.size) q1 Hok.out.flush
        exact ⟨O2, rfl, q3, Hext.out.trans q4⟩
      clear hlt hk h1 h2 h3 h4 h5 h6 hkp
      go_wp2_with fail
      go_ret
      exact Hfin.out
    have hk' : (k : Int) < (N : Int) := by omega
    obtain ⟨p, hp⟩ : ∃ p, D.piles[k]? = some p := ⟨_, List.getElem?_eq_getElem (by rw [← HN.out]; exact hlt)⟩
    obtain ⟨fa, fs⟩ := flushTo_at k D.piles p hp
    obtain ⟨v, e0, e1, vs, hrow, hOr, hvl, hpg⟩ := h6 k p fa
    obtain ⟨Ar, cr, rfl, _, _, _⟩ := hrow.rd
    have hc0 := h3.cell e0
    have hc1 := h3.cell e1
    have hf1 := h3.frozen (k * 2 + 1)
    rw [hvl] at hc0
    have Hstep : Hid (∀ q, RDrvAt ((wr.setCell ⟨g, k * 2 + 1, none⟩ (.int .i64 (p.pages.length : Int))).drewN q) O2 i pw d { D with piles := flushTo (k + 1) D.piles } ∧ Kept (fun x => O2 x ≠ some (.piles i)) w2 ((wr.setCell ⟨g, k * 2 + 1, none⟩ (.int .i64 (p.pages.length : Int))).drewN q)) := by
      intro q
      have hup := RDrvAt.firm (n := p.pages.length) (D := { D with piles := flushTo k D.piles }) (by simp only [flushTo_len]; rw [← HN.out]; exact h1) h2 h3 h4 (by simp only [flushTo_len]; rw [← HN.out]; exact h5) h6 fa
      have e9 : (flushTo k D.piles).set k ⟨p.pages, p.pages.length⟩ = flushTo (k + 1) D.piles := fs
      simp only [e9] at hup
      exact ⟨hup.1.drewN q, (hkp.trans hup.2).drewN q⟩
    generalize p.pages.length = n at *
    clear hvl hpg hOr hrow e0 e1 h1 h2 h3 h4 h5 h6 hkp fa fs hp
    go_wp2_with fail
    go_region
    all_goals
      go_wp2_with fail
      go_roundw
      case rel => exact ⟨k + 1, by go_num, by omega, Hstep.out _⟩
      case measure => simp [intOf]; omega
end Go.Proofs.Ytdnlikhfemhmeaa
