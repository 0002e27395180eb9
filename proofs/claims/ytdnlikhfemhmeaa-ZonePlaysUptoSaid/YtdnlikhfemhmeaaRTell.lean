/-
  The second saying's Pointer and Read.
-/
import Derived.Test.YtdnlikhfemhmeaaRWrite3
namespace Go.Proofs.Ytdnlikhfemhmeaa
open Go.RowKit

def RTellPost (w : World) (O : Nat → Option Tag) (l : List UInt8) (c : Nat) (e : Ending) (w' : World) : Prop := ∃ v, e = .returned (.tuple #[v, .int .i64 (c : Int)]) ∧ Own w 0 v l ∧ (∀ g, v.ownBlock = some g → O g ≠ none) ∧ w = w'

set_option maxRecDepth 20000 in
set_option maxHeartbeats 1000000 in
theorem rpointer_any (pw i d : Nat) (P : Pow) (ds : List (Nat × Drv)) (D : Drv) (O : Nat → Option Tag) (z : Int) (w : World) (h : RSysAt w O pw P ds) (hi : ds[i]? = some (d, D)) :
    Calls Try.prog 38 #[.pointer (some ⟨d, 0, none⟩), .int .i64 z] w fun e w' => e = .returned (.tuple #[.int .i64 (ptrNum P D z : Nat), .int .i64 (ptrCode P D z : Nat)]) ∧ w = w' := by
  obtain ⟨g, cs, h1, h2, h3, h4, h5, h6⟩ := (h.drv i d D hi).1
  obtain ⟨dv, Ap, np, cp, hp1, hp2, hp3⟩ := h.pow
  have c0 := h1.cell (i := 0) rfl
  have cs1 := h1.cell (i := 3) rfl
  have c4 := h1.cell (i := 4) rfl
  have cp1 := hp1.cell (i := 0) rfl
  have Hf := Lib.hid (up_any pw d P.off D.lost w c0 cp1 c4)
  by_cases hrd : readyCode P.off D.lost = 0
  case neg =>
    have hcode : ptrCode P D z = readyCode P.off D.lost := by unfold ptrCode; rw [if_pos hrd]
    have hnum : ptrNum P D z = 0 := by unfold ptrNum; rw [if_neg (by rw [hcode]; exact hrd)]
    rw [hcode, hnum]
    have hne : (((readyCode P.off D.lost : Nat) : Int) != 0) = true := by simp; exact hrd
    generalize readyCode P.off D.lost = r at *
    clear hcode hnum hrd h1 h2 h3 h4 h5 h6 hp1 hp2 hp3 c0 cs1 c4 cp1 h hi
    go_enter Try.func38, Try.ntmps38
    go_wp2_with (go_at_call 42; refine Hf.out.mono ?_; rintro e w1 ⟨rfl, rfl⟩)
    go_ret2
    exact ⟨rfl, rfl⟩
  rw [hrd] at Hf
  have Hf2 : Hid (Calls Try.prog 42 #[.pointer (some ⟨d, 0, none⟩)] w fun e w' => e = .returned (.int .i64 0) ∧ w = w') := Hf.out
  have Hh := Lib.hid (is_any d g D.piles.length z w cs1)
  by_cases hz : 0 ≤ z ∧ z < (D.piles.length : Int)
  case neg =>
    rw [show decide (0 ≤ z ∧ z < (D.piles.length : Int)) = false from decide_eq_false hz] at Hh
    have hcode : ptrCode P D z = 1 := by unfold ptrCode; rw [if_neg (by simp [hrd]), if_pos hz]
    have hnum : ptrNum P D z = 0 := by unfold ptrNum; rw [if_neg (by rw [hcode]; decide)]
    rw [hcode, hnum]
    clear hcode hnum hrd h1 h2 h3 h4 h5 h6 hp1 hp2 hp3 c0 cs1 c4 cp1 h hi hz Hf
    go_enter Try.func38, Try.ntmps38
    go_wp2_with (first | (go_at_call 42; refine Hf2.out.mono ?_; rintro e w1 ⟨rfl, rfl⟩) | (go_at_call 43; refine Hh.out.mono ?_; rintro e w1 ⟨rfl, rfl⟩))
    go_ret2
    exact ⟨rfl, rfl⟩
  rw [show decide (0 ≤ z ∧ z < (D.piles.length : Int)) = true from decide_eq_true hz] at Hh
  obtain ⟨zn, rfl⟩ : ∃ zn : Nat, z = (zn : Int) := ⟨z.toNat, by omega⟩
  have hzn : zn < D.piles.length := by omega
  obtain ⟨p, hzp⟩ : ∃ p, D.piles[zn]? = some p := ⟨_, List.getElem?_eq_getElem hzn⟩
  have hzo : zoneOf D (zn : Int) = p := by simp [zoneOf, List.getD, hzp]
  have hcode : ptrCode P D (zn : Int) = 0 := by unfold ptrCode; rw [if_neg (by simp [hrd]), if_neg (by intro hh; exact hh hz)]
  have hnum : ptrNum P D (zn : Int) = p.pages.length := by unfold ptrNum; rw [if_pos hcode, hzo]
  obtain ⟨v, e0, e1, vs, hrow, hOr, hvl, hpg⟩ := h6 zn p hzp
  obtain ⟨Ar, cr, rfl, hcr, _, _⟩ := hrow.rd
  have hc0 := h3.cell e0
  rw [hvl] at hc0
  rw [hcode, hnum]
  have hzi : (zn : Int) < (D.piles.length : Int) := by omega
  generalize p.pages.length = n at *
  generalize D.piles.length = N at *
  clear hcode hnum hrd h1 h2 h3 h4 h5 h6 hp1 hp2 hp3 c0 c4 cp1 h hi hz hrow hOr hpg hzo hzp e0 e1 hvl hcr Hf
  go_enter Try.func38, Try.ntmps38
  go_wp2_with (first | (go_at_call 42; refine Hf2.out.mono ?_; rintro e w1 ⟨rfl, rfl⟩) | (go_at_call 43; refine Hh.out.mono ?_; rintro e w1 ⟨rfl, rfl⟩))
  go_ret2
  exact ⟨rfl, rfl⟩

set_option maxRecDepth 20000 in
set_option maxHeartbeats 1000000 in
theorem rread_any (pw i d : Nat) (P : Pow) (ds : List (Nat × Drv)) (D : Drv) (O : Nat → Option Tag) (z k : Int) (w : World) (h : RSysAt w O pw P ds) (hi : ds[i]? = some (d, D)) :
    Calls Try.prog 15 #[.pointer (some ⟨d, 0, none⟩), .int .i64 z, .int .i64 k] w (RTellPost w O (readBytes P D z k) (readCode P D z k)) := by
  obtain ⟨g, cs, h1, h2, h3, h4, h5, h6⟩ := (h.drv i d D hi).1
  obtain ⟨dv, Ap, np, cp, hp1, hp2, hp3⟩ := h.pow
  have c0 := h1.cell (i := 0) rfl
  have cs1 := h1.cell (i := 3) rfl
  have c4 := h1.cell (i := 4) rfl
  have cp1 := hp1.cell (i := 0) rfl
  have Hf := Lib.hid (up_any pw d P.off D.lost w c0 cp1 c4)
  have stay : ∀ c, readCode P D z k = c → c ≠ 0 → RTellPost w O (readBytes P D z k) (readCode P D z k) = RTellPost w O [] c ∧ RTellPost w O [] c (.returned (.tuple #[.slice none 0 0, .int .i64 (c : Int)])) w := by
    intro c hc hne
    have hb : readBytes P D z k = [] := by unfold readBytes; rw [if_neg (by rw [hc]; exact hne)]
    exact ⟨by rw [hc, hb], _, rfl, Own.nil _ _, (by intro g hg; cases hg), rfl⟩
  by_cases hrd : readyCode P.off D.lost = 0
  case neg =>
    have hcode : ptrCode P D z = readyCode P.off D.lost := by unfold ptrCode; rw [if_pos hrd]
    obtain ⟨hs1, hs2⟩ := stay (readyCode P.off D.lost) (by unfold readCode; rw [if_pos (by rw [hcode]; exact hrd), hcode]) hrd
    rw [hs1]
    have Hs := Lib.hid hs2
    have hne : (((readyCode P.off D.lost : Nat) : Int) != 0) = true := by simp; exact hrd
    generalize readyCode P.off D.lost = r at *
    clear hcode hs1 hs2 stay hrd h1 h2 h3 h4 h5 h6 hp1 hp2 hp3 c0 cs1 c4 cp1 h hi
    go_enter Try.func15, Try.ntmps15
    go_wp2_with (go_at_call 42; refine Hf.out.mono ?_; rintro e w1 ⟨rfl, rfl⟩)
    go_ret2
    exact Hs.out
  rw [hrd] at Hf
  have Hf2 : Hid (Calls Try.prog 42 #[.pointer (some ⟨d, 0, none⟩)] w fun e w' => e = .returned (.int .i64 0) ∧ w = w') := Hf.out
  have Hh := Lib.hid (is_any d g D.piles.length z w cs1)
  by_cases hz : 0 ≤ z ∧ z < (D.piles.length : Int)
  case neg =>
    rw [show decide (0 ≤ z ∧ z < (D.piles.length : Int)) = false from decide_eq_false hz] at Hh
    have hcode : ptrCode P D z = 1 := by unfold ptrCode; rw [if_neg (by simp [hrd]), if_pos hz]
    obtain ⟨hs1, hs2⟩ := stay 1 (by unfold readCode; rw [if_pos (by rw [hcode]; decide), hcode]) (by decide)
    rw [hs1]
    have Hs : Hid (RTellPost w O [] 1 (.returned (.tuple #[.slice none 0 0, .int .i64 1])) w) := hs2
    clear hcode hs1 hs2 stay hrd h1 h2 h3 h4 h5 h6 hp1 hp2 hp3 c0 cs1 c4 cp1 h hi hz Hf
    go_enter Try.func15, Try.ntmps15
    go_wp2_with (first | (go_at_call 42; refine Hf2.out.mono ?_; rintro e w1 ⟨rfl, rfl⟩) | (go_at_call 43; refine Hh.out.mono ?_; rintro e w1 ⟨rfl, rfl⟩))
    go_ret2
    exact Hs.out
  rw [show decide (0 ≤ z ∧ z < (D.piles.length : Int)) = true from decide_eq_true hz] at Hh
  obtain ⟨zn, rfl⟩ : ∃ zn : Nat, z = (zn : Int) := ⟨z.toNat, by omega⟩
  have hzn : zn < D.piles.length := by omega
  obtain ⟨p, hzp⟩ : ∃ p, D.piles[zn]? = some p := ⟨_, List.getElem?_eq_getElem hzn⟩
  have hzo : zoneOf D (zn : Int) = p := by simp [zoneOf, List.getD, hzp]
  have hcode : ptrCode P D (zn : Int) = 0 := by unfold ptrCode; rw [if_neg (by simp [hrd]), if_neg (by intro hh; exact hh hz)]
  obtain ⟨v, e0, e1, vs, hrow, hOr, hvl, hpg⟩ := h6 zn p hzp
  obtain ⟨Ar, cr, rfl, hcr, _, hrd2⟩ := hrow.rd
  have hc0 := h3.cell e0
  rw [hvl] at hc0
  have hzi : (zn : Int) < (D.piles.length : Int) := by omega
  by_cases hk : 0 ≤ k ∧ k < (p.pages.length : Int)
  case neg =>
    obtain ⟨hs1, hs2⟩ := stay 4 (by unfold readCode; rw [if_neg (by rw [hcode]; simp), hzo, if_pos hk]) (by decide)
    rw [hs1]
    have Hs : Hid (RTellPost w O [] 4 (.returned (.tuple #[.slice none 0 0, .int .i64 4])) w) := hs2
    by_cases hk0 : k < 0
    · generalize D.piles.length = N at *
      clear hcode hs1 hs2 stay hrd h1 h2 h3 h4 h5 h6 hp1 hp2 hp3 c0 c4 cp1 h hi hz hrow hOr hpg hzo hzp e0 e1 hvl hcr hrd2 hk Hf
      go_enter Try.func15, Try.ntmps15
      go_wp2_with (first | (go_at_call 42; refine Hf2.out.mono ?_; rintro e w1 ⟨rfl, rfl⟩) | (go_at_call 43; refine Hh.out.mono ?_; rintro e w1 ⟨rfl, rfl⟩))
      go_ret2
      exact Hs.out
    · have hk1 : 0 ≤ k := by omega
      have hk2 : (p.pages.length : Int) ≤ k := by omega
      generalize D.piles.length = N at *
      generalize p.pages.length = n at *
      clear hcode hs1 hs2 stay hrd h1 h2 h3 h4 h5 h6 hp1 hp2 hp3 c0 c4 cp1 h hi hz hrow hOr hpg hzo hzp e0 e1 hvl hcr hrd2 hk Hf
      go_enter Try.func15, Try.ntmps15
      go_wp2_with (first | (go_at_call 42; refine Hf2.out.mono ?_; rintro e w1 ⟨rfl, rfl⟩) | (go_at_call 43; refine Hh.out.mono ?_; rintro e w1 ⟨rfl, rfl⟩))
      go_ret2
      exact Hs.out
  obtain ⟨kn, rfl⟩ : ∃ kn : Nat, k = (kn : Int) := ⟨k.toNat, by omega⟩
  have hkn : kn < p.pages.length := by omega
  obtain ⟨l, hl⟩ : ∃ l, p.pages[kn]? = some l := ⟨_, List.getElem?_eq_getElem hkn⟩
  obtain ⟨u, hu, hat⟩ := hpg kn l hl
  obtain ⟨b, rfl, hbl, hcu⟩ := hrd2 kn u hu
  have hrc : readCode P D (zn : Int) (kn : Int) = 0 := by unfold readCode; rw [if_neg (by rw [hcode]; simp), hzo, if_neg (by intro hh; exact hh hk)]
  have hrb : readBytes P D (zn : Int) (kn : Int) = l := by unfold readBytes; rw [if_pos hrc, hzo]; simp [List.getD, hl]
  rw [hrc, hrb]
  have Hat : Hid (RTellPost w O l 0 (.returned (.tuple #[u, .int .i64 0])) w) := ⟨u, rfl, hat.1, fun g hg => by rw [hat.2 g hg]; simp, rfl⟩
  obtain ⟨Au, cu, rfl, _, _, _⟩ := hat.1.rb
  have hk2 : (kn : Int) < (p.pages.length : Int) := by omega
  generalize D.piles.length = N at *
  generalize p.pages.length = n at *
  clear hcode stay hrd h1 h2 h3 h4 h5 h6 hp1 hp2 hp3 c0 c4 cp1 h hi hz hrow hOr hpg hzo hzp e0 e1 hvl hcr hrd2 hk hl hat hrc hrb hkn Hf
  go_enter Try.func15, Try.ntmps15
  go_wp2_with (first | (go_at_call 42; refine Hf2.out.mono ?_; rintro e w1 ⟨rfl, rfl⟩) | (go_at_call 43; refine Hh.out.mono ?_; rintro e w1 ⟨rfl, rfl⟩))
  go_ret2
  exact Hat.out
end Go.Proofs.Ytdnlikhfemhmeaa
