/-
  What a drive tells: how many pages a zone has; a page's bytes.
-/
import Derived.Test.YtdnlikhfemhmeaaZAppend
namespace Go.Proofs.Ytdnlikhfemhmeaa
open Go.RowKit

def ptrCode (P : Pow) (D : Drv) (z : Int) : Nat := if readyCode P.off D.lost ≠ 0 then readyCode P.off D.lost else if ¬ (0 ≤ z ∧ z < (D.piles.length : Int)) then 1 else 0
def ptrNum (P : Pow) (D : Drv) (z : Int) : Nat := if ptrCode P D z = 0 then (zoneOf D z).pages.length else 0

set_option maxRecDepth 20000 in
set_option maxHeartbeats 1000000 in
theorem pointer_any (pw i d : Nat) (P : Pow) (ds : List (Nat × Drv)) (D : Drv) (O : Nat → Option Tag) (z : Int) (w : World) (h : SysAt w O pw P ds) (hi : ds[i]? = some (d, D)) :
    Calls Try.prog 19 #[.pointer (some ⟨d, 0, none⟩), .int .i64 z] w fun e w' => e = .returned (.tuple #[.int .i64 (ptrNum P D z : Nat), .int .i64 (ptrCode P D z : Nat)]) ∧ w = w' := by
  obtain ⟨g, cs, h1, h2, h3, h4, h5, h6⟩ := (h.drv i d D hi).1
  obtain ⟨dv, Ap, cp, hp1, hp2, hp3⟩ := h.pow
  have c0 := h1.cell (i := 0) rfl
  have cs1 := h1.cell (i := 1) rfl
  have c4 := h1.cell (i := 4) rfl
  have cp1 := hp1.cell (i := 1) rfl
  by_cases hrd : readyCode P.off D.lost = 0
  case neg =>
    have Hf := Lib.hid (find_bad pw d g D.piles.length P.off D.lost z w c0 cp1 c4 hrd)
    have hcode : ptrCode P D z = readyCode P.off D.lost := by unfold ptrCode; rw [if_pos hrd]
    have hnum : ptrNum P D z = 0 := by unfold ptrNum; rw [if_neg (by rw [hcode]; exact hrd)]
    rw [hcode, hnum]
    have hne : (((readyCode P.off D.lost : Nat) : Int) != 0) = true := by simp; exact hrd
    generalize readyCode P.off D.lost = r at *
    clear hcode hnum hrd h1 h2 h3 h4 h5 h6 hp1 hp2 hp3 c0 cs1 c4 cp1 h hi
    go_enter Try.func19, Try.ntmps19
    go_wp2_with (go_at_call 39; refine Hf.out.mono ?_; rintro e w1 ⟨rfl, rfl⟩)
    go_ret2
    exact ⟨rfl, rfl⟩
  have hoff : P.off = false := by unfold readyCode at hrd; revert hrd; cases P.off <;> simp
  have hlost : D.lost = false := by unfold readyCode at hrd; rw [hoff] at hrd; revert hrd; cases D.lost <;> simp
  rw [hoff] at cp1
  rw [hlost] at c4
  by_cases hz : 0 ≤ z ∧ z < (D.piles.length : Int)
  case neg =>
    have Hf := Lib.hid (find_out pw d g D.piles.length z w c0 cp1 c4 cs1 hz)
    have hcode : ptrCode P D z = 1 := by unfold ptrCode; rw [if_neg (by simp [hrd]), if_pos hz]
    have hnum : ptrNum P D z = 0 := by unfold ptrNum; rw [if_neg (by rw [hcode]; decide)]
    rw [hcode, hnum]
    clear hcode hnum hrd h1 h2 h3 h4 h5 h6 hp1 hp2 hp3 c0 cs1 c4 cp1 h hi hz
    go_enter Try.func19, Try.ntmps19
    go_wp2_with (go_at_call 39; refine Hf.out.mono ?_; rintro e w1 ⟨rfl, rfl⟩)
    go_ret2
    exact ⟨rfl, rfl⟩
  obtain ⟨zn, rfl⟩ : ∃ zn : Nat, z = (zn : Int) := ⟨z.toNat, by omega⟩
  have hzn : zn < D.piles.length := by omega
  have Hf := Lib.hid (find_in pw d g D.piles.length zn w c0 cp1 c4 cs1 hzn)
  obtain ⟨p, hzp⟩ : ∃ p, D.piles[zn]? = some p := ⟨_, List.getElem?_eq_getElem hzn⟩
  have hzo : zoneOf D (zn : Int) = p := by simp [zoneOf, List.getD, hzp]
  have hcode : ptrCode P D (zn : Int) = 0 := by unfold ptrCode; rw [if_neg (by simp [hrd]), if_neg (by intro hh; exact hh hz)]
  have hnum : ptrNum P D (zn : Int) = p.pages.length := by unfold ptrNum; rw [if_pos hcode, hzo]
  obtain ⟨v, e0, e1, vs, hrow, hOr, hvl, hpg⟩ := h6 zn p hzp
  obtain ⟨Ar, cr, rfl, hcr, _, _⟩ := hrow.rd
  have hc0 := h3.cell e0
  rw [hvl] at hc0
  rw [hcode, hnum]
  generalize p.pages.length = n at *
  clear hcode hnum hrd h1 h2 h3 h4 h5 h6 hp1 hp2 hp3 c0 cs1 c4 cp1 h hi hz hrow hOr hpg hzo hzp e0 e1 hvl hcr
  go_enter Try.func19, Try.ntmps19
  go_wp2_with (go_at_call 39; refine Hf.out.mono ?_; rintro e w1 ⟨rfl, rfl⟩)
  go_ret2
  exact ⟨rfl, rfl⟩

def readCode (P : Pow) (D : Drv) (z k : Int) : Nat := if ptrCode P D z ≠ 0 then ptrCode P D z else if ¬ (0 ≤ k ∧ k < ((zoneOf D z).pages.length : Int)) then 4 else 0
def readBytes (P : Pow) (D : Drv) (z k : Int) : List UInt8 := if readCode P D z k = 0 then (zoneOf D z).pages.getD k.toNat [] else []
def ReadPost (w : World) (l : List UInt8) (c : Nat) (e : Ending) (w' : World) : Prop := ∃ v, e = .returned (.tuple #[v, .int .i64 (c : Int)]) ∧ Own w' w.heap.size v l ∧ Below w.heap.size w w'

set_option maxRecDepth 20000 in
set_option maxHeartbeats 1000000 in
theorem read_any (pw i d : Nat) (P : Pow) (ds : List (Nat × Drv)) (D : Drv) (O : Nat → Option Tag) (z k : Int) (w : World) (h : SysAt w O pw P ds) (hi : ds[i]? = some (d, D)) :
    Calls Try.prog 14 #[.pointer (some ⟨d, 0, none⟩), .int .i64 z, .int .i64 k] w (ReadPost w (readBytes P D z k) (readCode P D z k)) := by
  obtain ⟨g, cs, h1, h2, h3, h4, h5, h6⟩ := (h.drv i d D hi).1
  have hok := (h.drv i d D hi).2
  obtain ⟨dv, Ap, cp, hp1, hp2, hp3⟩ := h.pow
  have c0 := h1.cell (i := 0) rfl
  have cs1 := h1.cell (i := 1) rfl
  have c4 := h1.cell (i := 4) rfl
  have cp1 := hp1.cell (i := 1) rfl
  have stay : ∀ c, readCode P D z k = c → c ≠ 0 → ReadPost w (readBytes P D z k) (readCode P D z k) = ReadPost w [] c ∧ ReadPost w [] c (.returned (.tuple #[.slice none 0 0, .int .i64 (c : Int)])) w := by
    intro c hc hne
    have hb : readBytes P D z k = [] := by unfold readBytes; rw [if_neg (by rw [hc]; exact hne)]
    exact ⟨by rw [hc, hb], _, rfl, Own.nil _ _, Below.refl _ _⟩
  by_cases hrd : readyCode P.off D.lost = 0
  case neg =>
    have Hf := Lib.hid (find_bad pw d g D.piles.length P.off D.lost z w c0 cp1 c4 hrd)
    have hcode : ptrCode P D z = readyCode P.off D.lost := by unfold ptrCode; rw [if_pos hrd]
    obtain ⟨hs1, hs2⟩ := stay (readyCode P.off D.lost) (by unfold readCode; rw [if_pos (by rw [hcode]; exact hrd), hcode]) hrd
    rw [hs1]
    have Hs := Lib.hid hs2
    have hne : (((readyCode P.off D.lost : Nat) : Int) != 0) = true := by simp; exact hrd
    generalize readyCode P.off D.lost = r at *
    clear hcode hs1 hs2 stay hrd h1 h2 h3 h4 h5 h6 hp1 hp2 hp3 c0 cs1 c4 cp1 h hi hok
    go_enter Try.func14, Try.ntmps14
    go_wp2_with (go_at_call 39; refine Hf.out.mono ?_; rintro e w1 ⟨rfl, rfl⟩)
    go_ret2
    exact Hs.out
  have hoff : P.off = false := by unfold readyCode at hrd; revert hrd; cases P.off <;> simp
  have hlost : D.lost = false := by unfold readyCode at hrd; rw [hoff] at hrd; revert hrd; cases D.lost <;> simp
  rw [hoff] at cp1
  rw [hlost] at c4
  by_cases hz : 0 ≤ z ∧ z < (D.piles.length : Int)
  case neg =>
    have Hf := Lib.hid (find_out pw d g D.piles.length z w c0 cp1 c4 cs1 hz)
    have hcode : ptrCode P D z = 1 := by unfold ptrCode; rw [if_neg (by simp [hrd]), if_pos hz]
    obtain ⟨hs1, hs2⟩ := stay 1 (by unfold readCode; rw [if_pos (by rw [hcode]; decide), hcode]) (by decide)
    rw [hs1]
    have Hs : Hid (ReadPost w [] 1 (.returned (.tuple #[.slice none 0 0, .int .i64 1])) w) := hs2
    clear hcode hs1 hs2 stay hrd h1 h2 h3 h4 h5 h6 hp1 hp2 hp3 c0 cs1 c4 cp1 h hi hok hz
    go_enter Try.func14, Try.ntmps14
    go_wp2_with (go_at_call 39; refine Hf.out.mono ?_; rintro e w1 ⟨rfl, rfl⟩)
    go_ret2
    exact Hs.out
  obtain ⟨zn, rfl⟩ : ∃ zn : Nat, z = (zn : Int) := ⟨z.toNat, by omega⟩
  have hzn : zn < D.piles.length := by omega
  have Hf := Lib.hid (find_in pw d g D.piles.length zn w c0 cp1 c4 cs1 hzn)
  obtain ⟨p, hzp⟩ : ∃ p, D.piles[zn]? = some p := ⟨_, List.getElem?_eq_getElem hzn⟩
  have hzo : zoneOf D (zn : Int) = p := by simp [zoneOf, List.getD, hzp]
  have hcode : ptrCode P D (zn : Int) = 0 := by unfold ptrCode; rw [if_neg (by simp [hrd]), if_neg (by intro hh; exact hh hz)]
  obtain ⟨v, e0, e1, vs, hrow, hOr, hvl, hpg⟩ := h6 zn p hzp
  obtain ⟨Ar, cr, rfl, hcr, _, hrd2⟩ := hrow.rd
  have hc0 := h3.cell e0
  rw [hvl] at hc0
  have Hh := Lib.hid (pileHas_any g (zn * 2) Ar p.pages.length cr k w hc0)
  by_cases hk : 0 ≤ k ∧ k < (p.pages.length : Int)
  case neg =>
    obtain ⟨hs1, hs2⟩ := stay 4 (by unfold readCode; rw [if_neg (by rw [hcode]; simp), hzo, if_pos hk]) (by decide)
    rw [hs1]
    have Hs : Hid (ReadPost w [] 4 (.returned (.tuple #[.slice none 0 0, .int .i64 4])) w) := hs2
    rw [show decide (0 ≤ k ∧ k < (p.pages.length : Int)) = false from decide_eq_false hk] at Hh
    clear hcode hs1 hs2 stay hrd h1 h2 h3 h4 h5 h6 hp1 hp2 hp3 c0 cs1 c4 cp1 h hi hok hz hrow hOr hpg hzo hzp e0 e1 hvl hcr hrd2 hc0 hk
    go_enter Try.func14, Try.ntmps14
    go_wp2_with (first | (go_at_call 39; refine Hf.out.mono ?_; rintro e w1 ⟨rfl, rfl⟩) | (go_at_call 40; refine Hh.out.mono ?_; rintro e w1 ⟨rfl, rfl⟩))
    go_ret2
    exact Hs.out
  obtain ⟨kn, rfl⟩ : ∃ kn : Nat, k = (kn : Int) := ⟨k.toNat, by omega⟩
  have hkn : kn < p.pages.length := by omega
  obtain ⟨l, hl⟩ : ∃ l, p.pages[kn]? = some l := ⟨_, List.getElem?_eq_getElem hkn⟩
  obtain ⟨u, hu, hat⟩ := hpg kn l hl
  obtain ⟨b, rfl, hbl, hcu⟩ := hrd2 kn u hu
  obtain ⟨Au, cu, rfl, hcu2, hru, _⟩ := hat.1.rb
  have hll : l.length ≤ 65536 := by have := hok.sizes p (List.mem_of_getElem? hzp) l (List.mem_of_getElem? hl); have := hok.high; omega
  have hrc : readCode P D (zn : Int) (kn : Int) = 0 := by unfold readCode; rw [if_neg (by rw [hcode]; simp), hzo, if_neg (by intro hh; exact hh hk)]
  have hrb : readBytes P D (zn : Int) (kn : Int) = l := by unfold readBytes; rw [if_pos hrc, hzo]; simp [List.getD, hl]
  rw [hrc, hrb]
  have Hcl := Lib.hid (clone_any Au cu l w w.heap.size hru (Nat.le_refl _) (by omega))
  rw [show decide (0 ≤ (kn : Int) ∧ (kn : Int) < (p.pages.length : Int)) = true from decide_eq_true hk] at Hh
  have hk2 : (kn : Int) < (p.pages.length : Int) := by omega
  generalize p.pages.length = n at *
  clear hcode stay hrd h1 h2 h3 h4 h5 h6 hp1 hp2 hp3 c0 cs1 c4 cp1 h hi hok hz hrow hOr hpg hzo hzp e0 e1 hvl hcr hrd2 hk hl hat hru hrc hrb hll hcu2 hkn
  go_enter Try.func14, Try.ntmps14
  go_wp2_with (first | (go_at_call 39; refine Hf.out.mono ?_; rintro e w1 ⟨rfl, rfl⟩) | (go_at_call 40; refine Hh.out.mono ?_; rintro e w1 ⟨rfl, rfl⟩) | (go_at_call 41; refine Hcl.out.mono ?_; rintro e w1 ⟨v, rfl, hv, hb⟩; have Hv := Lib.hid hv; have Hb := Lib.hid hb; clear hv hb))
  go_ret2
  exact ⟨v, rfl, Hv.out, Hb.out⟩
end Go.Proofs.Ytdnlikhfemhmeaa
