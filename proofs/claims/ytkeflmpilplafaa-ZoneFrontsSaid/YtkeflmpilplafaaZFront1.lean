/-
  Fronts of zones: plain reckoning.
-/
import Derived.Test.YtkeflmpilplafaaZKnown2
namespace Go.Proofs.Ytkeflmpilplafaa
open Go.RowKit

theorem sys_fresh' {w : World} {O : Nat → Option Tag} {pw : Nat} {P : Pow} {ds : List (Nat × Drv)} (h : SysAt w O pw P ds) {b : Nat} (hb : w.heap.size ≤ b) : O b = none := by
  rcases hO : O b with _ | t
  · rfl
  · have := h.fresh b (by rw [hO]; simp)
    omega
/-- a page that says x -/
def pg (x : UInt8) : List UInt8 := x :: List.replicate 31 0
def pileF (l : List UInt8) (s : Nat) : Pile := ⟨l.map pg, s⟩
def DF (al : List (List UInt8)) (sf : List Nat) : Drv := ⟨List.zipWith pileF al sf, 300, 32, false⟩
def Pf (n : Nat) : Pow := ⟨false, n, 0, []⟩
theorem pg_len (x : UInt8) : (pg x).length = 32 := rfl
theorem DF_len (al : List (List UInt8)) (sf : List Nat) (h1 : al.length = 4) (h2 : sf.length = 4) : (DF al sf).piles.length = 4 := by
  simp [DF, h1, h2]
theorem DF_at (al : List (List UInt8)) (sf : List Nat) (z : Nat) (l : List UInt8) (s : Nat) (h1 : al[z]? = some l) (h2 : sf[z]? = some s) : (DF al sf).piles[z]? = some (pileF l s) := by
  simp [DF, List.getElem?_zipWith, h1, h2]
theorem zone_DF (al : List (List UInt8)) (sf : List Nat) (z : Nat) (l : List UInt8) (s : Nat) (h1 : al[z]? = some l) (h2 : sf[z]? = some s) : zoneOf (DF al sf) (z : Int) = pileF l s := by
  unfold zoneOf
  rw [Int.toNat_natCast, List.getD_eq_getElem?_getD, DF_at al sf z l s h1 h2]
  rfl
theorem DF_add (al : List (List UInt8)) (sf : List Nat) (z : Nat) (l : List UInt8) (s : Nat) (x : UInt8) (h1 : al[z]? = some l) (h2 : sf[z]? = some s) : (DF al sf).add z (pg x) = DF (al.set z (l ++ [x])) sf := by
  unfold Drv.add
  have hp := DF_at al sf z l s h1 h2
  have hg : (DF al sf).piles.getD z ⟨[], 0⟩ = pileF l s := by rw [List.getD_eq_getElem?_getD, hp]; rfl
  rw [hg]
  unfold DF
  congr 1
  apply List.ext_getElem?
  intro j
  have hz := (List.getElem?_eq_some_iff.1 hp).1
  by_cases e : j = z
  · subst e
    have ha := (List.getElem?_eq_some_iff.1 h1).1
    rw [List.getElem?_set_self (by simpa [DF] using hz), List.getElem?_zipWith, List.getElem?_set_self ha, h2]
    simp [pileF, Pile.add]
  · rw [List.getElem?_set_ne (fun h => e h.symm), List.getElem?_zipWith, List.getElem?_zipWith, List.getElem?_set_ne (fun h => e h.symm)]
theorem DF_flush (al : List (List UInt8)) (sf : List Nat) (h : al.length = sf.length) : (DF al sf).flush = DF al (al.map List.length) := by
  unfold Drv.flush DF
  congr 1
  apply List.ext_getElem?
  intro j
  simp only [List.getElem?_map, List.getElem?_zipWith]
  rcases h1 : al[j]? with _ | l
  · simp
  · have hj := (List.getElem?_eq_some_iff.1 h1).1
    rw [List.getElem?_eq_getElem (show j < sf.length by omega)]
    simp [pileF, Pile.flush]
theorem DF_new : Drv.new 4 300 32 = DF [[], [], [], []] [0, 0, 0, 0] := rfl
theorem go_DF (n : Nat) (al : List (List UInt8)) (sf : List Nat) (z : Nat) (l : List UInt8) (s : Nat) (x : UInt8) (h3 : al.length = 4) (h4 : sf.length = 4) (h1 : al[z]? = some l) (h2 : sf[z]? = some s) (hl : l.length < 300) :
    appCode (Pf n) (DF al sf) (z : Int) (pg x) = 0 ∧ appP (Pf n) (DF al sf) (z : Int) (pg x) = Pf (n + 1) ∧ ∀ d, appD (Pf n) [(d, DF al sf)] 0 d (DF al sf) (z : Int) (pg x) = [(d, DF (al.set z (l ++ [x])) sf)] := by
  have hz := zone_DF al sf z l s h1 h2
  have hzl : z < 4 := by rw [← h3]; exact (List.getElem?_eq_some_iff.1 h1).1
  have hp : (zoneOf (DF al sf) (z : Int)).pages.length = l.length := by rw [hz]; simp [pileF]
  have hin : 0 ≤ (z : Int) ∧ (z : Int) < ((DF al sf).piles.length : Int) := by rw [DF_len al sf h3 h4]; omega
  have hg : appGo (Pf n) (DF al sf) (z : Int) (pg x) = true := by
    unfold appGo
    exact decide_eq_true ⟨rfl, hin, rfl, by rw [hp]; exact hl⟩
  refine ⟨?_, ?_, fun d => ?_⟩
  · unfold appCode
    have hpl : (pg x).length = (DF al sf).size := rfl
    rw [if_neg (by intro h; exact h rfl), if_neg (by intro h; rcases h with h | h; exact h hin; exact h hpl), hp, if_neg (by show ¬ 300 ≤ _; omega)]
    rfl
  · unfold appP
    rw [hg]
    rfl
  · unfold appD
    rw [hg, if_pos rfl, if_pos (show writeOk (Pf n) = true from rfl), Int.toNat_natCast, DF_add al sf z l s x h1 h2]
    rfl
theorem fl_DF (n : Nat) (al : List (List UInt8)) (sf : List Nat) (h : al.length = sf.length) :
    flCode (Pf n) (DF al sf) = 0 ∧ flP (Pf n) (DF al sf) = Pf (n + 1) ∧ ∀ d, flD (Pf n) [(d, DF al sf)] 0 d (DF al sf) = [(d, DF al (al.map List.length))] := by
  refine ⟨rfl, rfl, fun d => ?_⟩
  rw [← DF_flush al sf h]
  rfl
/-- what a cut leaves of each pile -/
theorem cutPiles_at : ∀ (ps : List Pile) (picks : List Int) (z : Nat) (p : Pile), ps[z]? = some p → p.firm ≤ p.pages.length → ∃ m q, (cutPiles ps picks)[z]? = some q ∧ q.pages = p.pages.take m ∧ p.firm ≤ m ∧ m ≤ p.pages.length
  | [], _, z, p, h, _ => by simp at h
  | p0 :: ps, picks, 0, p, h, hf => by
    simp at h
    subst h
    unfold cutPiles
    split
    · rename_i e
      exact ⟨p0.pages.length, p0, by simp, by simp, by omega, Nat.le_refl _⟩
    · exact ⟨p0.keep (picks.headD 0), p0.cut (picks.headD 0), by simp, rfl, (p0.keep_le _ hf).1, (p0.keep_le _ hf).2⟩
  | p0 :: ps, picks, z + 1, p, h, hf => by
    simp at h
    unfold cutPiles
    split
    · obtain ⟨m, q, h1, h2⟩ := cutPiles_at ps picks z p h hf
      exact ⟨m, q, by simpa using h1, h2⟩
    · obtain ⟨m, q, h1, h2⟩ := cutPiles_at ps picks.tail z p h hf
      exact ⟨m, q, by simpa using h1, h2⟩
/-- behind the cut: each zone has a front, with all that was firm -/
theorem cut_DF (al : List (List UInt8)) (sf : List Nat) (picks : List Int) (z : Nat) (l : List UInt8) (s : Nat) (h1 : al[z]? = some l) (h2 : sf[z]? = some s) (hs : s ≤ l.length) :
    ∃ m, s ≤ m ∧ m ≤ l.length ∧ zoneOf ((DF al sf).cut picks) (z : Int) = ⟨(l.take m).map pg, (zoneOf ((DF al sf).cut picks) (z : Int)).firm⟩ := by
  obtain ⟨m, q, e1, e2, e3, e4⟩ := cutPiles_at _ picks z _ (DF_at al sf z l s h1 h2) (by simpa [pileF] using hs)
  simp only [pileF, List.length_map] at e2 e3 e4
  have hz : zoneOf ((DF al sf).cut picks) (z : Int) = q := by
    unfold zoneOf Drv.cut
    rw [Int.toNat_natCast, List.getD_eq_getElem?_getD, e1]
    rfl
  refine ⟨m, e3, e4, ?_⟩
  rw [hz]
  obtain ⟨qp, qf⟩ := q
  simp only at e2
  rw [e2, List.map_take]
end Go.Proofs.Ytkeflmpilplafaa
