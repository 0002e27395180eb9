/-
  The n-th write of some drives: plain reckoning.
-/
import Derived.Test.YtkeflmpilplafaaZKnown2
namespace Go.Proofs.Ytkeflmpilplafaa
open Go.RowKit

def Dz (c : Nat) : Drv := ⟨[⟨List.replicate c zs, 0⟩], 300, 32, false⟩
/-- the power behind i writes, the m-th of which is armed -/
def Pi (i m : Nat) : Pow := if i < m then ⟨false, i, m - i, []⟩ else ⟨true, m - 1, 0, []⟩
def DsOk (dl : List Nat) (i : Nat) (ds : List (Nat × Drv)) : Prop := ds.map (·.1) = dl ∧ ∀ x ∈ ds, ∃ c, c ≤ i ∧ x.2 = Dz c

theorem Dz_cut (c : Nat) : (Dz c).cut [] = Dz 0 := by
  unfold Drv.cut Dz
  by_cases h : c = 0
  · subst h; rfl
  · simp only [cutPiles, List.length_replicate, if_neg h]
    simp [Pile.cut, Pile.keep]
theorem Dz_add (c : Nat) : (Dz c).add 0 zs = Dz (c + 1) := by
  unfold Drv.add Dz Pile.add
  simp [List.replicate_succ']
theorem zone_Dz (c : Nat) : (zoneOf (Dz c) 0).pages.length = c := by
  unfold zoneOf Dz
  simp
theorem ready_off : readyCode true false = 8 := rfl
theorem ready_on : readyCode false false = 0 := rfl

theorem go_Dz (P : Pow) (c : Nat) (ho : P.off = false) (hc : c < 300) : appGo P (Dz c) 0 zs = true := by
  unfold appGo
  apply decide_eq_true
  refine ⟨by rw [ho]; rfl, ⟨by omega, by simp [Dz]⟩, by simp [Dz, zs], ?_⟩
  rw [zone_Dz]
  simpa [Dz] using hc
theorem code_Dz (P : Pow) (c : Nat) (ho : P.off = false) (hc : c < 300) : appCode P (Dz c) 0 zs = if writeOk P then 0 else 8 := by
  unfold appCode
  rw [if_neg (by rw [ho]; simp [Dz, readyCode]), if_neg (by simp [Dz, zs]), if_neg (by rw [zone_Dz]; simp [Dz]; omega)]

theorem step_go (P : Pow) (dl : List Nat) (i j d c : Nat) (ds : List (Nat × Drv)) (h : DsOk dl i ds) (hj : ds[j]? = some (d, Dz c)) (hc : c ≤ i) (hi : i ≤ 200) (ho : P.off = false) (hp : P.picks = []) :
    appP P (Dz c) 0 zs = writeP P ∧ DsOk dl (i + 1) (appD P ds j d (Dz c) 0 zs) := by
  have hg := go_Dz P c ho (by omega)
  refine ⟨by unfold appP; rw [hg]; rfl, ?_⟩
  unfold appD
  rw [hg, if_pos rfl]
  by_cases hw : writeOk P = true
  · rw [if_pos hw]
    refine ⟨?_, fun x hx => ?_⟩
    · rw [List.map_set, ← h.1]
      exact set_same _ _ _ (by rw [List.getElem?_map, hj]; rfl)
    · rcases List.mem_or_eq_of_mem_set hx with hx | rfl
      · obtain ⟨c', h1, h2⟩ := h.2 x hx
        exact ⟨c', by omega, h2⟩
      · exact ⟨c + 1, by omega, Dz_add c⟩
  · rw [if_neg hw]
    unfold writeD
    rw [ho, if_neg (by decide)]
    by_cases hl : P.left = 1
    · rw [if_pos hl, hp]
      refine ⟨by rw [List.map_map]; exact h.1, fun x hx => ?_⟩
      obtain ⟨y, hy, rfl⟩ := List.mem_map.1 hx
      obtain ⟨c', h1, h2⟩ := h.2 y hy
      exact ⟨0, by omega, by show y.2.cut [] = _; rw [h2, Dz_cut]⟩
    · rw [if_neg hl]
      exact ⟨h.1, fun x hx => by obtain ⟨c', h1, h2⟩ := h.2 x hx; exact ⟨c', by omega, h2⟩⟩

/-- one Append of the play -/
theorem step_play (dl : List Nat) (i m j d c : Nat) (ds : List (Nat × Drv)) (h : DsOk dl i ds) (hj : ds[j]? = some (d, Dz c)) (hc : c ≤ i) (hi : i ≤ 200) (hm : 1 ≤ m) :
    appCode (Pi i m) (Dz c) 0 zs = (if i + 1 < m then 0 else 8) ∧ appP (Pi i m) (Dz c) 0 zs = Pi (i + 1) m ∧ DsOk dl (i + 1) (appD (Pi i m) ds j d (Dz c) 0 zs) := by
  by_cases hlt : i < m
  · have e : Pi i m = ⟨false, i, m - i, []⟩ := by unfold Pi; rw [if_pos hlt]
    rw [e]
    obtain ⟨h1, h2⟩ := step_go ⟨false, i, m - i, []⟩ dl i j d c ds h hj hc hi rfl rfl
    refine ⟨?_, ?_, h2⟩
    · rw [code_Dz _ _ rfl (by omega)]
      unfold writeOk
      by_cases h3 : i + 1 < m
      · rw [if_pos h3]; simp; omega
      · rw [if_neg h3]; simp; omega
    · rw [h1]
      unfold writeP Pi
      simp only [Bool.false_eq_true, if_false]
      by_cases h3 : i + 1 < m
      · rw [if_neg (by omega), if_pos h3]
        congr 1
      · rw [if_pos (by omega), if_neg h3]
        congr 1
        omega
  · have e : Pi i m = ⟨true, m - 1, 0, []⟩ := by unfold Pi; rw [if_neg hlt]
    have e2 : Pi (i + 1) m = ⟨true, m - 1, 0, []⟩ := by unfold Pi; rw [if_neg (by omega)]
    rw [e, e2]
    have hg : appGo ⟨true, m - 1, 0, []⟩ (Dz c) 0 zs = false := by
      unfold appGo
      apply decide_eq_false
      rintro ⟨h1, _⟩
      simp [Dz, readyCode] at h1
    refine ⟨?_, ?_, ?_⟩
    · unfold appCode
      rw [if_pos (by simp [Dz, readyCode]), if_neg (by omega)]
      rfl
    · unfold appP
      rw [hg]
      rfl
    · unfold appD
      rw [hg]
      exact ⟨h.1, fun x hx => by obtain ⟨c', h1, h2⟩ := h.2 x hx; exact ⟨c', by omega, h2⟩⟩
/-- the last Append, with the power on again -/
theorem step_last (dl : List Nat) (i m j d c : Nat) (ds : List (Nat × Drv)) (h : DsOk dl i ds) (hj : ds[j]? = some (d, Dz c)) (hc : c ≤ i) (hi : i ≤ 200) (hm : 1 ≤ m) :
    (i + 1 = m → appCode { Pi i m with off := false } (Dz c) 0 zs = 8 ∧ (appP { Pi i m with off := false } (Dz c) 0 zs).off = true) ∧
    (i + 1 ≠ m → appCode { Pi i m with off := false } (Dz c) 0 zs = 0 ∧ (appP { Pi i m with off := false } (Dz c) 0 zs).writes = (if i < m then i else m - 1) + 1) := by
  have hp : ({ Pi i m with off := false } : Pow).picks = [] := by unfold Pi; split <;> rfl
  obtain ⟨h1, _⟩ := step_go { Pi i m with off := false } dl i j d c ds h hj hc hi rfl hp
  have hcode := code_Dz { Pi i m with off := false } c rfl (by omega)
  rw [h1, hcode]
  by_cases hlt : i < m
  · have e : ({ Pi i m with off := false } : Pow) = ⟨false, i, m - i, []⟩ := by unfold Pi; rw [if_pos hlt]
    rw [e]
    unfold writeOk writeP
    simp only [Bool.false_eq_true, if_false]
    refine ⟨fun h3 => ?_, fun h3 => ?_⟩
    · rw [if_pos (show m - i = 1 by omega)]
      have e2 : m - i = 1 := by omega
      rw [e2]
      exact ⟨rfl, rfl⟩
    · rw [if_neg (show ¬ m - i = 1 by omega), if_pos hlt]
      have e2 : (m - i == 1) = false := by simp; omega
      rw [e2]
      exact ⟨rfl, rfl⟩
  · have e : ({ Pi i m with off := false } : Pow) = ⟨false, m - 1, 0, []⟩ := by unfold Pi; rw [if_neg hlt]
    rw [e]
    unfold writeOk writeP
    simp only [Bool.false_eq_true, if_false]
    refine ⟨fun h3 => by omega, fun h3 => ?_⟩
    rw [if_neg hlt]
    exact ⟨rfl, rfl⟩
theorem Pi_off (i m : Nat) : (Pi i m).off = decide (m ≤ i) := by
  unfold Pi
  by_cases h : i < m
  · rw [if_pos h]; simp; omega
  · rw [if_neg h]; simp; omega
theorem Pi_left (i m : Nat) : (Pi i m).left ≤ m ∧ (Pi i m).writes ≤ i := by
  unfold Pi
  by_cases h : i < m
  · rw [if_pos h]; exact ⟨by simp, by simp⟩
  · rw [if_neg h]; exact ⟨by simp, by simp; omega⟩
end Go.Proofs.Ytkeflmpilplafaa
