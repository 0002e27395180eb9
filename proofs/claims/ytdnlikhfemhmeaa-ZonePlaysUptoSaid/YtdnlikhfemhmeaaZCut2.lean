/-
  One pile of a drive is cut.
-/
import Derived.Test.YtdnlikhfemhmeaaZModel
namespace Go.Proofs.Ytdnlikhfemhmeaa
open Go.RowKit

theorem Kept.agree {K : Nat → Prop} {T : Tag → Prop} {w w' : World} {O : Nat → Option Tag} (h : Kept K w w') (hK : ∀ b t, O b = some t → T t → K b) : Agree T w O w' O :=
  fun b t hlt hb ht => ⟨h.block b hlt (hK b t hb ht), hb⟩

theorem pcut_any (i pw d g z : Nat) (cs : List Value) (D : Drv) (O : Nat → Option Tag) (p : Pile) (k : Int) (w : World) (hok : D.Ok)
    (h1 : Cells w d 71 [.pointer (some ⟨pw, 0, none⟩), .slice (some ⟨g, 0, none⟩) D.piles.length D.piles.length, .int .i64 (D.cap : Int), .int .i64 (D.size : Int), .bool D.lost]) (h2 : O d = some (.drv i))
    (h3 : Cells w g 91 cs) (h4 : O g = some (.piles i)) (h5 : cs.length = D.piles.length * 2) (h6 : ∀ (z : Nat) p, D.piles[z]? = some p → PileAt w O i z cs p)
    (hz : D.piles[z]? = some p) (hlt : p.firm < p.pages.length) :
    Calls Try.prog 49 #[.pointer (some ⟨g, z * 2, none⟩), .int .i64 k] w fun e w' => e = .returned (.tuple #[]) ∧
      DrvAt w' O i pw d { D with piles := D.piles.set z (p.cut k) } ∧ Kept (fun x => O x ≠ some (.piles i) ∧ O x ≠ some (.row i z)) w w' := by
  obtain ⟨v, e0, e1, vs, hrow, hO, hvl, hpg⟩ := h6 z p hz
  have hmem : p ∈ D.piles := List.mem_of_getElem? hz
  have hcap := hok.pages p hmem
  have hc2 := hok.cap
  have hkl := p.keep_le k (Nat.le_of_lt hlt)
  have hzl : z < D.piles.length := (List.getElem?_eq_some_iff.1 hz).1
  rcases hrow.form with ⟨_, hnil⟩ | ⟨b, c, cur, rfl, _, hcur, hnc, hcm, hlc, htk⟩
  · rw [hnil] at hvl
    simp at hvl
    omega
  have hOb : O b = some (.row i z) := hO b rfl
  have hgb : g ≠ b := by intro e; rw [e, hOb] at h4; cases h4
  rw [hvl] at e0 hnc htk
  have main : Calls Try.prog 49 #[.pointer (some ⟨g, z * 2, none⟩), .int .i64 k] w (CutPost w g (z * 2) b p.pages.length c (p.keep k) cs cur) := by
    unfold Pile.keep at hkl ⊢
    by_cases hk : 0 ≤ k
    · rw [if_pos hk] at hkl ⊢
      exact cut_some g (z * 2) b p.pages.length c p.firm _ k cs cur w hk hlt (by omega) hnc rfl hkl.2 h3 hcur hlc hgb e0 e1
    · rw [if_neg hk] at hkl ⊢
      exact cut_none g (z * 2) b p.pages.length c (p.firm + 0) k cs cur w (by omega) (by omega) (by omega) hnc h3 hcur hlc hgb e0 e1
  refine main.mono fun e w' hpost => ?_
  obtain ⟨rfl, hkept, hcs', cur', hcur', hcl', hct'⟩ := hpost
  have hdg : d ≠ g := by intro e; rw [e, h4] at h2; cases h2
  have hdb : d ≠ b := by intro e; rw [e, hOb] at h2; cases h2
  have hag : Agree (fun t => t ≠ .piles i ∧ t ≠ .row i z) w O w' O := hkept.agree fun x t hx ht => ⟨fun e => ht.1 (by rw [e, h4] at hx; cases hx; rfl), fun e => ht.2 (by rw [e, hOb] at hx; cases hx; rfl)⟩
  refine ⟨rfl, ⟨g, _, ?_, h2, hcs', h4, ?_, ?_⟩, hkept.mono fun x _ hx => ⟨fun e => hx.1 (by rw [e]; exact h4), fun e => hx.2 (by rw [e]; exact hOb)⟩⟩
  · simp only [List.length_set]
    exact h1.move (hkept.block d h1.lt ⟨hdg, hdb⟩)
  · simp only [List.length_set]
    exact h5
  · intro z' p' hz'
    by_cases e : z' = z
    · subst e
      simp only [List.getElem?_set_self hzl, Option.some.injEq] at hz'
      subst hz'
      refine ⟨.slice (some ⟨b, 0, none⟩) (p.keep k) c, ?_, ?_, vs.take (p.keep k), ?_, ?_, ?_, ?_⟩
      · rw [List.getElem?_set_self (by simp; omega)]
      · rw [List.getElem?_set_ne (by omega), List.getElem?_set_self (by omega)]
        rfl
      · have hlen : (vs.take (p.keep k)).length = p.keep k := by rw [List.length_take]; omega
        have h7 := OwnV.mk (w := w') (base := 0) (e := 46) (xs := vs.take (p.keep k)) (g := b) (cap := c) (cur := cur') (Nat.zero_le _) hcur' (by omega) hcm (by omega) (by
          rw [hlen, hct', ← htk, List.take_take, show min (p.keep k) p.pages.length = p.keep k by omega])
        rw [hlen] at h7
        exact h7
      · intro g' hg'
        cases hg'
        exact hOb
      · simp only [Pile.cut, List.length_take]
        omega
      · intro j l hl
        simp only [Pile.cut, List.getElem?_take] at hl
        split at hl
        · rename_i hj
          obtain ⟨u, hu, hat⟩ := hpg j l hl
          exact ⟨u, by rw [List.getElem?_take, if_pos hj]; exact hu, hat.keep hag ⟨(by intro h; cases h), (by intro h; cases h)⟩⟩
        · cases hl
    · have hz2 : D.piles[z']? = some p' := by
        rw [List.getElem?_set_ne (fun h => e h.symm)] at hz'
        exact hz'
      obtain ⟨v', a0, a1, a2⟩ := h6 z' p' hz2
      refine ⟨v', ?_, ?_, a2.keep hag ⟨by (intro h; cases h), by (intro h; cases h; exact e rfl)⟩ (fun k => ⟨by (intro h; cases h), by (intro h; cases h)⟩)⟩
      · rw [List.getElem?_set_ne (by omega), List.getElem?_set_ne (by omega)]
        exact a0
      · rw [List.getElem?_set_ne (by omega), List.getElem?_set_ne (by omega)]
        exact a1
end Go.Proofs.Ytdnlikhfemhmeaa
