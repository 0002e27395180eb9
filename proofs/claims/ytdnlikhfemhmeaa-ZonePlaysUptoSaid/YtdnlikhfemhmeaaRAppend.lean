/-
  The second saying's Append: a page more.
-/
import Derived.Test.YtdnlikhfemhmeaaRFlush
import Derived.Test.YtdnlikhfemhmeaaAppStep
namespace Go.Proofs.Ytdnlikhfemhmeaa
open Go.RowKit

theorem RSysAt.add {w w' : World} {O : Nat → Option Tag} {pw i d g z : Nat} {P : Pow} {ds : List (Nat × Drv)} {D : Drv} {p : Pile} {cs vs : List Value} {v : Value} {l : List UInt8} {e : Ending} (h : RSysAt w O pw P ds) (hi : ds[i]? = some (d, D))
    (h1 : Cells w d 75 [.pointer (some ⟨pw, 0, none⟩), .int .i64 (D.cap : Int), .int .i64 (D.size : Int), .slice (some ⟨g, 0, none⟩) D.piles.length D.piles.length, .bool D.lost]) (h2 : O d = some (.drv i))
    (h3 : Cells w g 93 cs) (h4 : O g = some (.piles i)) (h5 : cs.length = D.piles.length * 2) (h6 : ∀ (z : Nat) p, D.piles[z]? = some p → PileAt w O i z cs p)
    (hz : D.piles[z]? = some p) (c0 : cs[z * 2]? = some v) (c1 : cs[z * 2 + 1]? = some (.int .i64 (p.firm : Int))) (hrow : OwnV w 0 46 v vs) (hOr : ∀ g, v.ownBlock = some g → O g = some (.row i z)) (hvl : vs.length = p.pages.length)
    (hpg : ∀ (k : Nat) l, p.pages[k]? = some l → ∃ u, vs[k]? = some u ∧ PageAt w O (.page i z k) u l) (hpost : AddPost w g (z * 2) v vs l e w') (hl : l.length = D.size) (hp : p.pages.length < D.cap) (hlost : D.lost = false) :
    e = .returned (.tuple #[]) ∧ ∃ O', RSysAt w' O' pw P (ds.set i (d, D.add z l)) ∧ Ext w O w' O' := by
  obtain ⟨v', u, W, rfl, rfl, hv', hu, hkW, hb'⟩ := hpost
  refine ⟨rfl, ?_⟩
  have hok := (h.drv i d D hi).2.add hz hl hp hlost
  have hzl : z < D.piles.length := (List.getElem?_eq_some_iff.1 hz).1
  have hgv : v.ownBlock ≠ some g := fun e => by have := hOr g e; rw [h4] at this; cases this
  have hglt := h3.lt
  have hvlt : ∀ b, v.ownBlock = some b → b < w.heap.size := fun b hb => (hrow.ge b hb).2
  have hulo : ∀ b, u.ownBlock = some b → w.heap.size ≤ b ∧ b < W.heap.size := fun b hb => hu.lt b hb
  have hv'g : v'.ownBlock ≠ some g := by
    rcases hb' with e | ⟨b, e, hb⟩
    · rw [e]; exact hgv
    · rw [e]; intro e2; cases e2; omega
  have hv'lt : ∀ b, v'.ownBlock = some b → b < W.heap.size := fun b hb => (hv'.ge b hb).2
  have huv : ∀ b, u.ownBlock = some b → v'.ownBlock ≠ some b := by
    intro b hb hv2
    rcases hv'.form with ⟨q, _⟩ | ⟨b', cap', cur', q, _, q3, _⟩
    · rw [q] at hv2; cases hv2
    · rw [q] at hv2
      cases hv2
      rcases hu.2 with ⟨q4, _⟩ | ⟨b2, cap2, cur2, q4, _, q5, _⟩
      · rw [q4] at hb; cases hb
      · rw [q4] at hb
        cases hb
        unfold Cells at q3
        rw [q5] at q3
        simp at q3
  have hk : Kept (fun b => v.ownBlock ≠ some b ∧ b ≠ g) w (W.setCell ⟨g, z * 2, none⟩ v') := (hkW.mono fun b _ hb => hb.1).setCell (fun hh => hh.2 rfl) _
  have hsz : (W.setCell ⟨g, z * 2, none⟩ v').heap.size = W.heap.size := by simp [World.setCell]
  have hag : Agree (fun t => t ≠ .row i z ∧ t ≠ .piles i) w O (W.setCell ⟨g, z * 2, none⟩ v') (fun b => if b < w.heap.size then O b else if v'.ownBlock = some b then some (.row i z) else if u.ownBlock = some b then some (.page i z p.pages.length) else none) := by
    intro b t hlt hb ht
    refine ⟨hk.block b hlt ⟨fun e => ht.1 ?_, fun e => ht.2 ?_⟩, by simp only [if_pos hlt]; exact hb⟩
    · have := hOr b e; rw [hb] at this; cases this; rfl
    · rw [e, h4] at hb; cases hb; rfl
  refine ⟨fun b => if b < w.heap.size then O b else if v'.ownBlock = some b then some (.row i z) else if u.ownBlock = some b then some (.page i z p.pages.length) else none, h.change hi hk (fun b t hb ht => ⟨fun e => ht ?_, fun e => ht ?_⟩) (fun b hb => ⟨fun e => ?_, fun e => ?_⟩) (fun b hb => by simp only [if_pos hb]) (fun b hb => ?_) ?_ hok⟩
  · have := hOr b e; rw [hb] at this; cases this; rfl
  · rw [e, h4] at hb; cases hb; rfl
  · have := hOr b e; rw [hb] at this; cases this
  · rw [e, h4] at hb; cases hb
  · rw [hsz]
    by_cases q1 : b < w.heap.size
    · exact Nat.lt_of_lt_of_le q1 hkW.size
    · simp only [if_neg q1] at hb
      by_cases q2 : v'.ownBlock = some b
      · exact hv'lt b q2
      · simp only [if_neg q2] at hb
        by_cases q3 : u.ownBlock = some b
        · exact (hulo b q3).2
        · simp only [if_neg q3] at hb
          exact absurd rfl hb
  · have hg2 : D.piles.getD z ⟨[], 0⟩ = p := by simp [List.getD, hz]
    have hdg : d ≠ g := by intro e; rw [e, h4] at h2; cases h2
    have hdv : v.ownBlock ≠ some d := fun e => by have := hOr d e; rw [h2] at this; cases this
    have hWg : Cells W g 93 cs := h3.move (hkW.block g hglt hgv)
    refine ⟨g, cs.set (z * 2) v', ?_, by simp only [if_pos h1.lt]; exact h2, hWg.set _ _, by simp only [if_pos hglt]; exact h4, ?_, ?_⟩
    · simp only [Drv.add, List.length_set]
      exact h1.move (hk.block d h1.lt ⟨hdv, hdg⟩)
    · simp only [Drv.add, List.length_set]
      exact h5
    · intro z' p' hz'
      simp only [Drv.add, hg2] at hz'
      by_cases e : z' = z
      · subst e
        rw [List.getElem?_set_self hzl] at hz'
        cases hz'
        refine ⟨v', by rw [List.getElem?_set_self (by omega)], by rw [List.getElem?_set_ne (by omega)]; exact c1, vs ++ [u], hv'.move fun b hb => Below.heap_setCell _ _ _ _ (fun e => hv'g ((show b = g from e) ▸ hb)), fun b hb => ?_, by simp [Pile.add, hvl], fun k l' hl' => ?_⟩
        · by_cases q1 : b < w.heap.size
          · simp only [if_pos q1]
            rcases hb' with q | ⟨b2, q, q2⟩
            · exact hOr b (by rw [← q]; exact hb)
            · rw [q] at hb
              cases hb
              omega
          · simp only [if_neg q1, if_pos hb]
        · simp only [Pile.add] at hl'
          by_cases hk2 : k < p.pages.length
          · rw [List.getElem?_append_left hk2] at hl'
            obtain ⟨u2, hu2, hat⟩ := hpg k l' hl'
            exact ⟨u2, by rw [List.getElem?_append_left (by omega)]; exact hu2, hat.keep hag ⟨(by intro h; cases h), (by intro h; cases h)⟩⟩
          · rw [List.getElem?_append_right (by omega)] at hl'
            have hkk : k - p.pages.length = 0 := by
              have := (List.getElem?_eq_some_iff.1 hl').1
              simp at this
              omega
            rw [hkk] at hl'
            cases hl'
            have ek : k = p.pages.length := by omega
            subst ek
            refine ⟨u, by rw [List.getElem?_append_right (by omega), hvl]; simp, ?_, fun b hb => ?_⟩
            · exact (hu.move fun b hb => Below.heap_setCell _ _ _ _ (fun e => by have := hulo b hb; have e2 : b = g := e; omega)).wide (Nat.zero_le _)
            · have q1 : ¬ b < w.heap.size := by have := hulo b hb; omega
              simp only [if_neg q1, if_neg (huv b hb), if_pos hb]
      · rw [List.getElem?_set_ne (fun h => e h.symm)] at hz'
        obtain ⟨v2, a0, a1, a2⟩ := h6 z' p' hz'
        refine ⟨v2, by rw [List.getElem?_set_ne (by omega)]; exact a0, by rw [List.getElem?_set_ne (by omega)]; exact a1, a2.keep hag ⟨(by intro h; cases h; exact e rfl), (by intro h; cases h)⟩ (fun k => ⟨(by intro h; cases h), (by intro h; cases h)⟩)⟩
end Go.Proofs.Ytdnlikhfemhmeaa
