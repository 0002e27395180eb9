/-
  One drive of the system is another one; a page more.
-/
import Derived.Test.YtdnlikhfemhmeaaZWrite
namespace Go.Proofs.Ytdnlikhfemhmeaa
open Go.RowKit

theorem SysAt.change {w w' : World} {O O' : Nat → Option Tag} {pw i d : Nat} {P : Pow} {ds : List (Nat × Drv)} {D D' : Drv} {K : Nat → Prop} (h : SysAt w O pw P ds) (hi : ds[i]? = some (d, D)) (hk : Kept K w w')
    (hK : ∀ b t, O b = some t → t.drive ≠ some i → K b) (hN : ∀ b, O b = none → K b) (hO : ∀ b, b < w.heap.size → O' b = O b) (hf : ∀ b, O' b ≠ none → b < w'.heap.size) (hD : DrvAt w' O' i pw d D') (hok : D'.Ok) :
    SysAt w' O' pw P (ds.set i (d, D')) ∧ Ext w O w' O' := by
  have hag : Agree (fun t => t.drive ≠ some i) w O w' O' := fun b t hlt hb ht => ⟨hk.block b hlt (hK b t hb ht), (hO b hlt).trans hb⟩
  have hil := (List.getElem?_eq_some_iff.1 hi).1
  refine ⟨⟨hf, fun j e E hj => ?_, ?_⟩, hk.mono (fun b _ hb => hN b hb), hO⟩
  · by_cases hji : j = i
    · subst hji
      rw [List.getElem?_set_self hil] at hj
      cases hj
      exact ⟨hD, hok⟩
    · rw [List.getElem?_set_ne (fun e => hji e.symm)] at hj
      exact ⟨(h.drv j e E hj).1.keep hag (fun t ht => by rw [ht]; intro e; cases e; exact hji rfl), (h.drv j e E hj).2⟩
  · have hm : (ds.set i (d, D')).map (·.1) = ds.map (·.1) := by
      rw [List.map_set]
      apply set_same
      simp [hi]
    rw [hm]
    obtain ⟨dv, A, c, h1, h2, h3, h4, h5, h6, h7⟩ := h.pow
    have hd : ∀ b t, O b = some t → t.drive = none → K b := fun b t hb ht => hK b t hb (by rw [ht]; intro e; cases e)
    refine ⟨dv, A, c, h1.move (hk.block pw h1.lt (hd pw _ h2 rfl)), (hO pw h1.lt).trans h2, h3.move fun g hg => hk.block g (h3.ge g hg).2 (hd g _ (h4 g hg) rfl), fun g hg => (hO g (h3.ge g hg).2).trans (h4 g hg),
      (h5.kept hk (fun ad he => hd _ _ (h6 ad he) rfl) (Nat.le_refl _)).wide hk.size, fun ad he => ?_, h7⟩
    exact (hO _ (h.fresh _ (by rw [h6 ad he]; simp))).trans (h6 ad he)

def Pile.add (p : Pile) (l : List UInt8) : Pile := ⟨p.pages ++ [l], p.firm⟩
def Drv.add (D : Drv) (z : Nat) (l : List UInt8) : Drv := { D with piles := D.piles.set z ((D.piles.getD z ⟨[], 0⟩).add l) }
theorem Drv.Ok.add {D : Drv} (h : D.Ok) {z : Nat} {l : List UInt8} {p : Pile} (hz : D.piles[z]? = some p) (hl : l.length = D.size) (hp : p.pages.length < D.cap) (hlost : D.lost = false) : (D.add z l).Ok := by
  have hm : p ∈ D.piles := List.mem_of_getElem? hz
  have hg : D.piles.getD z ⟨[], 0⟩ = p := by simp [List.getD, hz]
  have hmem : ∀ q ∈ D.piles.set z (p.add l), q = p.add l ∨ q ∈ D.piles := fun q hq => by
    rcases List.mem_or_eq_of_mem_set hq with h | h
    · exact .inr h
    · exact .inl h
  unfold Drv.add
  rw [hg]
  refine ⟨by simp only [List.length_set]; exact h.zones, h.cap, h.low, h.high, fun q hq => ?_, fun q hq => ?_, fun q hq l' hl' => ?_, fun hl q hq => ?_⟩
  · rcases hmem q hq with rfl | hq
    · simp only [Pile.add, List.length_append, List.length_singleton]
      omega
    · exact h.pages _ hq
  · rcases hmem q hq with rfl | hq
    · have := h.firm _ hm
      simp only [Pile.add, List.length_append, List.length_singleton]
      omega
    · exact h.firm _ hq
  · rcases hmem q hq with rfl | hq
    · simp only [Pile.add, List.mem_append, List.mem_singleton] at hl'
      rcases hl' with hl' | rfl
      · exact h.sizes _ hm l' hl'
      · exact hl
    · exact h.sizes _ hq l' hl'
  · simp only [hlost] at hl
    cases hl

theorem SysAt.add {w w' : World} {O : Nat → Option Tag} {pw i d g z : Nat} {P : Pow} {ds : List (Nat × Drv)} {D : Drv} {p : Pile} {cs vs : List Value} {v : Value} {l : List UInt8} {e : Ending} (h : SysAt w O pw P ds) (hi : ds[i]? = some (d, D))
    (h1 : Cells w d 71 [.pointer (some ⟨pw, 0, none⟩), .slice (some ⟨g, 0, none⟩) D.piles.length D.piles.length, .int .i64 (D.cap : Int), .int .i64 (D.size : Int), .bool D.lost]) (h2 : O d = some (.drv i))
    (h3 : Cells w g 91 cs) (h4 : O g = some (.piles i)) (h5 : cs.length = D.piles.length * 2) (h6 : ∀ (z : Nat) p, D.piles[z]? = some p → PileAt w O i z cs p)
    (hz : D.piles[z]? = some p) (c0 : cs[z * 2]? = some v) (c1 : cs[z * 2 + 1]? = some (.int .i64 (p.firm : Int))) (hrow : OwnV w 0 46 v vs) (hOr : ∀ g, v.ownBlock = some g → O g = some (.row i z)) (hvl : vs.length = p.pages.length)
    (hpg : ∀ (k : Nat) l, p.pages[k]? = some l → ∃ u, vs[k]? = some u ∧ PageAt w O (.page i z k) u l) (hpost : AddPost w g (z * 2) v vs l e w') (hl : l.length = D.size) (hp : p.pages.length < D.cap) (hlost : D.lost = false) :
    e = .returned (.tuple #[]) ∧ ∃ O', SysAt w' O' pw P (ds.set i (d, D.add z l)) ∧ Ext w O w' O' := by
  obtain ⟨v', u, W, rfl, rfl, hv', hu, hkW, hb'⟩ := hpost
  refine ⟨rfl, ?_⟩
  have hok := (h.drv i d D hi).2.add hz hl hp hlost
  have hzl : z < D.piles.length := (List.getElem?_eq_some_iff.1 hz).1
  have hgv : v.ownBlock ≠ some g := fun e => by have := hOr g e; rw [h4] at this; cases this
  have hglt := h3.lt
  have hvlt : ∀ b, v.ownBlock = some b → b < w.heap.size := fun b hb => (hrow.ge b hb).2
  have hulo : ∀ b, u.ownBlock = some b → w.heap.size ≤ b ∧ b < W.heap.size := fun b hb => hu.lt b hb
  have hv'g : v'.ownBlock ≠ some g := by
    rcases hb' with e | ⟨b, e, hb⟩
    · rw [e]; exact hgv
    · rw [e]; intro e2; cases e2; omega
  have hv'lt : ∀ b, v'.ownBlock = some b → b < W.heap.size := fun b hb => (hv'.ge b hb).2
  have huv : ∀ b, u.ownBlock = some b → v'.ownBlock ≠ some b := by
    intro b hb hv2
    rcases hv'.form with ⟨q, _⟩ | ⟨b', cap', cur', q, _, q3, _⟩
    · rw [q] at hv2; cases hv2
    · rw [q] at hv2
      cases hv2
      rcases hu.2 with ⟨q4, _⟩ | ⟨b2, cap2, cur2, q4, _, q5, _⟩
      · rw [q4] at hb; cases hb
      · rw [q4] at hb
        cases hb
        unfold Cells at q3
        rw [q5] at q3
        simp at q3
  have hk : Kept (fun b => v.ownBlock ≠ some b ∧ b ≠ g) w (W.setCell ⟨g, z * 2, none⟩ v') := (hkW.mono fun b _ hb => hb.1).setCell (fun hh => hh.2 rfl) _
  have hsz : (W.setCell ⟨g, z * 2, none⟩ v').heap.size = W.heap.size := by simp [World.setCell]
  have hag : Agree (fun t => t ≠ .row i z ∧ t ≠ .piles i) w O (W.setCell ⟨g, z * 2, none⟩ v') (fun b => if b < w.heap.size then O b else if v'.ownBlock = some b then some (.row i z) else if u.ownBlock = some b then some (.page i z p.pages.length) else none) := by
    intro b t hlt hb ht
    refine ⟨hk.block b hlt ⟨fun e => ht.1 ?_, fun e => ht.2 ?_⟩, by simp only [if_pos hlt]; exact hb⟩
    · have := hOr b e; rw [hb] at this; cases this; rfl
    · rw [e, h4] at hb; cases hb; rfl
  refine ⟨fun b => if b < w.heap.size then O b else if v'.ownBlock = some b then some (.row i z) else if u.ownBlock = some b then some (.page i z p.pages.length) else none, h.change hi hk (fun b t hb ht => ⟨fun e => ht ?_, fun e => ht ?_⟩) (fun b hb => ⟨fun e => ?_, fun e => ?_⟩) (fun b hb => by simp only [if_pos hb]) (fun b hb => ?_) ?_ hok⟩
  · have := hOr b e; rw [hb] at this; cases this; rfl
  · rw [e, h4] at hb; cases hb; rfl
  · have := hOr b e; rw [hb] at this; cases this
  · rw [e, h4] at hb; cases hb
  · rw [hsz]
    by_cases q1 : b < w.heap.size
    · exact Nat.lt_of_lt_of_le q1 hkW.size
    · simp only [if_neg q1] at hb
      by_cases q2 : v'.ownBlock = some b
      · exact hv'lt b q2
      · simp only [if_neg q2] at hb
        by_cases q3 : u.ownBlock = some b
        · exact (hulo b q3).2
        · simp only [if_neg q3] at hb
          exact absurd rfl hb
  · have hg2 : D.piles.getD z ⟨[], 0⟩ = p := by simp [List.getD, hz]
    have hdg : d ≠ g := by intro e; rw [e, h4] at h2; cases h2
    have hdv : v.ownBlock ≠ some d := fun e => by have := hOr d e; rw [h2] at this; cases this
    have hWg : Cells W g 91 cs := h3.move (hkW.block g hglt hgv)
    refine ⟨g, cs.set (z * 2) v', ?_, by simp only [if_pos h1.lt]; exact h2, hWg.set _ _, by simp only [if_pos hglt]; exact h4, ?_, ?_⟩
    · simp only [Drv.add, List.length_set]
      exact h1.move (hk.block d h1.lt ⟨hdv, hdg⟩)
    · simp only [Drv.add, List.length_set]
      exact h5
    · intro z' p' hz'
      simp only [Drv.add, hg2] at hz'
      by_cases e : z' = z
      · subst e
        rw [List.getElem?_set_self hzl] at hz'
        cases hz'
        refine ⟨v', by rw [List.getElem?_set_self (by omega)], by rw [List.getElem?_set_ne (by omega)]; exact c1, vs ++ [u], hv'.move fun b hb => Below.heap_setCell _ _ _ _ (fun e => hv'g ((show b = g from e) ▸ hb)), fun b hb => ?_, by simp [Pile.add, hvl], fun k l' hl' => ?_⟩
        · by_cases q1 : b < w.heap.size
          · simp only [if_pos q1]
            rcases hb' with q | ⟨b2, q, q2⟩
            · exact hOr b (by rw [← q]; exact hb)
            · rw [q] at hb
              cases hb
              omega
          · simp only [if_neg q1, if_pos hb]
        · simp only [Pile.add] at hl'
          by_cases hk2 : k < p.pages.length
          · rw [List.getElem?_append_left hk2] at hl'
            obtain ⟨u2, hu2, hat⟩ := hpg k l' hl'
            exact ⟨u2, by rw [List.getElem?_append_left (by omega)]; exact hu2, hat.keep hag ⟨(by intro h; cases h), (by intro h; cases h)⟩⟩
          · rw [List.getElem?_append_right (by omega)] at hl'
            have hkk : k - p.pages.length = 0 := by
              have := (List.getElem?_eq_some_iff.1 hl').1
              simp at this
              omega
            rw [hkk] at hl'
            cases hl'
            have ek : k = p.pages.length := by omega
            subst ek
            refine ⟨u, by rw [List.getElem?_append_right (by omega), hvl]; simp, ?_, fun b hb => ?_⟩
            · exact (hu.move fun b hb => Below.heap_setCell _ _ _ _ (fun e => by have := hulo b hb; have e2 : b = g := e; omega)).wide (Nat.zero_le _)
            · have q1 : ¬ b < w.heap.size := by have := hulo b hb; omega
              simp only [if_neg q1, if_neg (huv b hb), if_pos hb]
      · rw [List.getElem?_set_ne (fun h => e h.symm)] at hz'
        obtain ⟨v2, a0, a1, a2⟩ := h6 z' p' hz'
        refine ⟨v2, by rw [List.getElem?_set_ne (by omega)]; exact a0, by rw [List.getElem?_set_ne (by omega)]; exact a1, a2.keep hag ⟨(by intro h; cases h; exact e rfl), (by intro h; cases h)⟩ (fun k => ⟨(by intro h; cases h), (by intro h; cases h)⟩)⟩
end Go.Proofs.Ytdnlikhfemhmeaa
