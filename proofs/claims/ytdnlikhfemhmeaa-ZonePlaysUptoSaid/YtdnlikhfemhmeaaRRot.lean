/-
  The second saying's Rot: a page's place is taken by another page.
-/
import Derived.Test.YtdnlikhfemhmeaaRArm
import Derived.Test.YtdnlikhfemhmeaaZRot
namespace Go.Proofs.Ytdnlikhfemhmeaa
open Go.RowKit

theorem rrot_facts {w W1 : World} {O : Nat → Option Tag} {pw i d g z k b c n br cr : Nat} {P : Pow} {ds : List (Nat × Drv)} {D : Drv} {p : Pile} {cs vs : List Value} {l : List UInt8} (h : RSysAt w O pw P ds) (hi : ds[i]? = some (d, D))
    (h1 : Cells w d 75 [.pointer (some ⟨pw, 0, none⟩), .int .i64 (D.cap : Int), .int .i64 (D.size : Int), .slice (some ⟨g, 0, none⟩) D.piles.length D.piles.length, .bool D.lost]) (h2 : O d = some (.drv i))
    (h3 : Cells w g 93 cs) (h4 : O g = some (.piles i)) (h5 : cs.length = D.piles.length * 2) (h6 : ∀ (z : Nat) p, D.piles[z]? = some p → PileAt w O i z cs p)
    (hz : D.piles[z]? = some p) (c0 : cs[z * 2]? = some (.slice (some ⟨br, 0, none⟩) vs.length cr)) (c1 : cs[z * 2 + 1]? = some (.int .i64 (p.firm : Int))) (hrow : OwnV w 0 46 (.slice (some ⟨br, 0, none⟩) vs.length cr) vs) (hOr : O br = some (.row i z)) (hvl : vs.length = p.pages.length)
    (hpg : ∀ (k : Nat) l, p.pages[k]? = some l → ∃ u, vs[k]? = some u ∧ PageAt w O (.page i z k) u l) (hk : p.pages[k]? = some l)
    (hb : Below w.heap.size w W1) (hown : Own W1 w.heap.size (.slice (some ⟨b, 0, none⟩) l.length c) l) :
    ∃ O', RSysAt ((W1.setCell ⟨b, n / 8, none⟩ (.int .u8 ((flipB (l.getD (n / 8) 0) (n % 8)).toNat : Int))).setCell ⟨br, k, none⟩ (.slice (some ⟨b, 0, none⟩) l.length c)) O' pw P (ds.set i (d, D.rot z k n)) ∧
      Ext w O ((W1.setCell ⟨b, n / 8, none⟩ (.int .u8 ((flipB (l.getD (n / 8) 0) (n % 8)).toNat : Int))).setCell ⟨br, k, none⟩ (.slice (some ⟨b, 0, none⟩) l.length c)) O' := by
  have hbw : w.heap.size ≤ b ∧ b < W1.heap.size := hown.lt b rfl
  have hbrl : br < w.heap.size := (hrow.ge br rfl).2
  obtain ⟨W3, hW3⟩ : ∃ W3, W3 = (W1.setCell ⟨b, n / 8, none⟩ (.int .u8 ((flipB (l.getD (n / 8) 0) (n % 8)).toNat : Int))).setCell ⟨br, k, none⟩ (.slice (some ⟨b, 0, none⟩) l.length c) := ⟨_, rfl⟩
  have hK : Kept (fun x => x ≠ br) w W3 := by
    refine ⟨by rw [hW3]; exact hb.os, by rw [hW3]; exact hb.tape, by rw [hW3]; exact hb.output, by rw [hW3]; simp [World.setCell]; exact hb.size, fun x hx hn => ?_⟩
    rw [hW3, Below.heap_setCell _ _ _ _ (fun e => hn e), Below.heap_setCell _ _ _ _ (fun e => by have e2 : x = b := e; omega)]
    exact hb.block x hx
  have hsz : W3.heap.size = W1.heap.size := by rw [hW3]; simp [World.setCell]
  have hp2 : Own W3 w.heap.size (.slice (some ⟨b, 0, none⟩) l.length c) (flipAt l n) := by
    have q := hown.poke (n / 8) (flipB (l.getD (n / 8) 0) (n % 8))
    rw [List.length_set] at q
    rw [hW3]
    exact q.move fun x hx => Below.heap_setCell _ _ _ _ (fun e => by cases hx; have e2 : b = br := e; omega)
  have hr2 : OwnV W3 0 46 (.slice (some ⟨br, 0, none⟩) vs.length cr) (vs.set k (.slice (some ⟨b, 0, none⟩) l.length c)) := by
    rcases hrow.form with ⟨q, _⟩ | ⟨g9, cap, cur, q, _, hcur, hnc, hcm, hlc, htk⟩
    · exact absurd q (by intro e; injection e with e1; cases e1)
    · have e1 : br = g9 := by injection q with q1; injection q1 with q2; injection q2
      have e2 : cr = cap := by injection q
      subst e1
      subst e2
      have hc1 : Cells W1 br 46 cur := hcur.move (hb.block br hbrl)
      have hc2 : Cells (W1.setCell ⟨b, n / 8, none⟩ (.int .u8 ((flipB (l.getD (n / 8) 0) (n % 8)).toNat : Int))) br 46 cur := hc1.move (Below.heap_setCell _ _ _ _ (fun e => by have e2 : br = b := e; omega))
      have hc3 := hc2.set k (.slice (some ⟨b, 0, none⟩) l.length c)
      rw [← hW3] at hc3
      have q := OwnV.mk (w := W3) (base := 0) (xs := vs.set k (.slice (some ⟨b, 0, none⟩) l.length c)) (Nat.zero_le _) hc3 (by simpa using hnc) hcm (by simpa using hlc) (by rw [List.length_set, List.take_set, htk])
      rw [List.length_set] at q
      exact q
  rw [← hW3]
  obtain ⟨O', hO'⟩ : ∃ O' : Nat → Option Tag, O' = fun x => if x < w.heap.size then O x else if x = b then some (.page i z k) else none := ⟨_, rfl⟩
  have o1 : ∀ x, x < w.heap.size → O' x = O x := fun x hx => by rw [hO']; simp only [if_pos hx]
  have o2 : ∀ x, w.heap.size ≤ x → O' x = if x = b then some (.page i z k) else none := fun x hx => by rw [hO']; simp only [if_neg (show ¬ x < w.heap.size by omega)]
  clear hO' hW3
  have hag : Agree (fun t => t ≠ .row i z) w O W3 O' := fun x t hlt hx ht => ⟨hK.block x hlt (fun e => ht (by rw [e, hOr] at hx; cases hx; rfl)), (o1 x hlt).trans hx⟩
  have hzl := (List.getElem?_eq_some_iff.1 hz).1
  have hg2 : D.piles.getD z ⟨[], 0⟩ = p := by rw [List.getD_eq_getElem?_getD, hz]; rfl
  have hgl : p.pages.getD k [] = l := by rw [List.getD_eq_getElem?_getD, hk]; rfl
  refine ⟨O', h.change (O' := O') hi hK (fun x t hx ht e => ht (by rw [e, hOr] at hx; cases hx; rfl)) (fun x hx e => by rw [e, hOr] at hx; cases hx) o1 (fun x hx => ?_) ⟨g, cs, ?_, (o1 d h1.lt).trans h2, ?_, (o1 g h3.lt).trans h4, ?_, fun z' p' hz' => ?_⟩ ((h.drv i d D hi).2.rot z k n p hz l hk)⟩
  · rw [hsz]
    by_cases q : x < w.heap.size
    · exact Nat.lt_of_lt_of_le q hb.size
    · rw [o2 x (by omega)] at hx
      by_cases q2 : x = b
      · rw [q2]; exact hbw.2
      · rw [if_neg q2] at hx; exact absurd rfl hx
  · simp only [Drv.rot, List.length_set]
    exact h1.move (hK.block d h1.lt (fun e => by rw [e, hOr] at h2; cases h2))
  · exact h3.move (hK.block g h3.lt (fun e => by rw [e, hOr] at h4; cases h4))
  · simp only [Drv.rot, List.length_set]
    exact h5
  · simp only [Drv.rot, hg2] at hz'
    by_cases e : z' = z
    · subst e
      rw [List.getElem?_set_self hzl] at hz'
      cases hz'
      refine ⟨_, c0, c1, _, hr2, fun x hx => by cases hx; exact (o1 br hbrl).trans hOr, by simp [Pile.rot, hvl], fun k' l' hl' => ?_⟩
      simp only [Pile.rot, hgl] at hl'
      by_cases ek : k' = k
      · subst ek
        have hkl := (List.getElem?_eq_some_iff.1 hk).1
        rw [List.getElem?_set_self hkl] at hl'
        cases hl'
        exact ⟨_, List.getElem?_set_self (by omega), hp2.wide (Nat.zero_le _), fun x hx => by cases hx; rw [o2 b hbw.1, if_pos rfl]⟩
      · rw [List.getElem?_set_ne (fun h => ek h.symm)] at hl'
        obtain ⟨u2, hu2, hat⟩ := hpg k' l' hl'
        exact ⟨u2, by rw [List.getElem?_set_ne (fun h => ek h.symm)]; exact hu2, hat.keep hag (by intro e; cases e)⟩
    · rw [List.getElem?_set_ne (fun h => e h.symm)] at hz'
      exact (h6 z' p' hz').keep hag (by intro e2; cases e2; exact e rfl) (fun k' => by intro e2; cases e2)
end Go.Proofs.Ytdnlikhfemhmeaa
