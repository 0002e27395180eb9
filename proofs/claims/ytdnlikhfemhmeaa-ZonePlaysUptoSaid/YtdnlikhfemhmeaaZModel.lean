/-
  Drives and the power as plain data; how they lie in memory; whose a block is.
-/
import Derived.Test.YtdnlikhfemhmeaaZCut1
namespace Go.Proofs.Ytdnlikhfemhmeaa
open Go.RowKit

structure Pile where
  pages : List (List UInt8)
  firm : Nat
structure Drv where
  piles : List Pile
  cap : Nat
  size : Nat
  lost : Bool
structure Pow where
  off : Bool
  writes : Nat
  left : Nat
  picks : List Int

/-- how many pages a cut leaves -/
def Pile.keep (p : Pile) (k : Int) : Nat := p.firm + (if 0 ≤ k then (k % ((p.pages.length : Int) - (p.firm : Int) + 1)).toNat else 0)
def Pile.cut (p : Pile) (k : Int) : Pile := ⟨p.pages.take (p.keep k), p.keep k⟩
def cutPiles : List Pile → List Int → List Pile
  | [], _ => []
  | p :: ps, picks => if p.pages.length = p.firm then p :: cutPiles ps picks else p.cut (picks.headD 0) :: cutPiles ps picks.tail
def Drv.cut (D : Drv) (picks : List Int) : Drv := { D with piles := cutPiles D.piles picks }

/-- whose a block is -/
inductive Tag where
  | pw
  | dev
  | picks
  | drv (i : Nat)
  | piles (i : Nat)
  | row (i z : Nat)
  | page (i z k : Nat)
def Tag.drive : Tag → Option Nat
  | .drv i => some i
  | .piles i => some i
  | .row i _ => some i
  | .page i _ _ => some i
  | _ => none

def PageAt (w : World) (O : Nat → Option Tag) (t : Tag) (v : Value) (l : List UInt8) : Prop := Own w 0 v l ∧ ∀ g, v.ownBlock = some g → O g = some t
def RowAt (w : World) (O : Nat → Option Tag) (i z : Nat) (v : Value) (pages : List (List UInt8)) : Prop :=
  ∃ vs : List Value, OwnV w 0 46 v vs ∧ (∀ g, v.ownBlock = some g → O g = some (.row i z)) ∧ vs.length = pages.length ∧
    ∀ (k : Nat) l, pages[k]? = some l → ∃ u, vs[k]? = some u ∧ PageAt w O (.page i z k) u l
def PileAt (w : World) (O : Nat → Option Tag) (i z : Nat) (cs : List Value) (p : Pile) : Prop :=
  ∃ v, cs[z * 2]? = some v ∧ cs[z * 2 + 1]? = some (.int .i64 (p.firm : Int)) ∧ RowAt w O i z v p.pages
def DrvAt (w : World) (O : Nat → Option Tag) (i pw d : Nat) (D : Drv) : Prop :=
  ∃ (g : Nat) (cs : List Value), Cells w d 71 [.pointer (some ⟨pw, 0, none⟩), .slice (some ⟨g, 0, none⟩) D.piles.length D.piles.length, .int .i64 (D.cap : Int), .int .i64 (D.size : Int), .bool D.lost] ∧ O d = some (.drv i) ∧
    Cells w g 91 cs ∧ O g = some (.piles i) ∧ cs.length = D.piles.length * 2 ∧ ∀ (z : Nat) p, D.piles[z]? = some p → PileAt w O i z cs p

/-- the bounds of a drive's numbers -/
structure Drv.Ok (D : Drv) : Prop where
  zones : D.piles.length ≤ 4096
  cap : D.cap ≤ 4096
  low : 32 ≤ D.size
  high : D.size ≤ 65536
  pages : ∀ p ∈ D.piles, p.pages.length ≤ D.cap
  firm : ∀ p ∈ D.piles, p.firm ≤ p.pages.length
  sizes : ∀ p ∈ D.piles, ∀ l ∈ p.pages, l.length = D.size
  lost : D.lost = true → ∀ p ∈ D.piles, p = ⟨[], 0⟩

/-- what bears a tag in T is as it was, and bears it still -/
def Agree (T : Tag → Prop) (w : World) (O : Nat → Option Tag) (w' : World) (O' : Nat → Option Tag) : Prop :=
  ∀ b t, b < w.heap.size → O b = some t → T t → w'.heap[b]? = w.heap[b]? ∧ O' b = some t

section
variable {w w' : World} {O O' : Nat → Option Tag} {T : Tag → Prop} {i z d pw : Nat} {t : Tag} {v : Value} {l : List UInt8} {pages : List (List UInt8)} {cs : List Value} {p : Pile} {D : Drv}
theorem PageAt.keep (h : PageAt w O t v l) (ha : Agree T w O w' O') (ht : T t) : PageAt w' O' t v l :=
  ⟨h.1.move fun g hg => (ha g t (h.1.lt g hg).2 (h.2 g hg) ht).1, fun g hg => (ha g t (h.1.lt g hg).2 (h.2 g hg) ht).2⟩
theorem RowAt.keep (h : RowAt w O i z v pages) (ha : Agree T w O w' O') (hr : T (.row i z)) (hp : ∀ k, T (.page i z k)) : RowAt w' O' i z v pages := by
  obtain ⟨vs, h1, h2, h3, h4⟩ := h
  refine ⟨vs, h1.move fun g hg => (ha g _ (h1.ge g hg).2 (h2 g hg) hr).1, fun g hg => (ha g _ (h1.ge g hg).2 (h2 g hg) hr).2, h3, fun k l hl => ?_⟩
  obtain ⟨u, hu, hpg⟩ := h4 k l hl
  exact ⟨u, hu, hpg.keep ha (hp k)⟩
theorem PileAt.keep (h : PileAt w O i z cs p) (ha : Agree T w O w' O') (hr : T (.row i z)) (hp : ∀ k, T (.page i z k)) : PileAt w' O' i z cs p := by
  obtain ⟨v, h1, h2, h3⟩ := h
  exact ⟨v, h1, h2, h3.keep ha hr hp⟩
theorem DrvAt.keep (h : DrvAt w O i pw d D) (ha : Agree T w O w' O') (hT : ∀ t : Tag, t.drive = some i → T t) : DrvAt w' O' i pw d D := by
  obtain ⟨g, cs, h1, h2, h3, h4, h5, h6⟩ := h
  obtain ⟨a1, a2⟩ := ha d _ h1.lt h2 (hT _ rfl)
  obtain ⟨b1, b2⟩ := ha g _ h3.lt h4 (hT _ rfl)
  exact ⟨g, cs, h1.move a1, a2, h3.move b1, b2, h5, fun z p hz => (h6 z p hz).keep ha (hT _ rfl) (fun k => hT _ rfl)⟩
/-- where all blocks of a drive are kept, none given to another -/
theorem DrvAt.kept {K : Nat → Prop} (h : DrvAt w O i pw d D) (hk : Kept K w w') (hK : ∀ b t, O b = some t → t.drive = some i → K b) : DrvAt w' O i pw d D :=
  h.keep (T := fun t => t.drive = some i) (fun b t hlt hb ht => ⟨hk.block b hlt (hK b t hb ht), hb⟩) (fun _ h => h)

theorem Pile.keep_le (p : Pile) (k : Int) (h : p.firm ≤ p.pages.length) : p.firm ≤ p.keep k ∧ p.keep k ≤ p.pages.length := by
  unfold Pile.keep
  split
  · have h1 := Int.emod_nonneg k (show ((p.pages.length : Int) - (p.firm : Int) + 1) ≠ 0 by omega)
    have h2 := Int.emod_lt_of_pos k (show 0 < (p.pages.length : Int) - (p.firm : Int) + 1 by omega)
    omega
  · omega
theorem cutPiles_length : ∀ (ps : List Pile) (picks : List Int), (cutPiles ps picks).length = ps.length
  | [], _ => rfl
  | p :: ps, picks => by
    unfold cutPiles
    split <;> simp [cutPiles_length ps]
theorem cutPiles_mem : ∀ (ps : List Pile) (picks : List Int), ∀ q ∈ cutPiles ps picks, ∃ p ∈ ps, q = p ∨ ∃ k, q = p.cut k
  | [], _, q, h => by simp [cutPiles] at h
  | p :: ps, picks, q, h => by
    unfold cutPiles at h
    split at h
    · rcases List.mem_cons.1 h with rfl | h
      · exact ⟨q, by simp, .inl rfl⟩
      · obtain ⟨p', h1, h2⟩ := cutPiles_mem ps picks q h
        exact ⟨p', by simp [h1], h2⟩
    · rcases List.mem_cons.1 h with rfl | h
      · exact ⟨p, by simp, .inr ⟨_, rfl⟩⟩
      · obtain ⟨p', h1, h2⟩ := cutPiles_mem ps picks.tail q h
        exact ⟨p', by simp [h1], h2⟩
theorem cutPiles_blank : ∀ (ps : List Pile) (picks : List Int), (∀ p ∈ ps, p = ⟨[], 0⟩) → cutPiles ps picks = ps
  | [], _, _ => rfl
  | p :: ps, picks, h => by
    have hp := h p (by simp)
    unfold cutPiles
    rw [if_pos (by rw [hp]; rfl), cutPiles_blank ps picks (fun q hq => h q (by simp [hq]))]
theorem Pile.cut_ok (p : Pile) (k : Int) (h : p.firm ≤ p.pages.length) : (p.cut k).firm ≤ (p.cut k).pages.length ∧ (p.cut k).pages.length ≤ p.pages.length := by
  have := p.keep_le k h
  simp only [Pile.cut, List.length_take]
  omega
theorem Drv.Ok.cut (h : D.Ok) (picks : List Int) : (D.cut picks).Ok := by
  refine ⟨by simp only [Drv.cut, cutPiles_length]; exact h.zones, h.cap, h.low, h.high, fun q hq => ?_, fun q hq => ?_, fun q hq l hl => ?_, fun hl q hq => ?_⟩
  · obtain ⟨p, hp, rfl | ⟨k, rfl⟩⟩ := cutPiles_mem _ _ q hq
    · exact h.pages _ hp
    · exact Nat.le_trans (p.cut_ok k (h.firm _ hp)).2 (h.pages _ hp)
  · obtain ⟨p, hp, rfl | ⟨k, rfl⟩⟩ := cutPiles_mem _ _ q hq
    · exact h.firm _ hp
    · exact (p.cut_ok k (h.firm _ hp)).1
  · obtain ⟨p, hp, rfl | ⟨k, rfl⟩⟩ := cutPiles_mem _ _ q hq
    · exact h.sizes _ hp l hl
    · exact h.sizes _ hp l (List.mem_of_mem_take hl)
  · have hb := cutPiles_blank D.piles picks (h.lost hl)
    rw [show (D.cut picks).piles = D.piles from hb] at hq
    exact h.lost hl q hq
theorem Drv.cut_lost (h : D.Ok) (hl : D.lost = true) (picks : List Int) : D.cut picks = D := by
  unfold Drv.cut
  rw [cutPiles_blank D.piles picks (h.lost hl)]
end
end Go.Proofs.Ytdnlikhfemhmeaa
