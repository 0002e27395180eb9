/-
  The second saying's blank, Unit, Pairs.
-/
import Derived.Test.YtjokimlellbhjaaDoorKGf8
namespace Go.Proofs.YtjokimlellbhjaaDoor
open Go.RowKit

set_option maxRecDepth 20000
/-- a row more: append's own facts give the longer matrix -/
theorem MatO.push {W : World} {lo hi : Nat} {v rv : Value} {M : List (List UInt8)} {l : List UInt8} (h : MatO W lo hi v M) (hr : Own W lo rv l) (h0 : 0 < l.length) (hf : ∀ g, rv.ownBlock = some g → hi ≤ g) (hhi : hi ≤ W.heap.size) :
    ∃ rows : List Value, OwnV W lo 25 v rows ∧ rows.length = M.length ∧ ∀ v' w', OwnV w' lo 25 v' (rows ++ [rv]) → W.grownBy w' v.ownBlock → (v'.ownBlock = v.ownBlock ∨ v'.ownBlock = some W.heap.size) → MatO w' lo w'.heap.size v' (M ++ [l]) := by
  obtain ⟨rows, a, b, c, d, e⟩ := h
  refine ⟨rows, a, c, fun v' w' hown hg hb => ⟨rows ++ [rv], hown, fun g hg' => (hown.ge g hg').2, by simp [c], fun i r l' hr' hl' => ?_, fun i j ri rj g hij hri hrj hgi hgj => ?_⟩⟩
  · -- the header's block is no row's
    have hty : ∀ (r : Value) (x : List UInt8), Own W lo r x → 0 < x.length → ∀ g, r.ownBlock = some g → v.ownBlock ≠ some g := by
      intro r x hx hx0 g hgr hgv
      obtain ⟨bb, cap, rfl, _⟩ := hx.form hx0
      cases hgr
      rcases a.form with ⟨hv, _⟩ | ⟨g', cap', cur, hv, _, hc, _⟩
      · rw [hv] at hgv; cases hgv
      · rw [hv] at hgv
        cases hgv
        rcases hx.toV.form with ⟨hv2, _⟩ | ⟨g2, cap2, cur2, hv2, _, hc2, _⟩
        · cases hv2
        · have e3 := (Value.slice.inj hv2).1
          simp at e3
          rw [← e3] at hc2
          exact absurd (hc.type hc2).1 (by decide)
    have moved : ∀ (r : Value) (x : List UInt8), Own W lo r x → 0 < x.length → Own w' lo r x := fun r x hx hx0 => hx.move fun g hgr => hg.block g (hx.lt g hgr).2 (fun e' => hty r x hx hx0 g hgr e'.symm)
    have hin : ∀ (r : Value) (x : List UInt8), Own w' lo r x → ∀ g, r.ownBlock = some g → g < w'.heap.size := fun r x hx g hgr => (hx.lt g hgr).2
    by_cases hi' : i < rows.length
    · rw [List.getElem?_append_left hi'] at hr'
      rw [List.getElem?_append_left (by rw [← c]; exact hi')] at hl'
      obtain ⟨d1, d2, d3⟩ := d i r l' hr' hl'
      have := moved r l' d2 d1
      exact ⟨d1, this, hin r l' this⟩
    · rw [List.getElem?_append_right (by omega)] at hr'
      rw [List.getElem?_append_right (by rw [← c]; omega)] at hl'
      have hi0 : i - rows.length = 0 := by
        have := (List.getElem?_eq_some_iff.1 hr').1
        simp at this
        omega
      rw [hi0] at hr'
      rw [← c, hi0] at hl'
      cases hr'
      cases hl'
      have := moved rv l hr h0
      exact ⟨h0, this, hin rv l this⟩
  · have low : ∀ (k : Nat) (r : Value) (g : Nat), k < rows.length → rows[k]? = some r → r.ownBlock = some g → g < hi := fun k r g hk hr' hgr => by
      obtain ⟨x, hx⟩ : ∃ x, M[k]? = some x := ⟨_, List.getElem?_eq_getElem (by rw [← c]; exact hk)⟩
      exact (d k r x hr' hx).2.2 g hgr
    by_cases hi' : i < rows.length
    · rw [List.getElem?_append_left hi'] at hri
      by_cases hj' : j < rows.length
      · rw [List.getElem?_append_left hj'] at hrj
        exact e i j ri rj g hij hri hrj hgi hgj
      · rw [List.getElem?_append_right (by omega)] at hrj
        have hj0 : j - rows.length = 0 := by
          have := (List.getElem?_eq_some_iff.1 hrj).1
          simp at this
          omega
        rw [hj0] at hrj
        cases hrj
        have q1 := low i ri g hi' hri hgi
        have q2 := hf g hgj
        omega
    · rw [List.getElem?_append_right (by omega)] at hri
      have hi0 : i - rows.length = 0 := by
        have := (List.getElem?_eq_some_iff.1 hri).1
        simp at this
        omega
      rw [hi0] at hri
      cases hri
      have hj' : j < rows.length := by
        rcases Nat.lt_or_ge j rows.length with q | q
        · exact q
        · rw [List.getElem?_append_right q] at hrj
          have := (List.getElem?_eq_some_iff.1 hrj).1
          simp at this
          omega
      rw [List.getElem?_append_left hj'] at hrj
      have q1 := low j rj g hj' hrj hgj
      have q2 := hf g hgi
      omega
theorem MatO.none (w : World) (lo hi : Nat) : MatO w lo hi (.slice none 0 0) [] :=
  ⟨[], OwnV.nil _ _ _, (fun g hg => by cases hg), rfl, (fun i r l hr => by simp at hr), fun i j ri rj g _ hri => by simp at hri⟩
theorem MatO.form {w : World} {lo hi : Nat} {v : Value} {M : List (List UInt8)} (h : MatO w lo hi v M) : ∃ A c, v = .slice A M.length c := by
  obtain ⟨A, c, hv, _⟩ := h.rbb
  exact ⟨A, c, hv⟩
theorem blankM_snoc (k n : Nat) : blankM k n ++ [List.replicate n 0] = blankM (k + 1) n := by
  unfold blankM
  rw [List.replicate_succ']
def MadeR (w : World) (M : List (List UInt8)) (e : Ending) (w' : World) : Prop :=
  ∃ v, e = .returned v ∧ MatO w' w.heap.size w'.heap.size v M ∧ Below w.heap.size w w'
def BlankR (w : World) (k n : Nat) (v : Value) (wr : World) : Prop := MatO wr w.heap.size wr.heap.size v (blankM k n) ∧ Below w.heap.size w wr
theorem blankR_step {w wr : World} {k n : Nat} {v : Value} {cs : Array Value} (h : BlankR w k n v wr) (hn : 1 ≤ n) (hn2 : n ≤ 255) (hc : cs = (bvs (List.replicate n 0)).toArray) :
    ∃ rows : List Value, OwnV ((wr.alloc (.cells cs 5)).alloc (.cells #[.slice (some ⟨wr.heap.size, 0, none⟩) n n] 25)) w.heap.size 25 v rows ∧ rows.length = k ∧
      ∀ v' w', OwnV w' w.heap.size 25 v' (rows ++ [.slice (some ⟨wr.heap.size, 0, none⟩) n n]) → ((wr.alloc (.cells cs 5)).alloc (.cells #[.slice (some ⟨wr.heap.size, 0, none⟩) n n] 25)).grownBy w' v.ownBlock → (v'.ownBlock = v.ownBlock ∨ v'.ownBlock = some ((wr.alloc (.cells cs 5)).alloc (.cells #[.slice (some ⟨wr.heap.size, 0, none⟩) n n] 25)).heap.size) →
        BlankR w (k + 1) n v' w' := by
  obtain ⟨h1, h2⟩ := h
  have hs := h2.size
  have hb1 : Below wr.heap.size wr ((wr.alloc (.cells cs 5)).alloc (.cells #[.slice (some ⟨wr.heap.size, 0, none⟩) n n] 25)) := ((Below.refl _ _).alloc (Nat.le_refl _) _).alloc (by simp) _
  have hblk : Blk ((wr.alloc (.cells cs 5)).alloc (.cells #[.slice (some ⟨wr.heap.size, 0, none⟩) n n] 25)) wr.heap.size (List.replicate n 0) := by
    refine Blk.alloc ?_ _
    have := heap_alloc_new wr (.cells cs 5)
    unfold Blk
    rw [this, hc]
  have hown : Own ((wr.alloc (.cells cs 5)).alloc (.cells #[.slice (some ⟨wr.heap.size, 0, none⟩) n n] 25)) w.heap.size (.slice (some ⟨wr.heap.size, 0, none⟩) n n) (List.replicate n 0) := by
    have := hblk.own (base := w.heap.size) hs (by simp; omega)
    rw [List.length_replicate] at this
    exact this
  obtain ⟨rows, r1, r2, r3⟩ := (h1.below hb1).push hown (by simp; omega) (fun g hg => by cases hg; exact Nat.le_refl _) (by simp; omega)
  refine ⟨rows, r1, by rw [r2]; simp [blankM], fun v' w' q1 q2 q3 => ⟨?_, ?_⟩⟩
  · have := r3 v' w' q1 q2 q3
    rw [blankM_snoc] at this
    exact this
  · exact (((h2.alloc hs _).alloc (by simp; omega) _)).grown q2 (by simp; omega) fun g hg => (r1.ge g hg).1
end Go.Proofs.YtjokimlellbhjaaDoor

/-
  The second saying's Unit and Pairs.
-/
namespace Go.Proofs.YtjokimlellbhjaaDoor
open Go.RowKit

set_option maxRecDepth 20000
def UnitRelR (w : World) (lo hi g n c k : Nat) (wr : World) : Prop := MatO wr lo hi (.slice (some ⟨g, 0, none⟩) n c) (unitK n k) ∧ Below w.heap.size w wr ∧ wr.heap.size = hi ∧ lo = w.heap.size
def MadeE (w : World) (M : List (List UInt8)) (e : Ending) (w' : World) : Prop :=
  ∃ A c, e = .returned (.tuple #[.slice A M.length c, .int .i64 0]) ∧ MatO w' w.heap.size w'.heap.size (.slice A M.length c) M ∧ Below w.heap.size w w'
theorem unitM_length (n : Nat) : (unitM n).length = n := by simp [unitM]
def PairRelR (w : World) (lo hi g n cc k : Nat) (wr : World) : Prop := MatO wr lo hi (.slice (some ⟨g, 0, none⟩) 2 cc) (pairsK n k) ∧ Below w.heap.size w wr ∧ wr.heap.size = hi ∧ lo = w.heap.size
theorem pairR_facts {w wr : World} {lo hi g n cc k : Nat} (h : PairRelR w lo hi g n cc k wr) (hk : k < n) :
    ∃ b b' c c', b ≠ b' ∧ b ≠ g ∧ b' ≠ g ∧ n ≤ c ∧ n ≤ c' ∧ wr.cell? ⟨g, 0, none⟩ = some (.slice (some ⟨b, 0, none⟩) n c) ∧ wr.cell? ⟨g, 1, none⟩ = some (.slice (some ⟨b', 0, none⟩) n c') ∧ wr.cell? ⟨b, k, none⟩ = some (.int .u8 0) ∧ wr.cell? ⟨b', k, none⟩ = some (.int .u8 0) ∧ wr.frozen? ⟨b, k, none⟩ = false ∧ wr.frozen? ⟨b', k, none⟩ = false ∧
      PairRelR w lo hi g n cc (k + 1) ((wr.setCell ⟨b, k, none⟩ (.int .u8 1)).setCell ⟨b', k, none⟩ (.int .u8 ((ex k : Nat) : Int))) := by
  obtain ⟨r1, r2, r3, r4⟩ := h
  obtain ⟨b, b', c, c', h1, h2, hne, hs⟩ := r1.two (i := 0) (i' := 1) (by omega) rfl rfl
  have l1 : (List.replicate k (1 : UInt8) ++ List.replicate (n - k) 0).length = n := by simp; omega
  have l2 : ((List.range k).map pwr ++ List.replicate (n - k) 0).length = n := by simp; omega
  have g1 := h1.head
  have g2 := h2.head
  rw [l1] at g1
  rw [l2] at g2
  refine ⟨b, b', c, c', hne, h1.ne, h2.ne, by have := h1.cap; omega, by have := h2.cap; omega, g1, g2, h1.cells k 0 ?_, h2.cells k 0 ?_, h1.free k, h2.free k, ?_⟩
  · rw [List.getElem?_append_right (by simp), List.length_replicate, Nat.sub_self, List.getElem?_replicate, if_pos (by omega)]
  · rw [List.getElem?_append_right (by simp), List.length_map, List.length_range, Nat.sub_self, List.getElem?_replicate, if_pos (by omega)]
  · obtain ⟨s1, _⟩ := hs k 1 k (pwr k)
    have e : ((pairsK n k).set 0 ((List.replicate k (1 : UInt8) ++ List.replicate (n - k) 0).set k 1)).set 1 (((List.range k).map pwr ++ List.replicate (n - k) 0).set k (pwr k)) = pairsK n (k + 1) := by
      rw [pairs_step0 n k hk, pairs_step1 n k hk]
      rfl
    rw [e, pwr_nat] at s1
    have b1 : w.heap.size ≤ b := by rw [← r4]; exact h1.low
    have b2 : w.heap.size ≤ b' := by rw [← r4]; exact h2.low
    exact ⟨s1, (r2.setCell (p := ⟨b, k, none⟩) b1 (.int .u8 1)).setCell (p := ⟨b', k, none⟩) b2 (.int .u8 ((ex k : Nat) : Int)), by simp [World.setCell, r3], r4⟩
end Go.Proofs.YtjokimlellbhjaaDoor
