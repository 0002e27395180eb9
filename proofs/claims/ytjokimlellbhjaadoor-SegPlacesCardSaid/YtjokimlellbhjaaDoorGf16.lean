/-
  The program's each, with bytes.Clone handed in.
-/
import Derived.Test.YtjokimlellbhjaaDoorKGf14
import Derived.Test.YtjokimlellbhjaaDoorGfClone
namespace Go.Proofs.YtjokimlellbhjaaDoor
open Go.RowKit

set_option maxRecDepth 20000
/-- rows that were made so far, in a header that has room for all -/
structure EachAt (w : World) (N : Nat) (M : Mtx) (k : Nat) (wr : World) : Prop where
  st : ∃ rows : List Value, rows.length = k ∧ OwnV wr w.heap.size 25 (.slice (some ⟨w.heap.size, 0, none⟩) N N) (rows ++ List.replicate (N - k) (.slice none 0 0)) ∧
    (∀ (i : Nat) (r : Value) (l : List UInt8), rows[i]? = some r → M[i]? = some l → 0 < l.length ∧ Own wr w.heap.size r l) ∧
    ∀ (i j : Nat) (ri rj : Value) (g : Nat), i ≠ j → rows[i]? = some ri → rows[j]? = some rj → ri.ownBlock = some g → rj.ownBlock ≠ some g
  bel : Below w.heap.size w wr
  size : w.heap.size < wr.heap.size
theorem EachAt.start (w : World) (N : Nat) (M : Mtx) (hN : N ≤ 255) {cs : Array Value} (h : cs = (List.replicate N (.slice none 0 0)).toArray) : EachAt w N M 0 (w.alloc (.cells cs 25)) := by
  refine ⟨⟨[], rfl, ?_, fun i r l hr => by simp at hr, fun i j ri rj g _ hri => by simp at hri⟩, (Below.refl _ _).alloc (Nat.le_refl _) _, by simp⟩
  have hc := Cells.new w cs 25
  rw [h] at hc ⊢
  have := OwnV.mk (base := w.heap.size) (xs := List.replicate N (.slice none 0 0)) (cap := N) (Nat.le_refl _) hc (by simp) (by simp only [maxLen]; omega) (by simp) (by simp)
  simpa using this
theorem EachAt.step {w wr w1 : World} {N k : Nat} {M : Mtx} {v : Value} {l : List UInt8} (h : EachAt w N M k wr) (hk : k < N) (hl : M[k]? = some l) (h0 : 0 < l.length) (ho : Own w1 wr.heap.size v l) (hb : Below wr.heap.size wr w1) :
    (∃ u, w1.cell? ⟨w.heap.size, k, none⟩ = some u) ∧ w1.frozen? ⟨w.heap.size, k, none⟩ = false ∧ EachAt w N M (k + 1) (w1.setCell ⟨w.heap.size, k, none⟩ v) := by
  obtain ⟨rows, r1, r2, r3, r4⟩ := h.st
  have hs := h.size
  have hN : rows ++ List.replicate (N - k) (Value.slice none 0 0) ≠ [] := by
    obtain ⟨m, hm⟩ : ∃ m, N - k = m + 1 := ⟨N - k - 1, by omega⟩
    rw [hm]
    simp [List.replicate_succ]
  have r2' : OwnV w1 w.heap.size 25 (.slice (some ⟨w.heap.size, 0, none⟩) N N) (rows ++ List.replicate (N - k) (.slice none 0 0)) := r2.move fun g hg => hb.block g (r2.ge g hg).2
  rcases r2'.form with ⟨hv, _⟩ | ⟨g', cap', cur, hv, hb', hc, hn, hm, hlc, ht⟩
  · cases hv
  have e0 : w.heap.size = g' := by
    have := (Value.slice.inj hv).1
    simpa using this
  subst e0
  have hkl : k < cur.length := by
    have : (rows ++ List.replicate (N - k) (Value.slice none 0 0)).length = N := by simp [r1]; omega
    omega
  have hset := r2'.set k v
  have e1 : (rows ++ List.replicate (N - k) (Value.slice none 0 0)).set k v = (rows ++ [v]) ++ List.replicate (N - (k + 1)) (.slice none 0 0) := by
    obtain ⟨m, hm⟩ : ∃ m, N - k = m + 1 := ⟨N - k - 1, by omega⟩
    rw [List.set_append_right _ _ (by omega), r1, Nat.sub_self, hm, show N - (k + 1) = m by omega, List.replicate_succ, List.set_cons_zero]
    simp
  rw [e1] at hset
  have far : ∀ b, b ≠ w.heap.size → (w1.setCell ⟨w.heap.size, k, none⟩ v).heap[b]? = w1.heap[b]? := fun b hb => Below.heap_setCell _ _ _ _ hb
  have hty : ∀ (W : World) (r : Value) (x : List UInt8) (lo : Nat), Own W lo r x → 0 < x.length → Cells W w.heap.size 25 cur → r.ownBlock ≠ some w.heap.size := by
    intro W r x lo hx hx0 hcc hgr
    obtain ⟨bb, cap, rfl, _⟩ := hx.form hx0
    cases hgr
    rcases hx.toV.form with ⟨hv2, _⟩ | ⟨g2, cap2, cur2, hv2, _, hc2, _⟩
    · cases hv2
    · have e3 := (Value.slice.inj hv2).1
      simp at e3
      rw [← e3] at hc2
      exact absurd (hcc.type hc2).1 (by decide)
  refine ⟨⟨_, hc.cell (List.getElem?_eq_getElem hkl)⟩, hc.frozen k, ⟨rows ++ [v], by simp [r1], hset, fun i r l' hr hl' => ?_, fun i j ri rj g hij hri hrj hgi hgj => ?_⟩, ?_, ?_⟩
  · by_cases hi : i < rows.length
    · rw [List.getElem?_append_left hi] at hr
      obtain ⟨d1, d2⟩ := r3 i r l' hr hl'
      have d3 : Own w1 w.heap.size r l' := d2.move fun g hg => hb.block g (d2.lt g hg).2
      exact ⟨d1, d3.move fun g hg => far g fun e => hty w1 r l' _ d3 d1 hc (by rw [← e]; exact hg)⟩
    · rw [List.getElem?_append_right (by omega)] at hr
      have hi0 : i - rows.length = 0 := by
        have := (List.getElem?_eq_some_iff.1 hr).1
        simp at this
        omega
      rw [hi0] at hr
      cases hr
      obtain rfl : i = k := by omega
      rw [hl] at hl'
      cases hl'
      have d3 : Own w1 w.heap.size v l := ho.wide (by omega)
      exact ⟨h0, d3.move fun g hg => far g fun e => hty w1 v l _ d3 h0 hc (by rw [← e]; exact hg)⟩
  · have low : ∀ (x : Nat) (r : Value) (g : Nat), x < rows.length → rows[x]? = some r → r.ownBlock = some g → g < wr.heap.size := fun x r g hx hr' hgr => by
      obtain ⟨y, hy⟩ : ∃ y, M[x]? = some y := ⟨_, List.getElem?_eq_getElem (by have := (List.getElem?_eq_some_iff.1 hl).1; omega)⟩
      exact ((r3 x r y hr' hy).2.lt g hgr).2
    have high : ∀ g, v.ownBlock = some g → wr.heap.size ≤ g := fun g hg => (ho.lt g hg).1
    by_cases hi' : i < rows.length
    · rw [List.getElem?_append_left hi'] at hri
      by_cases hj' : j < rows.length
      · rw [List.getElem?_append_left hj'] at hrj
        exact r4 i j ri rj g hij hri hrj hgi hgj
      · rw [List.getElem?_append_right (by omega)] at hrj
        have hj0 : j - rows.length = 0 := by
          have := (List.getElem?_eq_some_iff.1 hrj).1
          simp at this
          omega
        rw [hj0] at hrj
        cases hrj
        have q1 := low i ri g hi' hri hgi
        have q2 := high g hgj
        omega
    · rw [List.getElem?_append_right (by omega)] at hri
      have hi0 : i - rows.length = 0 := by
        have := (List.getElem?_eq_some_iff.1 hri).1
        simp at this
        omega
      rw [hi0] at hri
      cases hri
      have hj' : j < rows.length := by
        rcases Nat.lt_or_ge j rows.length with q | q
        · exact q
        · rw [List.getElem?_append_right q] at hrj
          have := (List.getElem?_eq_some_iff.1 hrj).1
          simp at this
          omega
      rw [List.getElem?_append_left hj'] at hrj
      have q1 := low j rj g hj' hrj hgj
      have q2 := high g hgi
      omega
  · exact (h.bel.trans (hb.mono h.bel.size)).setCell (p := ⟨w.heap.size, k, none⟩) (Nat.le_refl _) _
  · have : wr.heap.size ≤ w1.heap.size := hb.size
    simp [World.setCell]
    omega
theorem EachAt.done {w wr : World} {N : Nat} {M : Mtx} (h : EachAt w N M N wr) (hM : N = M.length) : MatO wr w.heap.size wr.heap.size (.slice (some ⟨w.heap.size, 0, none⟩) N N) M := by
  obtain ⟨rows, r1, r2, r3, r4⟩ := h.st
  rw [Nat.sub_self, List.replicate_zero, List.append_nil] at r2
  have hs := h.size
  exact ⟨rows, r2, fun g hg => by cases hg; exact hs, by rw [r1, hM], fun i r l hr hl => ⟨(r3 i r l hr hl).1, (r3 i r l hr hl).2, fun g hg => ((r3 i r l hr hl).2.lt g hg).2⟩, r4⟩
end Go.Proofs.YtjokimlellbhjaaDoor
