/-
  Matrices of the call's own: rows of bytes, no two of which share a block.
-/
import Derived.Test.YtlficcdbnmheeaaDoorKOwnV
import Derived.Test.YtlficcdbnmheeaaDoorKGf1
namespace Go.Proofs.YtlficcdbnmheeaaDoor
open Go.RowKit
set_option maxRecDepth 20000

theorem Own.toV {w : World} {B : Nat} {v : Value} {l : List UInt8} (h : Own w B v l) : OwnV w B 5 v (bvs l) := by
  unfold OwnV
  rw [bvs_length]
  exact h
theorem Own.ofV {w : World} {B : Nat} {v : Value} {l : List UInt8} (h : OwnV w B 5 v (bvs l)) : Own w B v l := by
  unfold OwnV at h
  rw [bvs_length] at h
  exact h
theorem OwnV.set {w : World} {base g n c : Nat} {e : TypeId} {xs : List Value} (h : OwnV w base e (.slice (some ⟨g, 0, none⟩) n c) xs) (i : Nat) (u : Value) : OwnV (w.setCell ⟨g, i, none⟩ u) base e (.slice (some ⟨g, 0, none⟩) n c) (xs.set i u) := by
  rcases h.form with ⟨hv, _⟩ | ⟨g', cap, cur, hv, hb, hc, hn, hm, hl, ht⟩
  · cases hv
  · cases hv
    have := hc.set i u
    have e1 : (xs.set i u).length = xs.length := List.length_set
    have r := OwnV.mk (xs := xs.set i u) hb this (by rw [e1]; exact hn) hm (by rw [List.length_set]; exact hl) (by rw [e1, List.take_set, ht])
    rw [e1] at r
    exact r
theorem Own.setB {w : World} {base g n c : Nat} {l : List UInt8} (h : Own w base (.slice (some ⟨g, 0, none⟩) n c) l) (i : Nat) (x : UInt8) : Own (w.setCell ⟨g, i, none⟩ (.int .u8 (x.toNat : Int))) base (.slice (some ⟨g, 0, none⟩) n c) (l.set i x) := by
  have := h.toV.set i (bv x)
  refine Own.ofV ?_
  rw [show bvs (l.set i x) = (bvs l).set i (bv x) from by simp [bvs, List.map_set]]
  exact this

/-- THE CALL OWNS the matrix M at v, in blocks from lo on, below hi. -/
def MatO (w : World) (lo hi : Nat) (v : Value) (M : List (List UInt8)) : Prop :=
  ∃ rows : List Value, OwnV w lo 25 v rows ∧ (∀ g, v.ownBlock = some g → g < hi) ∧ rows.length = M.length ∧
    (∀ (i : Nat) (r : Value) (l : List UInt8), rows[i]? = some r → M[i]? = some l → 0 < l.length ∧ Own w lo r l ∧ ∀ g, r.ownBlock = some g → g < hi) ∧
    ∀ (i j : Nat) (ri rj : Value) (g : Nat), i ≠ j → rows[i]? = some ri → rows[j]? = some rj → ri.ownBlock = some g → rj.ownBlock ≠ some g
section
variable {w w' : World} {lo hi : Nat} {v : Value} {M : List (List UInt8)}
theorem MatO.wide {lo' hi' : Nat} (h : MatO w lo hi v M) (h1 : lo' ≤ lo) (h2 : hi ≤ hi') : MatO w lo' hi' v M := by
  obtain ⟨rows, a, b, c, d, e⟩ := h
  exact ⟨rows, a.wide h1, fun g hg => Nat.lt_of_lt_of_le (b g hg) h2, c, fun i r l hr hl => ⟨(d i r l hr hl).1, (d i r l hr hl).2.1.wide h1, fun g hg => Nat.lt_of_lt_of_le ((d i r l hr hl).2.2 g hg) h2⟩, e⟩
theorem MatO.move (h : MatO w lo hi v M) (hk : ∀ b, lo ≤ b → b < hi → b < w.heap.size → w'.heap[b]? = w.heap[b]?) : MatO w' lo hi v M := by
  obtain ⟨rows, a, b, c, d, e⟩ := h
  refine ⟨rows, a.move fun g hg => hk g (a.ge g hg).1 (b g hg) (a.ge g hg).2, b, c, fun i r l hr hl => ?_, e⟩
  obtain ⟨d1, d2, d3⟩ := d i r l hr hl
  exact ⟨d1, d2.move fun g hg => hk g (d2.lt g hg).1 (d3 g hg) (d2.lt g hg).2, d3⟩
theorem MatO.drewN (h : MatO w lo hi v M) (n : Nat) : MatO (w.drewN n) lo hi v M := h
theorem MatO.below (h : MatO w lo hi v M) (hb : Below w.heap.size w w') : MatO w' lo hi v M := h.move fun b _ _ hlt => hb.block b hlt
/-- where it lies, row by row -/
structure RowAt (w : World) (lo hi g i b c : Nat) (l : List UInt8) : Prop where
  head : w.cell? ⟨g, i, none⟩ = some (.slice (some ⟨b, 0, none⟩) l.length c)
  cap : l.length ≤ c
  cells : ∀ (j : Nat) (x : UInt8), l[j]? = some x → w.cell? ⟨b, j, none⟩ = some (.int .u8 (x.toNat : Int))
  free : ∀ j, w.frozen? ⟨b, j, none⟩ = false
  ne : b ≠ g
  low : lo ≤ b
  high : b < hi
  lt : b < w.heap.size
theorem MatO.head (h : MatO w lo hi v M) (h0 : 0 < M.length) : ∃ g c, v = .slice (some ⟨g, 0, none⟩) M.length c ∧ M.length ≤ c ∧ lo ≤ g ∧ g < hi ∧ g < w.heap.size ∧ ∀ i, w.frozen? ⟨g, i, none⟩ = false := by
  obtain ⟨rows, a, b, c, d, e⟩ := h
  rcases a.form with ⟨_, hv⟩ | ⟨g, cap, cur, hv, hb, hc, hn, hm, hl, ht⟩
  · rw [hv] at c; simp at c; omega
  · rw [c] at hv hn
    exact ⟨g, cap, hv, hn, hb, b g (by rw [hv]; rfl), hc.lt, hc.frozen⟩
theorem MatO.row {g n c : Nat} (h : MatO w lo hi (.slice (some ⟨g, 0, none⟩) n c) M) {i : Nat} {l : List UInt8} (hl : M[i]? = some l) :
    ∃ b c', RowAt w lo hi g i b c' l ∧ ∀ (j : Nat) (x : UInt8), MatO (w.setCell ⟨b, j, none⟩ (.int .u8 (x.toNat : Int))) lo hi (.slice (some ⟨g, 0, none⟩) n c) (M.set i (l.set j x)) := by
  obtain ⟨rows, a, b, cc, d, e⟩ := h
  have hiM := (List.getElem?_eq_some_iff.1 hl).1
  obtain ⟨r, hr⟩ : ∃ r, rows[i]? = some r := ⟨_, List.getElem?_eq_getElem (by rw [cc]; exact hiM)⟩
  obtain ⟨d1, d2, d3⟩ := d i r l hr hl
  obtain ⟨bb, cap, rfl, hb, hlt, hcap, hcell, hfr⟩ := d2.form d1
  rcases a.form with ⟨hv, _⟩ | ⟨g', cap', cur, hv, hb', hc, hn, hm, hlc, ht⟩
  · cases hv
  cases hv
  have hbg : bb ≠ g := by
    intro e'
    subst e'
    rcases d2.toV.form with ⟨hv, _⟩ | ⟨g2, cap2, cur2, hv, _, hc2, _⟩
    · cases hv
    · have e3 : bb = g2 := by
        have := (Value.slice.inj hv).1
        simpa using this
      subst e3
      exact absurd (hc.type hc2).1 (by decide)
  have hcur : cur[i]? = some (.slice (some ⟨bb, 0, none⟩) l.length cap) := by
    have := congrArg (fun z => z[i]?) ht
    rw [List.getElem?_take_of_lt (by rw [cc]; exact hiM)] at this
    rw [this]
    exact hr
  refine ⟨bb, cap, ⟨hc.cell hcur, hcap, fun j x hx => ?_, hfr, hbg, hb, d3 bb rfl, hlt⟩, fun j x => ?_⟩
  · have hj := (List.getElem?_eq_some_iff.1 hx).1
    rw [hcell j hj]
    have : l[j] = x := by rw [List.getElem?_eq_getElem hj] at hx; exact Option.some.inj hx
    rw [this]
  · have hother : ∀ k, k ≠ bb → (w.setCell ⟨bb, j, none⟩ (.int .u8 (x.toNat : Int))).heap[k]? = w.heap[k]? := fun k hk => Below.heap_setCell _ _ _ _ hk
    refine ⟨rows, a.move fun k hk => hother k (by cases hk; exact fun e' => hbg e'.symm), b, by rw [List.length_set]; exact cc, fun i' r' l' hr' hl' => ?_, e⟩
    by_cases hii : i' = i
    · subst hii
      rw [hr] at hr'
      cases hr'
      rw [List.getElem?_set_self hiM] at hl'
      cases hl'
      exact ⟨by rw [List.length_set]; exact d1, d2.setB j x, d3⟩
    · rw [List.getElem?_set_ne (fun e' => hii e'.symm)] at hl'
      obtain ⟨f1, f2, f3⟩ := d i' r' l' hr' hl'
      exact ⟨f1, f2.move fun k hk => hother k (by
        intro e'
        subst e'
        exact e i i' _ _ k (fun e2 => hii e2.symm) hr hr' rfl hk), f3⟩
/-- it reads as a slice of slices -/
theorem MatO.rbb (h : MatO w lo hi v M) : ∃ A c, v = .slice A M.length c ∧ M.length ≤ c ∧ ∀ (k : Nat) (l : List UInt8), M[k]? = some l → ∃ ad A' c', A = some ad ∧ ad.block < w.heap.size ∧ w.cell? (ad.add k) = some (.slice A' l.length c') ∧ RB w w.heap.size A' l ∧ l.length ≤ c' := by
  by_cases h0 : 0 < M.length
  · obtain ⟨g, c, rfl, hc, _, _, hlt, _⟩ := h.head h0
    refine ⟨_, c, rfl, hc, fun k l hl => ?_⟩
    obtain ⟨b, c', hr, _⟩ := h.row hl
    refine ⟨_, some ⟨b, 0, none⟩, c', rfl, hlt, by rw [add_flat, Nat.zero_add]; exact hr.head, fun j x hx => ⟨_, rfl, hr.lt, by rw [add_flat, Nat.zero_add]; exact hr.cells j x hx⟩, hr.cap⟩
  · obtain ⟨rows, a, b, cc, d, e⟩ := h
    obtain ⟨A, c, rfl, hc, _, _⟩ := a.rd
    rw [cc] at hc ⊢
    exact ⟨A, c, rfl, hc, fun k l hl => by have := (List.getElem?_eq_some_iff.1 hl).1; omega⟩
end
theorem info_row : (Tryd.prog.info? 25).map (fun i => (i.zero, i.size, i.bytes)) = some (some (.slice none 0 0), 1, 24) := by kernel_rfl
/-- make([]byte, n) -/
theorem make_run (n : Nat) (hn : n ≤ 1099511627776) : ∃ cs : Array Value, Hid (cs = (bvs (List.replicate n 0)).toArray) ∧
    ∀ u : World, (Instr.makeSlice 25 (.int .i64 (n : Int)) (.int .i64 (n : Int))).run Tryd.prog u = .ok (.slice (some ⟨u.heap.size, 0, none⟩) n n) (u.alloc (.cells cs 5)) := by
  obtain ⟨i0, hi, hz0, hz1, hz2⟩ := info_parts info8
  refine ⟨_, rfl, fun u => ?_⟩
  have h := run_make (P := Tryd.prog) u 25 5 i0 (.int .u8 0) Tryd.underlying25 hi hz0 .i64 .i64 (n : Int) (n : Int) (by omega) (Int.le_refl _) (by rw [hz2]; omega) (by omega)
  rw [h]
  simp only [Int.toNat_natCast, hz1, Nat.mul_one]
  congr 3
  apply Array.toList_inj.1
  show (madeCells #[Value.int .u8 0] n).toList = _
  rw [toList_madeCells_one]
  simp [bvs, bv]
/-- make(Matrix, n) -/
theorem make_rows (n : Nat) (hn : n ≤ 4096) : ∃ cs : Array Value, Hid (cs = (List.replicate n (.slice none 0 0)).toArray) ∧
    ∀ u : World, (Instr.makeSlice 140 (.int .i64 (n : Int)) (.int .i64 (n : Int))).run Tryd.prog u = .ok (.slice (some ⟨u.heap.size, 0, none⟩) n n) (u.alloc (.cells cs 25)) := by
  obtain ⟨i0, hi, hz0, hz1, hz2⟩ := info_parts info_row
  refine ⟨_, rfl, fun u => ?_⟩
  have h := run_make (P := Tryd.prog) u 140 25 i0 (.slice none 0 0) Tryd.underlying140 hi hz0 .i64 .i64 (n : Int) (n : Int) (by omega) (Int.le_refl _) (by rw [hz2]; omega) (by omega)
  rw [h]
  simp only [Int.toNat_natCast, hz1, Nat.mul_one]
  congr 3
  apply Array.toList_inj.1
  show (madeCells #[Value.slice none 0 0] n).toList = _
  rw [toList_madeCells_one]
end Go.Proofs.YtlficcdbnmheeaaDoor
