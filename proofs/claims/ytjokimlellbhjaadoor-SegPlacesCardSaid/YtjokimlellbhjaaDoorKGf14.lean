/-
  Row operations: plain, and in memory; the program's pivot, swap, scale, add.
-/
import Derived.Test.YtjokimlellbhjaaDoorGf13
import Derived.Test.YtjokimlellbhjaaDoorKGf4
namespace Go.Proofs.YtjokimlellbhjaaDoor
open Go.RowKit

set_option maxRecDepth 20000
abbrev Mtx := List (List UInt8)
def at2 (M : Mtx) (i j : Nat) : UInt8 := (M.getD i []).getD j 0
def pivFrom (M : Mtx) (n : Nat) : Nat → Nat → Option Nat
  | 0, _ => none
  | f + 1, k => if at2 M k n ≠ 0 then some k else pivFrom M n f (k + 1)
def pivot (M : Mtx) (n : Nat) : Option Nat := pivFrom M n (M.length - n) n
def pivI (o : Option Nat) : Int := match o with | some k => (k : Int) | none => -1
def swapM (M : Mtx) (i p : Nat) : Mtx := (M.set i (M.getD p [])).set p (M.getD i [])
def scaleR (r : List UInt8) (x : UInt8) : List UInt8 := r.map fun y => bm y x
def scaleM (M : Mtx) (i : Nat) (x : UInt8) : Mtx := M.set i (scaleR (M.getD i []) x)
def addR (r o : List UInt8) (x : UInt8) : List UInt8 := List.zipWith (fun a b => a ^^^ bm b x) r o
def addM (M : Mtx) (r i : Nat) (x : UInt8) : Mtx := M.set r (addR (M.getD r []) (M.getD i []) x)
theorem getD_of {M : Mtx} {i : Nat} {l : List UInt8} (h : M[i]? = some l) : M.getD i [] = l := by rw [List.getD_eq_getElem?_getD, h]; rfl
theorem getD8 {l : List UInt8} {i : Nat} {x : UInt8} (h : l[i]? = some x) : l.getD i 0 = x := by rw [List.getD_eq_getElem?_getD, h]; rfl

/-- outside of the matrix all is as it was -/
def Out (lo hi : Nat) (w w' : World) : Prop := Kept (fun b => b < lo ∨ hi ≤ b) w w'
theorem Out.refl (lo hi : Nat) (w : World) : Out lo hi w w := Kept.refl _ _
theorem Out.drewN {lo hi : Nat} {w w' : World} (h : Out lo hi w w') (n : Nat) : Out lo hi w (w'.drewN n) := Kept.drewN h n
theorem Out.set {lo hi : Nat} {w w' : World} (h : Out lo hi w w') {b i : Nat} (h1 : lo ≤ b) (h2 : b < hi) (v : Value) : Out lo hi w (w'.setCell ⟨b, i, none⟩ v) :=
  Kept.setCell h (p := ⟨b, i, none⟩) (by show ¬ (b < lo ∨ hi ≤ b); omega) v
theorem Out.below {lo hi B : Nat} {w w' : World} (h : Out lo hi w w') (h1 : B ≤ lo) (hB : B ≤ w.heap.size) : Below B w w' := Kept.to_below h (fun b hb => .inl (by omega)) hB

/-- two rows change places in memory, in either order of the stores -/
theorem MatO.swap {w : World} {lo hi g n c : Nat} {M : Mtx} (h : MatO w lo hi (.slice (some ⟨g, 0, none⟩) n c) M) {i p : Nat} (hi' : i < M.length) (hp : p < M.length) :
    ∃ ri rp, w.cell? ⟨g, i, none⟩ = some ri ∧ w.cell? ⟨g, p, none⟩ = some rp ∧ w.frozen? ⟨g, i, none⟩ = false ∧ w.frozen? ⟨g, p, none⟩ = false ∧ lo ≤ g ∧ g < hi ∧
      (∃ bi ci, ri = .slice (some ⟨bi, 0, none⟩) (M.getD i []).length ci) ∧ (∃ bp cp, rp = .slice (some ⟨bp, 0, none⟩) (M.getD p []).length cp) ∧
      MatO ((w.setCell ⟨g, i, none⟩ rp).setCell ⟨g, p, none⟩ ri) lo hi (.slice (some ⟨g, 0, none⟩) n c) (swapM M i p) ∧
      MatO ((w.setCell ⟨g, p, none⟩ ri).setCell ⟨g, i, none⟩ rp) lo hi (.slice (some ⟨g, 0, none⟩) n c) (swapM M i p) := by
  obtain ⟨bi, ci, hri, _⟩ := h.row (List.getElem?_eq_getElem hi')
  obtain ⟨bp, cp, hrp, _⟩ := h.row (List.getElem?_eq_getElem hp)
  have gi : M.getD i [] = M[i] := getD_of (List.getElem?_eq_getElem hi')
  have gp : M.getD p [] = M[p] := getD_of (List.getElem?_eq_getElem hp)
  obtain ⟨rows, a, b, cc, d, e⟩ := h
  rcases a.form with ⟨hv, _⟩ | ⟨g', cap', cur, hv, hb', hc, hn, hm, hlc, ht⟩
  · cases hv
  cases hv
  have get : ∀ (k : Nat) (r : Value), k < rows.length → w.cell? ⟨g, k, none⟩ = some r → rows[k]? = some r := fun k r hk hr => by
    have hlt : k < cur.length := by omega
    have := hc.cell (List.getElem?_eq_getElem hlt)
    rw [hr] at this
    rw [← ht, List.getElem?_take_of_lt hk, List.getElem?_eq_getElem hlt]
    exact this.symm
  have q1 := get i _ (by rw [cc]; exact hi') hri.head
  have q2 := get p _ (by rw [cc]; exact hp) hrp.head
  have key : ∀ w' : World, (∀ k, k ≠ g → w'.heap[k]? = w.heap[k]?) → OwnV w' lo 25 (.slice (some ⟨g, 0, none⟩) rows.length c) ((rows.set i (.slice (some ⟨bp, 0, none⟩) M[p].length cp)).set p (.slice (some ⟨bi, 0, none⟩) M[i].length ci)) →
      MatO w' lo hi (.slice (some ⟨g, 0, none⟩) rows.length c) (swapM M i p) := by
    intro w' hk hown
    have hsig : ∀ (k : Nat) (r : Value) (l : List UInt8), ((rows.set i (.slice (some ⟨bp, 0, none⟩) M[p].length cp)).set p (.slice (some ⟨bi, 0, none⟩) M[i].length ci))[k]? = some r → k < rows.length ∧ rows[if k = p then i else if k = i then p else k]? = some r := by
      intro k r _ hr
      have hkl : k < rows.length := by
        have := (List.getElem?_eq_some_iff.1 hr).1
        simpa using this
      refine ⟨hkl, ?_⟩
      rw [List.getElem?_set] at hr
      by_cases h1 : p = k
      · subst h1
        rw [if_pos rfl, if_pos (by simpa using hkl)] at hr
        rw [if_pos rfl, q1]
        exact hr
      · rw [if_neg h1, List.getElem?_set] at hr
        rw [if_neg (fun e => h1 e.symm)]
        by_cases h2 : i = k
        · subst h2
          rw [if_pos rfl, if_pos hkl] at hr
          rw [if_pos rfl, q2]
          exact hr
        · rw [if_neg h2] at hr
          rw [if_neg (fun e => h2 e.symm)]
          exact hr
    have hM : ∀ (k : Nat), k < M.length → (swapM M i p)[k]? = M[if k = p then i else if k = i then p else k]? := by
      intro k hkl
      unfold swapM
      rw [gi, gp, List.getElem?_set]
      by_cases h1 : p = k
      · subst h1
        rw [if_pos rfl, if_pos (by simpa using hkl), if_pos rfl, List.getElem?_eq_getElem hi']
      · rw [if_neg h1, List.getElem?_set, if_neg (show ¬ k = p from fun e => h1 e.symm)]
        by_cases h2 : i = k
        · subst h2
          rw [if_pos rfl, if_pos hkl, if_pos rfl, List.getElem?_eq_getElem hp]
        · rw [if_neg h2, if_neg (show ¬ k = i from fun e => h2 e.symm)]
    refine ⟨(rows.set i (.slice (some ⟨bp, 0, none⟩) M[p].length cp)).set p (.slice (some ⟨bi, 0, none⟩) M[i].length ci), hown, fun k hk' => b k hk', by simp [swapM, cc], fun k r l hr hl => ?_, fun k k' rk rk' x hkk hrk hrk' hx hx' => ?_⟩
    · obtain ⟨hkl, hr'⟩ := hsig k r l hr
      rw [hM k (by rw [← cc]; exact hkl)] at hl
      obtain ⟨d1, d2, d3⟩ := d _ r l hr' hl
      refine ⟨d1, d2.move fun x hx => hk x ?_, d3⟩
      intro e'
      subst e'
      obtain ⟨bb, cap, rfl, _⟩ := d2.form d1
      cases hx
      rcases d2.toV.form with ⟨hv, _⟩ | ⟨g2, cap2, cur2, hv, _, hc2, _⟩
      · cases hv
      · have e3 := (Value.slice.inj hv).1
        simp at e3
        rw [← e3] at hc2
        exact absurd (hc.type hc2).1 (by decide)
    · obtain ⟨_, h1⟩ := hsig k rk [] hrk
      obtain ⟨_, h2⟩ := hsig k' rk' [] hrk'
      refine e _ _ rk rk' x ?_ h1 h2 hx hx'
      intro he
      apply hkk
      revert he
      split <;> split <;> (try split) <;> (try split) <;> omega
  have o1 : OwnV ((w.setCell ⟨g, i, none⟩ (.slice (some ⟨bp, 0, none⟩) M[p].length cp)).setCell ⟨g, p, none⟩ (.slice (some ⟨bi, 0, none⟩) M[i].length ci)) lo 25 (.slice (some ⟨g, 0, none⟩) rows.length c) ((rows.set i (.slice (some ⟨bp, 0, none⟩) M[p].length cp)).set p (.slice (some ⟨bi, 0, none⟩) M[i].length ci)) := (a.set i _).set p _
  have o2 : OwnV ((w.setCell ⟨g, p, none⟩ (.slice (some ⟨bi, 0, none⟩) M[i].length ci)).setCell ⟨g, i, none⟩ (.slice (some ⟨bp, 0, none⟩) M[p].length cp)) lo 25 (.slice (some ⟨g, 0, none⟩) rows.length c) ((rows.set i (.slice (some ⟨bp, 0, none⟩) M[p].length cp)).set p (.slice (some ⟨bi, 0, none⟩) M[i].length ci)) := by
    have := (a.set p (.slice (some ⟨bi, 0, none⟩) M[i].length ci)).set i (.slice (some ⟨bp, 0, none⟩) M[p].length cp)
    by_cases e1 : i = p
    · subst e1
      have e2 : (Value.slice (some ⟨bi, 0, none⟩) M[i].length ci) = .slice (some ⟨bp, 0, none⟩) M[i].length cp := Option.some.inj (hri.head.symm.trans hrp.head)
      rw [e2] at this ⊢
      exact this
    · rw [List.set_comm _ _ e1]
      exact this
  have far : ∀ (u v : Value) (x y : Nat) (k : Nat), k ≠ g → ((w.setCell ⟨g, x, none⟩ u).setCell ⟨g, y, none⟩ v).heap[k]? = w.heap[k]? := fun u v x y k hk => (Below.heap_setCell _ _ _ _ hk).trans (Below.heap_setCell _ _ _ _ hk)
  exact ⟨_, _, hri.head, hrp.head, hc.frozen i, hc.frozen p, hb', b g rfl, ⟨bi, ci, by rw [gi]⟩, ⟨bp, cp, by rw [gp]⟩, key _ (far _ _ _ _) o1, key _ (far _ _ _ _) o2⟩
end Go.Proofs.YtjokimlellbhjaaDoor

/-
  The program's pivot, swap, scale, add.
-/
namespace Go.Proofs.YtjokimlellbhjaaDoor
open Go.RowKit

set_option maxRecDepth 20000
def OpPost (w : World) (lo hi : Nat) (v : Value) (M : Mtx) (e : Ending) (w' : World) : Prop := e = .returned (.tuple #[]) ∧ MatO w' lo hi v M ∧ Out lo hi w w'
/-- the first j elements scaled -/
def scaleP (r : List UInt8) (x : UInt8) (j : Nat) : List UInt8 := (r.take j).map (fun y => bm y x) ++ r.drop j
theorem scaleP_length (r : List UInt8) (x : UInt8) (j : Nat) : (scaleP r x j).length = r.length := by
  simp [scaleP]; omega
theorem scaleP_get (r : List UInt8) (x y : UInt8) (j : Nat) (h : r[j]? = some y) : (scaleP r x j)[j]? = some y := by
  have hj := (List.getElem?_eq_some_iff.1 h).1
  unfold scaleP
  rw [List.getElem?_append_right (by simp; omega), List.getElem?_drop, List.length_map, List.length_take, show j + (j - min j r.length) = j by omega]
  exact h
theorem scaleP_step (r : List UInt8) (x y : UInt8) (j : Nat) (h : r[j]? = some y) : (scaleP r x j).set j (bm y x) = scaleP r x (j + 1) := by
  have hj := (List.getElem?_eq_some_iff.1 h).1
  have hy := (List.getElem?_eq_some_iff.1 h).2
  unfold scaleP
  rw [List.set_append_right _ _ (by simp; omega), List.length_map, List.length_take, show j - min j r.length = 0 by omega, List.drop_eq_getElem_cons hj, List.set_cons_zero, List.take_succ_eq_append_getElem hj, hy]
  simp
theorem scaleP_done (r : List UInt8) (x : UInt8) : scaleP r x r.length = scaleR r x := by simp [scaleP, scaleR]
def ScRel (w : World) (lo hi g n c i b c0 m : Nat) (M : Mtx) (r : List UInt8) (x : UInt8) (j : Nat) (wr : World) : Prop :=
  MatO wr lo hi (.slice (some ⟨g, 0, none⟩) n c) (M.set i (scaleP r x j)) ∧ Out lo hi w wr ∧ wr.cell? ⟨g, i, none⟩ = some (.slice (some ⟨b, 0, none⟩) m c0)
theorem ScRel.drewN {w wr : World} {lo hi g n c i b c0 m j : Nat} {M : Mtx} {r : List UInt8} {x : UInt8} (h : ScRel w lo hi g n c i b c0 m M r x j wr) (q : Nat) : ScRel w lo hi g n c i b c0 m M r x j (wr.drewN q) := ⟨h.1.drewN q, h.2.1.drewN q, h.2.2⟩
theorem sc_facts {w wr : World} {lo hi g n c i b c0 m j : Nat} {M : Mtx} {r : List UInt8} {x y : UInt8} (h : ScRel w lo hi g n c i b c0 m M r x j wr) (hi' : i < M.length) (hy : r[j]? = some y) :
    wr.cell? ⟨b, j, none⟩ = some (.int .u8 (y.toNat : Int)) ∧ wr.frozen? ⟨b, j, none⟩ = false ∧ b ≠ g ∧ ScRel w lo hi g n c i b c0 m M r x (j + 1) (wr.setCell ⟨b, j, none⟩ (.int .u8 ((bm y x).toNat : Int))) := by
  obtain ⟨h1, h2, h3⟩ := h
  obtain ⟨b', c', hr, hset⟩ := h1.row (i := i) (l := scaleP r x j) (List.getElem?_set_self hi')
  have e := hr.head
  rw [h3] at e
  have hb : b' = b := by
    have := (Value.slice.inj (Option.some.inj e)).1
    simpa using this.symm
  subst hb
  refine ⟨hr.cells j y (scaleP_get r x y j hy), hr.free j, hr.ne, ?_, h2.set hr.low hr.high _, ?_⟩
  · have := hset j (bm y x)
    rw [List.set_set, scaleP_step r x y j hy] at this
    exact this
  · exact (World.cell?_of_block (w := wr) (Below.heap_setCell _ _ _ _ fun e => hr.ne e.symm)).trans h3
/-- the first j elements added to -/
def addP (r o : List UInt8) (x : UInt8) (j : Nat) : List UInt8 := List.zipWith (fun a b => a ^^^ bm b x) (r.take j) (o.take j) ++ r.drop j
theorem addP_length (r o : List UInt8) (x : UInt8) (j : Nat) (h : r.length = o.length) : (addP r o x j).length = r.length := by
  simp [addP, h]; omega
theorem addP_get (r o : List UInt8) (x y : UInt8) (j : Nat) (h : r.length = o.length) (hy : r[j]? = some y) : (addP r o x j)[j]? = some y := by
  have hj := (List.getElem?_eq_some_iff.1 hy).1
  unfold addP
  have hl : (List.zipWith (fun a b => a ^^^ bm b x) (r.take j) (o.take j)).length = j := by simp; omega
  rw [List.getElem?_append_right (by omega), hl, Nat.sub_self, List.getElem?_drop, Nat.add_zero]
  exact hy
theorem addP_step (r o : List UInt8) (x y z : UInt8) (j : Nat) (h : r.length = o.length) (hy : r[j]? = some y) (hz : o[j]? = some z) : (addP r o x j).set j (y ^^^ bm z x) = addP r o x (j + 1) := by
  have hj := (List.getElem?_eq_some_iff.1 hy).1
  have hj2 := (List.getElem?_eq_some_iff.1 hz).1
  have ey := (List.getElem?_eq_some_iff.1 hy).2
  have ez := (List.getElem?_eq_some_iff.1 hz).2
  unfold addP
  have hl : (List.zipWith (fun a b => a ^^^ bm b x) (r.take j) (o.take j)).length = j := by simp; omega
  rw [List.set_append_right _ _ (by omega), hl, Nat.sub_self, List.drop_eq_getElem_cons hj, List.set_cons_zero, List.take_succ_eq_append_getElem hj, List.take_succ_eq_append_getElem hj2, ey, ez,
    List.zipWith_append (by simp; omega)]
  simp
theorem addP_done (r o : List UInt8) (x : UInt8) (h : r.length = o.length) : addP r o x r.length = addR r o x := by
  unfold addP addR
  rw [List.take_length, h, List.take_length, List.drop_eq_nil_of_le (by omega), List.append_nil]
def AdRel (w : World) (lo hi g n c p i b c0 b1 c1 m : Nat) (M : Mtx) (r o : List UInt8) (x : UInt8) (j : Nat) (wr : World) : Prop :=
  MatO wr lo hi (.slice (some ⟨g, 0, none⟩) n c) (M.set p (addP r o x j)) ∧ Out lo hi w wr ∧ wr.cell? ⟨g, p, none⟩ = some (.slice (some ⟨b, 0, none⟩) m c0) ∧ wr.cell? ⟨g, i, none⟩ = some (.slice (some ⟨b1, 0, none⟩) m c1)
theorem AdRel.drewN {w wr : World} {lo hi g n c p i b c0 b1 c1 m j : Nat} {M : Mtx} {r o : List UInt8} {x : UInt8} (h : AdRel w lo hi g n c p i b c0 b1 c1 m M r o x j wr) (q : Nat) : AdRel w lo hi g n c p i b c0 b1 c1 m M r o x j (wr.drewN q) := ⟨h.1.drewN q, h.2.1.drewN q, h.2.2⟩
theorem ad_facts {w wr : World} {lo hi g n c p i b c0 b1 c1 m j : Nat} {M : Mtx} {r o : List UInt8} {x y z : UInt8} (h : AdRel w lo hi g n c p i b c0 b1 c1 m M r o x j wr) (hp : p < M.length) (hip : p ≠ i) (ho : M[i]? = some o) (hl : r.length = o.length) (hy : r[j]? = some y) (hz : o[j]? = some z) :
    wr.cell? ⟨b, j, none⟩ = some (.int .u8 (y.toNat : Int)) ∧ wr.cell? ⟨b1, j, none⟩ = some (.int .u8 (z.toNat : Int)) ∧ wr.frozen? ⟨b, j, none⟩ = false ∧ b ≠ g ∧ AdRel w lo hi g n c p i b c0 b1 c1 m M r o x (j + 1) (wr.setCell ⟨b, j, none⟩ (.int .u8 ((y ^^^ bm z x).toNat : Int))) := by
  obtain ⟨h1, h2, h3, h4⟩ := h
  obtain ⟨b', c', hr, hset⟩ := h1.row (i := p) (l := addP r o x j) (List.getElem?_set_self hp)
  obtain ⟨b1', c1', hr1, _⟩ := h1.row (i := i) (l := o) (by rw [List.getElem?_set_ne hip]; exact ho)
  have e := hr.head
  rw [h3] at e
  have hb : b' = b := by
    have := (Value.slice.inj (Option.some.inj e)).1
    simpa using this.symm
  have e1 := hr1.head
  rw [h4] at e1
  have hb1 : b1' = b1 := by
    have := (Value.slice.inj (Option.some.inj e1)).1
    simpa using this.symm
  subst hb
  subst hb1
  refine ⟨hr.cells j y (addP_get r o x y j hl hy), hr1.cells j z hz, hr.free j, hr.ne, ?_, h2.set hr.low hr.high _, ?_, ?_⟩
  · have := hset j (y ^^^ bm z x)
    rw [List.set_set, addP_step r o x y z j hl hy hz] at this
    exact this
  · exact (World.cell?_of_block (w := wr) (Below.heap_setCell _ _ _ _ fun e => hr.ne e.symm)).trans h3
  · exact (World.cell?_of_block (w := wr) (Below.heap_setCell _ _ _ _ fun e => hr.ne e.symm)).trans h4
end Go.Proofs.YtjokimlellbhjaaDoor
