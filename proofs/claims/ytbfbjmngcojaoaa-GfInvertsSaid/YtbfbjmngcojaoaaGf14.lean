/-
  Row operations: plain, and in memory; the program's pivot, swap, scale, add.
-/
import Derived.Test.YtbfbjmngcojaoaaGf13
import Derived.Test.YtbfbjmngcojaoaaGf5
namespace Go.Proofs.Ytbfbjmngcojaoaa
open Go.RowKit

set_option maxRecDepth 20000
abbrev Mtx := List (List UInt8)
def at2 (M : Mtx) (i j : Nat) : UInt8 := (M.getD i []).getD j 0
def pivFrom (M : Mtx) (n : Nat) : Nat → Nat → Option Nat
  | 0, _ => none
  | f + 1, k => if at2 M k n ≠ 0 then some k else pivFrom M n f (k + 1)
def pivot (M : Mtx) (n : Nat) : Option Nat := pivFrom M n (M.length - n) n
def pivI (o : Option Nat) : Int := match o with | some k => (k : Int) | none => -1
def swapM (M : Mtx) (i p : Nat) : Mtx := (M.set i (M.getD p [])).set p (M.getD i [])
def scaleR (r : List UInt8) (x : UInt8) : List UInt8 := r.map fun y => bm y x
def scaleM (M : Mtx) (i : Nat) (x : UInt8) : Mtx := M.set i (scaleR (M.getD i []) x)
def addR (r o : List UInt8) (x : UInt8) : List UInt8 := List.zipWith (fun a b => a ^^^ bm b x) r o
def addM (M : Mtx) (r i : Nat) (x : UInt8) : Mtx := M.set r (addR (M.getD r []) (M.getD i []) x)
theorem getD_of {M : Mtx} {i : Nat} {l : List UInt8} (h : M[i]? = some l) : M.getD i [] = l := by rw [List.getD_eq_getElem?_getD, h]; rfl
theorem getD8 {l : List UInt8} {i : Nat} {x : UInt8} (h : l[i]? = some x) : l.getD i 0 = x := by rw [List.getD_eq_getElem?_getD, h]; rfl

/-- outside of the matrix all is as it was -/
def Out (lo hi : Nat) (w w' : World) : Prop := Kept (fun b => b < lo ∨ hi ≤ b) w w'
theorem Out.refl (lo hi : Nat) (w : World) : Out lo hi w w := Kept.refl _ _
theorem Out.drewN {lo hi : Nat} {w w' : World} (h : Out lo hi w w') (n : Nat) : Out lo hi w (w'.drewN n) := Kept.drewN h n
theorem Out.set {lo hi : Nat} {w w' : World} (h : Out lo hi w w') {b i : Nat} (h1 : lo ≤ b) (h2 : b < hi) (v : Value) : Out lo hi w (w'.setCell ⟨b, i, none⟩ v) :=
  Kept.setCell h (p := ⟨b, i, none⟩) (by show ¬ (b < lo ∨ hi ≤ b); omega) v
theorem Out.below {lo hi B : Nat} {w w' : World} (h : Out lo hi w w') (h1 : B ≤ lo) (hB : B ≤ w.heap.size) : Below B w w' := Kept.to_below h (fun b hb => .inl (by omega)) hB

/-- two rows change places in memory, in either order of the stores -/
theorem MatO.swap {w : World} {lo hi g n c : Nat} {M : Mtx} (h : MatO w lo hi (.slice (some ⟨g, 0, none⟩) n c) M) {i p : Nat} (hi' : i < M.length) (hp : p < M.length) :
    ∃ ri rp, w.cell? ⟨g, i, none⟩ = some ri ∧ w.cell? ⟨g, p, none⟩ = some rp ∧ w.frozen? ⟨g, i, none⟩ = false ∧ w.frozen? ⟨g, p, none⟩ = false ∧ lo ≤ g ∧ g < hi ∧
      (∃ bi ci, ri = .slice (some ⟨bi, 0, none⟩) (M.getD i []).length ci) ∧ (∃ bp cp, rp = .slice (some ⟨bp, 0, none⟩) (M.getD p []).length cp) ∧
      MatO ((w.setCell ⟨g, i, none⟩ rp).setCell ⟨g, p, none⟩ ri) lo hi (.slice (some ⟨g, 0, none⟩) n c) (swapM M i p) ∧
      MatO ((w.setCell ⟨g, p, none⟩ ri).setCell ⟨g, i, none⟩ rp) lo hi (.slice (some ⟨g, 0, none⟩) n c) (swapM M i p) := by
  obtain ⟨bi, ci, hri, _⟩ := h.row (List.getElem?_eq_getElem hi')
  obtain ⟨bp, cp, hrp, _⟩ := h.row (List.getElem?_eq_getElem hp)
  have gi : M.getD i [] = M[i] := getD_of (List.getElem?_eq_getElem hi')
  have gp : M.getD p [] = M[p] := getD_of (List.getElem?_eq_getElem hp)
  obtain ⟨rows, a, b, cc, d, e⟩ := h
  rcases a.form with ⟨hv, _⟩ | ⟨g', cap', cur, hv, hb', hc, hn, hm, hlc, ht⟩
  · cases hv
  cases hv
  have get : ∀ (k : Nat) (r : Value), k < rows.length → w.cell? ⟨g, k, none⟩ = some r → rows[k]? = some r := fun k r hk hr => by
    have hlt : k < cur.length := by omega
    have := hc.cell (List.getElem?_eq_getElem hlt)
    rw [hr] at this
    rw [← ht, List.getElem?_take_of_lt hk, List.getElem?_eq_getElem hlt]
    exact this.symm
  have q1 := get i _ (by rw [cc]; exact hi') hri.head
  have q2 := get p _ (by rw [cc]; exact hp) hrp.head
  have key : ∀ w' : World, (∀ k, k ≠ g → w'.heap[k]? = w.heap[k]?) → OwnV w' lo 46 (.slice (some ⟨g, 0, none⟩) rows.length c) ((rows.set i (.slice (some ⟨bp, 0, none⟩) M[p].length cp)).set p (.slice (some ⟨bi, 0, none⟩) M[i].length ci)) →
      MatO w' lo hi (.slice (some ⟨g, 0, none⟩) rows.length c) (swapM M i p) := by
    intro w' hk hown
    have hsig : ∀ (k : Nat) (r : Value) (l : List UInt8), ((rows.set i (.slice (some ⟨bp, 0, none⟩) M[p].length cp)).set p (.slice (some ⟨bi, 0, none⟩) M[i].length ci))[k]? = some r → k < rows.length ∧ rows[if k = p then i else if k = i then p else k]? = some r := by
      intro k r _ hr
      have hkl : k < rows.length := by
        have := (List.getElem?_eq_some_iff.1 hr).1
        simpa using this
      refine ⟨hkl, ?_⟩
      rw [List.getElem?_set] at hr
      by_cases h1 : p = k
      · subst h1
        rw [if_pos rfl, if_pos (by simpa using hkl)] at hr
        rw [if_pos rfl, q1]
        exact hr
      · rw [if_neg h1, List.getElem?_set] at hr
        rw [if_neg (fun e => h1 e.symm)]
        by_cases h2 : i = k
        · subst h2
          rw [if_pos rfl, if_pos hkl] at hr
          rw [if_pos rfl, q2]
          exact hr
        · rw [if_neg h2] at hr
          rw [if_neg (fun e => h2 e.symm)]
          exact hr
    have hM : ∀ (k : Nat), k < M.length → (swapM M i p)[k]? = M[if k = p then i else if k = i then p else k]? := by
      intro k hkl
      unfold swapM
      rw [gi, gp, List.getElem?_set]
      by_cases h1 : p = k
      · subst h1
        rw [if_pos rfl, if_pos (by simpa using hkl), if_pos rfl, List.getElem?_eq_getElem hi']
      · rw [if_neg h1, List.getElem?_set, if_neg (show ¬ k = p from fun e => h1 e.symm)]
        by_cases h2 : i = k
        · subst h2
          rw [if_pos rfl, if_pos hkl, if_pos rfl, List.getElem?_eq_getElem hp]
        · rw [if_neg h2, if_neg (show ¬ k = i from fun e => h2 e.symm)]
    refine ⟨(rows.set i (.slice (some ⟨bp, 0, none⟩) M[p].length cp)).set p (.slice (some ⟨bi, 0, none⟩) M[i].length ci), hown, fun k hk' => b k hk', by simp [swapM, cc], fun k r l hr hl => ?_, fun k k' rk rk' x hkk hrk hrk' hx hx' => ?_⟩
    · obtain ⟨hkl, hr'⟩ := hsig k r l hr
      rw [hM k (by rw [← cc]; exact hkl)] at hl
      obtain ⟨d1, d2, d3⟩ := d _ r l hr' hl
      refine ⟨d1, d2.move fun x hx => hk x ?_, d3⟩
      intro e'
      subst e'
      obtain ⟨bb, cap, rfl, _⟩ := d2.form d1
      cases hx
      rcases d2.toV.form with ⟨hv, _⟩ | ⟨g2, cap2, cur2, hv, _, hc2, _⟩
      · cases hv
      · have e3 := (Value.slice.inj hv).1
        simp at e3
        rw [← e3] at hc2
        exact absurd (hc.type hc2).1 (by decide)
    · obtain ⟨_, h1⟩ := hsig k rk [] hrk
      obtain ⟨_, h2⟩ := hsig k' rk' [] hrk'
      refine e _ _ rk rk' x ?_ h1 h2 hx hx'
      intro he
      apply hkk
      revert he
      split <;> split <;> (try split) <;> (try split) <;> omega
  have o1 : OwnV ((w.setCell ⟨g, i, none⟩ (.slice (some ⟨bp, 0, none⟩) M[p].length cp)).setCell ⟨g, p, none⟩ (.slice (some ⟨bi, 0, none⟩) M[i].length ci)) lo 46 (.slice (some ⟨g, 0, none⟩) rows.length c) ((rows.set i (.slice (some ⟨bp, 0, none⟩) M[p].length cp)).set p (.slice (some ⟨bi, 0, none⟩) M[i].length ci)) := (a.set i _).set p _
  have o2 : OwnV ((w.setCell ⟨g, p, none⟩ (.slice (some ⟨bi, 0, none⟩) M[i].length ci)).setCell ⟨g, i, none⟩ (.slice (some ⟨bp, 0, none⟩) M[p].length cp)) lo 46 (.slice (some ⟨g, 0, none⟩) rows.length c) ((rows.set i (.slice (some ⟨bp, 0, none⟩) M[p].length cp)).set p (.slice (some ⟨bi, 0, none⟩) M[i].length ci)) := by
    have := (a.set p (.slice (some ⟨bi, 0, none⟩) M[i].length ci)).set i (.slice (some ⟨bp, 0, none⟩) M[p].length cp)
    by_cases e1 : i = p
    · subst e1
      have e2 : (Value.slice (some ⟨bi, 0, none⟩) M[i].length ci) = .slice (some ⟨bp, 0, none⟩) M[i].length cp := Option.some.inj (hri.head.symm.trans hrp.head)
      rw [e2] at this ⊢
      exact this
    · rw [List.set_comm _ _ e1]
      exact this
  have far : ∀ (u v : Value) (x y : Nat) (k : Nat), k ≠ g → ((w.setCell ⟨g, x, none⟩ u).setCell ⟨g, y, none⟩ v).heap[k]? = w.heap[k]? := fun u v x y k hk => (Below.heap_setCell _ _ _ _ hk).trans (Below.heap_setCell _ _ _ _ hk)
  exact ⟨_, _, hri.head, hrp.head, hc.frozen i, hc.frozen p, hb', b g rfl, ⟨bi, ci, by rw [gi]⟩, ⟨bp, cp, by rw [gp]⟩, key _ (far _ _ _ _) o1, key _ (far _ _ _ _) o2⟩
end Go.Proofs.Ytbfbjmngcojaoaa
