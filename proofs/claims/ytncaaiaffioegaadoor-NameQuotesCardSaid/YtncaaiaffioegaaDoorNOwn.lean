/-
  Slices of the call's own of one-cell elements (runes, numbers, texts): read, kept, appended to; what stays beside them.
-/
import Derived.Test.YtncaaiaffioegaaDoorNStr
namespace Go.Proofs.YtncaaiaffioegaaDoor
open Go.RowKit

/-- THE CALL OWNS v, a slice of e's, which holds xs. -/
def OwnV (w : World) (base : Nat) (e : TypeId) (v : Value) (xs : List Value) : Prop := w.ownsRow base e 1 v xs.length xs

section
variable {w w' : World} {base B : Nat} {e : TypeId} {v : Value} {xs : List Value}
theorem OwnV.nil (w : World) (base : Nat) (e : TypeId) : OwnV w base e (.slice none 0 0) [] := World.ownsRow_nil w base _ _
theorem OwnV.below (h : OwnV w base e v xs) (hb : Below w.heap.size w w') : OwnV w' base e v xs := by
  refine World.ownsRow.kept (row := none) h ⟨hb.os, hb.tape, hb.output, hb.size, fun k hk _ => hb.block k hk⟩ ?_
  cases hv : v.ownBlock <;> simp
theorem OwnV.alloc (h : OwnV w base e v xs) (o : Obj) : OwnV (w.alloc o) base e v xs := World.ownsRow.alloc h o
theorem OwnV.drew (h : OwnV w base e v xs) : OwnV w.drew base e v xs := h
theorem OwnV.wide (h : OwnV w base e v xs) (hb : B ≤ base) : OwnV w B e v xs := by
  refine ⟨h.1, ?_⟩
  rcases h.2 with h | ⟨g, cap, cur, hv, hg, r⟩
  · exact .inl h
  · exact .inr ⟨g, cap, cur, hv, Nat.le_trans hb hg, r⟩
theorem OwnV.ge (h : OwnV w base e v xs) : ∀ k, v.ownBlock = some k → base ≤ k := fun k hk => (World.ownsRow.lt h k hk).1
theorem OwnV.rd (h : OwnV w base e v xs) : ∃ A c, v = .slice A xs.length c ∧ xs.length ≤ c ∧ (A = none → c = 0) ∧ ∀ i u, xs[i]? = some u → ∃ b, A = some ⟨b, 0, none⟩ ∧ b < w.heap.size ∧ w.cell? ⟨b, i, none⟩ = some u := by
  rcases h.2 with ⟨rfl, h0⟩ | ⟨g, cap, cur, rfl, hb, hg, hn, hm, hs, ht⟩
  · have : xs = [] := List.eq_nil_of_length_eq_zero h0
    subst this
    exact ⟨none, 0, rfl, Nat.le_refl _, fun _ => rfl, fun i u hu => by simp at hu⟩
  · refine ⟨_, cap, rfl, hn, (fun e => by cases e), fun k x hx => ⟨g, rfl, (Array.getElem?_eq_some_iff.1 hg).1, ?_⟩⟩
    have := World.ownsRow.cells (e := e) (size := 1) h rfl k x hx
    rw [add_flat, Nat.zero_add] at this
    exact this
theorem OwnV.made (w : World) (cs : Array Value) (n : Nat) (hb : base ≤ w.heap.size) (hn : n ≤ 140737488355327) (hc : cs.size = n) : OwnV (w.alloc (.cells cs e)) base e (.slice (some ⟨w.heap.size, 0, none⟩) 0 n) [] :=
  World.ownsRow_made w cs n hb (by simp only [maxLen]; omega) (by omega)

/-- what a row of cells is not: an iterator's block -/
theorem row_no_iter (h : w.ownsRow base e 1 v xs.length xs) {k : Nat} {s : ByteArray} {pos : Nat} (hk : w.heap[k]? = some (.stringIter s pos)) : v.ownBlock ≠ some k := by
  intro hv
  rcases h.2 with ⟨rfl, _⟩ | ⟨g, cap, cur, rfl, hb, hg, _⟩
  · cases hv
  · simp [Value.ownBlock] at hv
    subst hv
    rw [hg] at hk
    cases hk
theorem iter_grown (h : w.ownsRow base e 1 v xs.length xs) {k : Nat} {s : ByteArray} {pos : Nat} (hk : w.heap[k]? = some (.stringIter s pos)) (hg : w.grownBy w' v.ownBlock) : w'.heap[k]? = some (.stringIter s pos) := by
  rw [hg.block k (Array.getElem?_eq_some_iff.1 hk).1 (fun e => row_no_iter h hk e.symm)]
  exact hk
theorem row_iterAt (h : w.ownsRow base e 1 v xs.length xs) {k : Nat} {s : ByteArray} {pos : Nat} (hk : w.heap[k]? = some (.stringIter s pos)) (pos' : Nat) : (w.iterAt k s pos').ownsRow base e 1 v xs.length xs := by
  have hne := row_no_iter h hk
  refine ⟨h.1, ?_⟩
  rcases h.2 with h | ⟨g, cap, cur, rfl, hb, hg, r⟩
  · exact .inl h
  · refine .inr ⟨g, cap, cur, rfl, hb, (Lib.iterAt_other w k g s pos' ?_).trans hg, r⟩
    intro e
    exact hne (by simp [Value.ownBlock, e])
theorem OwnV.iterAt (h : OwnV w base e v xs) {k : Nat} {s : ByteArray} {pos : Nat} (hk : w.heap[k]? = some (.stringIter s pos)) (pos' : Nat) : OwnV (w.iterAt k s pos') base e v xs := row_iterAt h hk pos'
end
theorem Own.iterAt {w : World} {base : Nat} {v : Value} {l : List UInt8} (h : Own w base v l) {k : Nat} {s : ByteArray} {pos : Nat} (hk : w.heap[k]? = some (.stringIter s pos)) (pos' : Nat) : Own (w.iterAt k s pos') base v l := by
  have h' : w.ownsRow base 5 1 v (bvs l).length (bvs l) := by rw [bvs_length]; exact h
  have := row_iterAt h' hk pos'
  rw [bvs_length] at this
  exact this
/-- what is no row of bytes stays beside an append to one -/
theorem others_grown {w w' : World} {base : Nat} {v : Value} {l : List UInt8} (h : Own w base v l) (hg : w.grownBy w' v.ownBlock) : Lib.OthersKept 5 none w w' := by
  refine (Lib.OthersKept.refl _ _ w).grown hg (fun g hv => ?_)
  rcases h.2 with ⟨rfl, _⟩ | ⟨g', cap, cur, rfl, hb, hg, _⟩
  · cases hv
  · simp [Value.ownBlock] at hv
    subst hv
    exact ⟨_, _, hg⟩
theorem iter_others {w w' : World} (h : Lib.OthersKept 5 none w w') {k : Nat} {s : ByteArray} {pos : Nat} (hk : w.heap[k]? = some (.stringIter s pos)) : w'.heap[k]? = some (.stringIter s pos) :=
  h k _ hk (by simp) (fun _ _ e => by cases e)

/-- the cell of a block of one that was made just now -/
theorem cell_new (w : World) (u : Value) (t : TypeId) : (w.alloc (.cells #[u] t)).cell? ⟨w.heap.size, 0, none⟩ = some u := by
  have h := heap_alloc_new w (.cells #[u] t)
  simp only [World.cell?, h]
  rfl
/-- append(v, x): one element more -/
theorem app_one {w : World} {ops : Array Oper} {rest : List Oper} {o : Oper} {a : Act} {Q : Exit → Act → World → Prop} (hgd : o.guard = none) (s x : Operand) (t e : TypeId)
    (ho : o.op = .call { callee := .builtin .append, args := #[s, x], argTypes := #[t, t] })
    (hu : Tryd.prog.underlying t = some (.slice e)) (z : Value) (bytes : Nat) (hi : (Tryd.prog.info? e).map (fun i => (i.zero, i.size, i.bytes)) = some (some z, 1, bytes)) (hzc : z.cells.size = 1)
    (base : Nat) (v : Value) (xs : List Value) (hs : a.eval s = v) (hown : OwnV w base e v xs)
    (ad : Addr) (c : Nat) (u : Value) (hx : a.eval x = .slice (some ad) 1 c) (hc : w.cell? ad = some u) (h1 : u.oneCell' = true)
    (hlen : xs.length + 1 ≤ 140737488355327) (hbytes : (xs.length + 1) * bytes ≤ 140737488355328) (hbase : base ≤ w.heap.size)
    (h : ∀ v' w', OwnV w' base e v' (xs ++ [u]) → Below base w w' → w.grownBy w' v.ownBlock → wpList Tryd.prog ops Q rest (a.put o.dst v') w') :
    wpList Tryd.prog ops Q (o :: rest) a w := by
  obtain ⟨i0, hi0, hz0, hz1, hz2⟩ := info_parts hi
  refine wpList_plain hgd fun K hK => ?_
  obtain ⟨v', w', hrun, h2, h3, _, h5⟩ := run_append_own_at (P := Tryd.prog) w base t o.type e i0 z 1 bytes hu hi0 hz0 hz1 hz2 hzc (by omega) v xs.length xs hown ad 1 c [u]
    (by simp) (fun j y hy => by
      cases j with
      | zero =>
        simp at hy
        subst hy
        show w.cell? (ad.add 0) = _
        rw [show ad.add 0 = ad from rfl]
        exact hc
      | succ j => simp at hy) (fun y hy => by simp at hy; subst hy; exact h1) (by simp only [maxLen]; omega) hbytes hbase
  unfold Oper.wp execOp
  simp only [ho, resolve, invoke, builtin, Sem.run_bind, Sem.run_pure, Result.andThen_ok, List.map_toArray, List.map_cons, List.map_nil, hs, hx, hrun]
  exact hK _ _ (h v' w' (by show World.ownsRow _ _ _ _ _ _ _; rw [List.length_append]; exact h2) ((Below.refl _ _).grown h3 hbase hown.ge) h3)
end Go.Proofs.YtncaaiaffioegaaDoor
