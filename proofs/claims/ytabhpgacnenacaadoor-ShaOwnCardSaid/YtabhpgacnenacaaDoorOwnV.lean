/-
  Slices of the call's own of one-cell elements; blocks known whole; which old blocks a step keeps; slices that read as numbers. Own work.
-/
import Derived.Test.YtabhpgacnenacaaDoorBase
import Derived.BigCall
import Derived.Deep.DeepCutAuto
import Derived.Deep.DeepMust
import Derived.Deep.DeepFit
import Derived.Deep.QuietTactic
import Derived.BigQuiet
import Derived.IntWalk
namespace Go.Proofs.YtabhpgacnenacaaDoor
open Go.RowKit

/-- THE CALL OWNS v, a slice of e's, which holds xs. -/
def OwnV (w : World) (base : Nat) (e : TypeId) (v : Value) (xs : List Value) : Prop := w.ownsRow base e 1 v xs.length xs

/-- BLOCK b IS JUST THE CELLS cs, none of them frozen. -/
def Cells (w : World) (b : Nat) (t : TypeId) (cs : List Value) : Prop := w.heap[b]? = some (.cells cs.toArray t (0, 0))

/-- OF THE OLD BLOCKS THOSE IN K ARE AS THEY WERE; no block has gone. -/
structure Kept (K : Nat → Prop) (w w' : World) : Prop where
  os : w'.os = w.os
  tape : w'.tape = w.tape
  output : w'.output = w.output
  size : w.heap.size ≤ w'.heap.size
  block : ∀ b, b < w.heap.size → K b → w'.heap[b]? = w.heap[b]?

/-- THE SLICE AT A READS AS THE NUMBERS xs, and lies below block B. -/
def RI (w : World) (B : Nat) (A : Option Addr) (xs : List Int) : Prop :=
  ∀ k x, xs[k]? = some x → ∃ ad, A = some ad ∧ ad.block < B ∧ w.cell? (ad.add k) = some (.int .i64 x)

section
variable {w w' w'' : World} {base B b : Nat} {e t : TypeId} {v u : Value} {xs cs : List Value} {K : Nat → Prop} {A : Option Addr}
theorem OwnV.nil (w : World) (base : Nat) (e : TypeId) : OwnV w base e (.slice none 0 0) [] := World.ownsRow_nil w base _ _
theorem OwnV.alloc (h : OwnV w base e v xs) (o : Obj) : OwnV (w.alloc o) base e v xs := World.ownsRow.alloc h o
theorem OwnV.drew (h : OwnV w base e v xs) : OwnV w.drew base e v xs := h
theorem OwnV.drewN (h : OwnV w base e v xs) (n : Nat) : OwnV (w.drewN n) base e v xs := h
theorem OwnV.wide (h : OwnV w base e v xs) (hb : B ≤ base) : OwnV w B e v xs := by
  refine ⟨h.1, ?_⟩
  rcases h.2 with h | ⟨g, cap, cur, hv, hg, r⟩
  · exact .inl h
  · exact .inr ⟨g, cap, cur, hv, Nat.le_trans hb hg, r⟩
theorem OwnV.ge (h : OwnV w base e v xs) : ∀ k, v.ownBlock = some k → base ≤ k ∧ k < w.heap.size := fun k hk => World.ownsRow.lt h k hk
/-- what an owned slice is, and where its cells lie -/
theorem OwnV.rd (h : OwnV w base e v xs) : ∃ A c, v = .slice A xs.length c ∧ xs.length ≤ c ∧ (A = none → c = 0) ∧ ∀ i u, xs[i]? = some u → ∃ b, A = some ⟨b, 0, none⟩ ∧ b < w.heap.size ∧ w.cell? ⟨b, i, none⟩ = some u := by
  rcases h.2 with ⟨rfl, h0⟩ | ⟨g, cap, cur, rfl, hb, hg, hn, hm, hs, ht⟩
  · have : xs = [] := List.eq_nil_of_length_eq_zero h0
    subst this
    exact ⟨none, 0, rfl, Nat.le_refl _, fun _ => rfl, fun i u hu => by simp at hu⟩
  · refine ⟨_, cap, rfl, hn, (fun e => by cases e), fun k x hx => ⟨g, rfl, (Array.getElem?_eq_some_iff.1 hg).1, ?_⟩⟩
    have := World.ownsRow.cells (e := e) (size := 1) h rfl k x hx
    rw [add_flat, Nat.zero_add] at this
    exact this
/-- the same, the block known -/
theorem OwnV.form (h : OwnV w base e v xs) : (v = .slice none 0 0 ∧ xs = []) ∨ ∃ g cap cur, v = .slice (some ⟨g, 0, none⟩) xs.length cap ∧ base ≤ g ∧ Cells w g e cur ∧ xs.length ≤ cap ∧ cap ≤ maxLen ∧ cur.length = cap ∧ cur.take xs.length = xs := by
  rcases h.2 with ⟨rfl, h0⟩ | ⟨g, cap, cur, rfl, hb, hg, hn, hm, hs, ht⟩
  · exact .inl ⟨rfl, List.eq_nil_of_length_eq_zero h0⟩
  · refine .inr ⟨g, cap, cur.toList, rfl, hb, by unfold Cells; simpa using hg, hn, hm, by simpa using hs, by simpa using ht⟩
theorem OwnV.mk {g cap : Nat} {cur : List Value} (hb : base ≤ g) (hc : Cells w g e cur) (hn : xs.length ≤ cap) (hm : cap ≤ maxLen) (hl : cur.length = cap) (ht : cur.take xs.length = xs) :
    OwnV w base e (.slice (some ⟨g, 0, none⟩) xs.length cap) xs :=
  ⟨by simp, .inr ⟨g, cap, cur.toArray, rfl, hb, hc, hn, hm, by simp [hl], by simp [ht]⟩⟩
theorem OwnV.move (h : OwnV w base e v xs) (hk : ∀ g, v.ownBlock = some g → w'.heap[g]? = w.heap[g]?) : OwnV w' base e v xs := by
  refine ⟨h.1, ?_⟩
  rcases h.2 with h | ⟨g, cap, cur, hv, hg, hh, r⟩
  · exact .inl h
  · exact .inr ⟨g, cap, cur, hv, hg, (hk g (by rw [hv]; rfl)).trans hh, r⟩
theorem Own.move {l : List UInt8} (h : Own w base v l) (hk : ∀ g, v.ownBlock = some g → w'.heap[g]? = w.heap[g]?) : Own w' base v l := by
  refine ⟨h.1, ?_⟩
  rcases h.2 with h | ⟨g, cap, cur, hv, hg, hh, r⟩
  · exact .inl h
  · exact .inr ⟨g, cap, cur, hv, hg, (hk g (by rw [hv]; rfl)).trans hh, r⟩
theorem Own.lt {l : List UInt8} (h : Own w base v l) : ∀ k, v.ownBlock = some k → base ≤ k ∧ k < w.heap.size := fun k hk => World.ownsRow.lt h k hk

theorem Cells.lt (h : Cells w b t cs) : b < w.heap.size := (Array.getElem?_eq_some_iff.1 h).1
theorem Cells.cell (h : Cells w b t cs) {i : Nat} (hi : cs[i]? = some u) : w.cell? ⟨b, i, none⟩ = some u := by
  unfold Cells at h
  simp [World.cell?, h, hi]
theorem Cells.frozen (h : Cells w b t cs) (i : Nat) : w.frozen? ⟨b, i, none⟩ = false := by
  unfold Cells at h
  simp [World.frozen?, h]
theorem Cells.set (h : Cells w b t cs) (i : Nat) (u : Value) : Cells (w.setCell ⟨b, i, none⟩ u) b t (cs.set i u) := by
  unfold Cells at h ⊢
  simp only [World.setCell, Array.getElem?_modify, h, if_true, Option.map_some]
  congr 2
  apply Array.toList_inj.1
  simp
theorem Cells.move (h : Cells w b t cs) (e : w'.heap[b]? = w.heap[b]?) : Cells w' b t cs := e.trans h
theorem Cells.alloc (h : Cells w b t cs) (o : Obj) : Cells (w.alloc o) b t cs := h.move (Below.heap_alloc w o b h.lt)
theorem Cells.drew (h : Cells w b t cs) : Cells w.drew b t cs := h
theorem Cells.new (w : World) (cs : Array Value) (t : TypeId) : Cells (w.alloc (.cells cs t)) w.heap.size t cs.toList := by
  unfold Cells
  rw [heap_alloc_new]
theorem Cells.type {t' : TypeId} {cs' : List Value} (h : Cells w b t cs) (h' : Cells w b t' cs') : t = t' ∧ cs = cs' := by
  have := h.symm.trans h'
  simp at this
  exact ⟨this.2, this.1⟩

theorem Kept.refl (K : Nat → Prop) (w : World) : Kept K w w := ⟨rfl, rfl, rfl, Nat.le_refl _, fun _ _ _ => rfl⟩
theorem Kept.trans (h : Kept K w w') (k : Kept K w' w'') : Kept K w w'' :=
  ⟨k.os.trans h.os, k.tape.trans h.tape, k.output.trans h.output, Nat.le_trans h.size k.size, fun b hb hK => (k.block b (Nat.lt_of_lt_of_le hb h.size) hK).trans (h.block b hb hK)⟩
theorem Kept.mono {K' : Nat → Prop} (h : Kept K w w') (hK : ∀ b, b < w.heap.size → K' b → K b) : Kept K' w w' :=
  ⟨h.os, h.tape, h.output, h.size, fun b hb hk => h.block b hb (hK b hb hk)⟩
theorem Kept.alloc (h : Kept K w w') (o : Obj) : Kept K w (w'.alloc o) := h.trans ⟨rfl, rfl, rfl, by simp, fun b hb _ => Below.heap_alloc _ _ _ hb⟩
theorem Kept.drew (h : Kept K w w') : Kept K w w'.drew := ⟨h.os, h.tape, h.output, h.size, h.block⟩
theorem Kept.drewN (h : Kept K w w') (n : Nat) : Kept K w (w'.drewN n) := ⟨h.os, h.tape, h.output, h.size, h.block⟩
theorem Kept.setCell (h : Kept K w w') {p : Addr} (hp : ¬ K p.block) (u : Value) : Kept K w (w'.setCell p u) :=
  h.trans ⟨rfl, rfl, rfl, by simp [World.setCell], fun b _ hK => Below.heap_setCell _ _ _ _ (fun e => hp (e ▸ hK))⟩
theorem Kept.grown {row : Option Nat} (h : Kept K w w') (hg : w'.grownBy w'' row) (hr : ∀ g, row = some g → ¬ K g) : Kept K w w'' :=
  h.trans ⟨hg.os, hg.tape, hg.output, hg.size, fun b hb hK => hg.block b hb (fun e => hr b e.symm hK)⟩
theorem Kept.below (h : Kept K w w') (hb : Below w'.heap.size w' w'') : Kept K w w'' :=
  h.trans ⟨hb.os, hb.tape, hb.output, hb.size, fun b hlt _ => hb.block b hlt⟩
theorem Kept.to_below (h : Kept K w w') (hK : ∀ b, b < B → K b) (hB : B ≤ w.heap.size) : Below B w w' :=
  ⟨h.os, h.tape, h.output, h.size, fun b hb => h.block b (by omega) (hK b hb)⟩

theorem RI.nil (w : World) (B : Nat) (A : Option Addr) : RI w B A [] := fun k x h => by simp at h
theorem RI.move {l : List Int} {B' : Nat} (h : RI w B A l) (hk : ∀ ad, A = some ad → w'.heap[ad.block]? = w.heap[ad.block]?) (hB : B ≤ B') : RI w' B' A l := fun k x hx => by
  obtain ⟨ad, e, hb, hc⟩ := h k x hx
  exact ⟨ad, e, Nat.lt_of_lt_of_le hb hB, (World.cell?_of_block (w := w) (by rw [add_block]; exact hk ad e)).trans hc⟩
theorem RI.below {l : List Int} (h : RI w B A l) (hb : Below B w w') : RI w' B A l := fun k x hx => by
  obtain ⟨ad, e, hlt, hc⟩ := h k x hx
  exact ⟨ad, e, hlt, (hb.cell (by rw [add_block]; exact hlt)).trans hc⟩
theorem RI.flat {l : List Int} (h : RI w B A l) (h0 : 0 < l.length) : ∃ b o, A = some ⟨b, o, none⟩ ∧ b < B := by
  obtain ⟨ad, rfl, hb, hc⟩ := h 0 l[0] (List.getElem?_eq_getElem h0)
  obtain ⟨b, o, s⟩ := ad
  have hs : s = none := by
    have := World.cell?_spot hc
    simpa [Addr.add] using this
  subst hs
  exact ⟨b, o, rfl, hb⟩
theorem RI.at_ {l : List Int} {b o : Nat} (h : RI w B (some ⟨b, o, none⟩) l) {k : Nat} (hk : k < l.length) : w.cell? ⟨b, o + k, none⟩ = some (.int .i64 l[k]) := by
  obtain ⟨ad, e, _, hc⟩ := h k l[k] (List.getElem?_eq_getElem hk)
  cases e
  rw [add_flat] at hc
  exact hc
theorem RI.cutFlat {l : List Int} {b o : Nat} (h : RI w B (some ⟨b, o, none⟩) l) (k : Nat) : RI w B (some ⟨b, o + k, none⟩) (l.drop k) := fun j x hx => by
  rw [List.getElem?_drop] at hx
  obtain ⟨ad, e, hb, hc⟩ := h _ _ hx
  cases e
  refine ⟨_, rfl, hb, ?_⟩
  rw [add_flat] at hc ⊢
  rw [Nat.add_assoc]
  exact hc
theorem RI.of_own {l : List Int} (h : OwnV w base e v (l.map (Value.int .i64))) : ∃ A c, v = .slice A l.length c ∧ l.length ≤ c ∧ RI w w.heap.size A l := by
  obtain ⟨A, c, rfl, hc, _, hrd⟩ := h.rd
  refine ⟨A, c, by simp, by simpa using hc, fun k x hx => ?_⟩
  obtain ⟨b, rfl, hb, hcell⟩ := hrd k (.int .i64 x) (by simp [hx])
  exact ⟨_, rfl, hb, by rw [add_flat, Nat.zero_add]; exact hcell⟩
end

/-- append(v, xs...): the cells of a slice at ad, as a run -/
theorem app_cells_run {w : World} (t ty e : TypeId) (hu : Tryd.prog.underlying t = some (.slice e)) (z : Value) (bytes : Nat) (hi : (Tryd.prog.info? e).map (fun i => (i.zero, i.size, i.bytes)) = some (some z, 1, bytes)) (hzc : z.cells.size = 1)
    (base : Nat) (v : Value) (xs : List Value) (hown : OwnV w base e v xs)
    (ad : Addr) (c : Nat) (us : List Value) (hc : ∀ j u, us[j]? = some u → w.cell? (ad.add j) = some u) (h1 : ∀ u ∈ us, u.oneCell' = true)
    (hlen : xs.length + us.length ≤ 140737488355327) (hbytes : (xs.length + us.length) * bytes ≤ 140737488355328) (hbase : base ≤ w.heap.size) :
    ∃ v' w', (Builtin.append_ #[t, t] ty #[v, .slice (some ad) us.length c]).run Tryd.prog w = .ok v' w' ∧ OwnV w' base e v' (xs ++ us) ∧ w.grownBy w' v.ownBlock ∧ (v'.ownBlock = v.ownBlock ∨ v'.ownBlock = some w.heap.size) := by
  obtain ⟨i0, hi0, hz0, hz1, hz2⟩ := info_parts hi
  obtain ⟨v', w', hrun, h2, h3, _, h5⟩ := run_append_own_at (P := Tryd.prog) w base t ty e i0 z 1 bytes hu hi0 hz0 hz1 hz2 hzc (by omega) v xs.length xs hown ad us.length c us
    (by simp) hc h1 (by simp only [maxLen]; omega) hbytes hbase
  exact ⟨v', w', hrun, by show World.ownsRow _ _ _ _ _ _ _; rw [List.length_append]; exact h2, h3, h5⟩

/-- append(v, x): one element more -/
theorem app_one {w : World} {ops : Array Oper} {rest : List Oper} {o : Oper} {a : Act} {Q : Exit → Act → World → Prop} (hgd : o.guard = none) (s x : Operand) (t e : TypeId)
    (ho : o.op = .call { callee := .builtin .append, args := #[s, x], argTypes := #[t, t] })
    (hu : Tryd.prog.underlying t = some (.slice e)) (z : Value) (bytes : Nat) (hi : (Tryd.prog.info? e).map (fun i => (i.zero, i.size, i.bytes)) = some (some z, 1, bytes)) (hzc : z.cells.size = 1)
    (base : Nat) (v : Value) (xs : List Value) (hs : a.eval s = v) (hown : OwnV w base e v xs)
    (ad : Addr) (c : Nat) (u : Value) (hx : a.eval x = .slice (some ad) 1 c) (hc : w.cell? ad = some u) (h1 : u.oneCell' = true)
    (hlen : xs.length + 1 ≤ 140737488355327) (hbytes : (xs.length + 1) * bytes ≤ 140737488355328) (hbase : base ≤ w.heap.size)
    (h : ∀ v' w', OwnV w' base e v' (xs ++ [u]) → w.grownBy w' v.ownBlock → (v'.ownBlock = v.ownBlock ∨ v'.ownBlock = some w.heap.size) → wpList Tryd.prog ops Q rest (a.put o.dst v') w') :
    wpList Tryd.prog ops Q (o :: rest) a w := by
  refine wpList_plain hgd fun K hK => ?_
  obtain ⟨v', w', hrun, h2, h3, h5⟩ := app_cells_run (w := w) t o.type e hu z bytes hi hzc base v xs hown ad c [u]
    (fun j y hy => by
      cases j with
      | zero => simp at hy; subst hy; exact hc
      | succ j => simp at hy) (fun y hy => by simp at hy; subst hy; exact h1) (by simpa using hlen) (by simpa using hbytes) hbase
  unfold Oper.wp execOp
  simp only [ho, resolve, invoke, builtin, Sem.run_bind, Sem.run_pure, Result.andThen_ok, List.map_toArray, List.map_cons, List.map_nil, hs, hx]
  rw [show (Builtin.append_ #[t, t] o.type #[v, .slice (some ad) 1 c]).run Tryd.prog w = .ok v' w' from hrun]
  exact hK _ _ (h v' w' h2 h3 h5)
/-- the cell of a block of one that was made just now -/
theorem cell_new (w : World) (u : Value) (t : TypeId) : (w.alloc (.cells #[u] t)).cell? ⟨w.heap.size, 0, none⟩ = some u := by
  have h := heap_alloc_new w (.cells #[u] t)
  simp only [World.cell?, h]
  rfl
end Go.Proofs.YtabhpgacnenacaaDoor
