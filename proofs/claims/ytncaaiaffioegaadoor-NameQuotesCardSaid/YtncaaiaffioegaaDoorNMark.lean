/-
  A row that a conversion made (its mark stands behind its last cell), appended to.
-/
import Derived.Test.YtncaaiaffioegaaDoorNStr
import Derived.Laws.CopyRow
import Derived.Lib.FrozenHead2
namespace Go.Proofs.YtncaaiaffioegaaDoor
open Go.RowKit

/-- cells stored one behind the other into a row whose mark stands behind its last cell -/
theorem store_marked (g : Nat) (t : TypeId) (fz : Nat × Nat) : ∀ (vs : List Value) (i : Nat) (cur : Array Value) (w : World), w.heap[g]? = some (.cells cur t fz) → cur.size ≤ fz.1 → i + vs.length ≤ cur.size → (∀ v ∈ vs, v.oneCell' = true) → ∀ o,
    o ≤ i → (storeCells ⟨g, o, none⟩ vs (i - o)).run Tryd.prog w = .ok () (w.setRow g (cur.toList.take i ++ vs ++ cur.toList.drop (i + vs.length)).toArray) := by
  intro vs
  induction vs with
  | nil =>
    intro i cur w hg _ _ _ o _
    simp only [storeCells, List.append_nil, List.length_nil, Nat.add_zero, List.take_append_drop, Array.toArray_toList]
    rw [setRow_self w g cur t fz hg]
    rfl
  | cons v rest ih =>
    intro i cur w hg hfz hl h1 o ho
    rw [List.length_cons] at hl
    have hi : i < cur.size := by omega
    have hcell : w.cell? ⟨g, i, none⟩ = some cur[i] := by simp [World.cell?, hg, hi]
    have hfro : w.frozen? ⟨g, i, none⟩ = false := by
      simp [World.frozen?, hg]
      omega
    have hadd : (⟨g, o, none⟩ : Addr).add (i - o) = ⟨g, i, none⟩ := by rw [add_flat]; congr 1; omega
    have hst : (store ((⟨g, o, none⟩ : Addr).add (i - o)) v).run Tryd.prog w = .ok () (w.setRow g (cur.setIfInBounds i v)) := by
      rw [hadd, run_store Tryd.prog w _ v _ (h1 v (by simp)), hcell]
      simp [hfro, setCell_eq_setRow w g i cur t fz v hg]
    have h2 := ih (i + 1) (cur.setIfInBounds i v) (w.setRow g (cur.setIfInBounds i v)) (setRow_heap w g cur _ t _ hg) (by simpa using hfz) (by simp; omega) (fun x hx => h1 x (by simp [hx])) o (by omega)
    rw [show i + 1 - o = i - o + 1 by omega] at h2
    simp only [storeCells, Sem.run_bind, hst, Result.andThen_ok, h2, setRow_setRow]
    congr 3
    have e := list_seg_step cur.toList i v rest (by simp; omega)
    simpa [Array.toList_setIfInBounds] using e

/-- v reads as l: a row of the call's own, or one that a conversion made -/
def MRow (w : World) (base : Nat) (v : Value) (l : List UInt8) : Prop :=
  ∃ (g cap : Nat) (cur : Array Value) (fz : Nat × Nat), v = .slice (some ⟨g, 0, none⟩) l.length cap ∧ base ≤ g ∧ w.heap[g]? = some (.cells cur 5 fz) ∧ cur.size ≤ fz.1 ∧ l.length ≤ cap ∧ cap ≤ maxLen ∧ cur.size = cap ∧ cur.toList.take l.length = bvs l
def OwnM (w : World) (base : Nat) (v : Value) (l : List UInt8) : Prop := Own w base v l ∨ MRow w base v l

theorem OwnM.made (w : World) (base : Nat) (s : ByteArray) (cap : Nat) (hb : base ≤ w.heap.size) (hc : s.size ≤ cap) (hm : cap ≤ maxLen) :
    OwnM (w.alloc (.cells (bytesRow s cap) 5 ((bytesRow s cap).size, (bytesRow s cap).size + 1))) base (.slice (some ⟨w.heap.size, 0, none⟩) s.size cap) s.data.toList := by
  have hl : s.data.toList.length = s.size := rfl
  refine .inr ⟨w.heap.size, cap, _, _, by rw [hl], hb, heap_alloc_new w _, Nat.le_refl _, by rw [hl]; exact hc, hm, ?_, ?_⟩
  · simp [bytesRow]; exact Nat.add_sub_cancel' hc
  · have e : (bytesRow s cap).toList = bvs s.data.toList ++ List.replicate (cap - s.size) (.int .u8 0) := by
      simp [bytesRow, bvs]
      intro a _
      rfl
    rw [e]
    exact List.take_left' (by rw [bvs_length])
theorem MRow.rb {w : World} {base : Nat} {v : Value} {l : List UInt8} (h : MRow w base v l) : ∃ A c, v = .slice A l.length c ∧ l.length ≤ c ∧ RB w w.heap.size A l := by
  obtain ⟨g, cap, cur, fz, rfl, hb, hg, hf, hn, hm, hs, ht⟩ := h
  refine ⟨_, cap, rfl, hn, fun k x hx => ⟨_, rfl, (Array.getElem?_eq_some_iff.1 hg).1, ?_⟩⟩
  have hk : k < l.length := (List.getElem?_eq_some_iff.1 hx).1
  rw [add_flat, Nat.zero_add]
  have : (cur.toList.take l.length)[k]? = some (bv x) := by rw [ht]; simp [bvs, hx]
  rw [List.getElem?_take, if_pos hk] at this
  simp [World.cell?, hg]
  simpa using this
theorem OwnM.rb {w : World} {base : Nat} {v : Value} {l : List UInt8} (h : OwnM w base v l) : ∃ A c, v = .slice A l.length c ∧ l.length ≤ c ∧ RB w w.heap.size A l := by
  rcases h with h | h
  · obtain ⟨A, c, h1, h2, h3, _⟩ := h.rb
    exact ⟨A, c, h1, h2, h3⟩
  · exact h.rb
theorem OwnM.alloc {w : World} {base : Nat} {v : Value} {l : List UInt8} (h : OwnM w base v l) (o : Obj) : OwnM (w.alloc o) base v l := by
  rcases h with h | ⟨g, cap, cur, fz, hv, hb, hg, r⟩
  · exact .inl (h.alloc o)
  · exact .inr ⟨g, cap, cur, fz, hv, hb, (Below.heap_alloc w o g (Array.getElem?_eq_some_iff.1 hg).1).trans hg, r⟩
theorem OwnM.drew {w : World} {base : Nat} {v : Value} {l : List UInt8} (h : OwnM w base v l) : OwnM w.drew base v l := h

theorem run_app_marked {w : World} {base : Nat} {v : Value} {l : List UInt8} (h : MRow w base v l) (ty : TypeId) (B : Nat) (A : Option Addr) (c : Nat) (r : List UInt8) (hr : RB w B A r) (h0 : 0 < r.length)
    (hlen : l.length + r.length ≤ 140737488355327) (hbase : base ≤ w.heap.size) :
    ∃ v' w', (Builtin.append_ #[36, 36] ty #[v, .slice A r.length c]).run Tryd.prog w = .ok v' w' ∧ OwnM w' base v' (l ++ r) ∧ Below base w w' := by
  obtain ⟨i0, hi0, hz0, hz1, hz2⟩ := info_parts info8
  obtain ⟨ad, rfl, _, _⟩ := hr.at_ h0
  have hnews : ∀ j u, (bvs r)[j]? = some u → w.cell? (ad.add j) = some u := fun j u hu => by
    simp only [bvs, List.getElem?_map, Option.map_eq_some_iff] at hu
    obtain ⟨y, hy, rfl⟩ := hu
    obtain ⟨ad', e, _, hc⟩ := hr j y hy
    cases e
    exact hc
  have hrl : (bvs r).length = r.length * 1 := by simp [bvs]
  obtain ⟨A', c', hv, _, hrb⟩ := h.rb
  obtain ⟨g, cap, cur, fz, rfl, hb, hg, hf, hn, hm, hs, ht⟩ := h
  simp only [Value.slice.injEq] at hv
  obtain ⟨rfl, -, rfl⟩ := hv
  have holds : ∀ j u, (bvs l)[j]? = some u → w.cell? ((⟨g, 0, none⟩ : Addr).add j) = some u := fun j u hu => by
    simp only [bvs, List.getElem?_map, Option.map_eq_some_iff] at hu
    obtain ⟨y, hy, rfl⟩ := hu
    obtain ⟨ad', e, _, hc⟩ := hrb j y hy
    cases e
    exact hc
  by_cases hroom : l.length + r.length ≤ cap
  · have hst := store_marked g 5 fz (bvs r) l.length cur w hg hf (by rw [bvs_length, hs]; exact hroom) (bvs_one r) l.length (Nat.le_refl _)
    rw [Nat.sub_self, bvs_length] at hst
    have hfc := run_firstCells_some (P := Tryd.prog) w i0.size r.length ad r.length c (bvs r) (by rw [hz1]; exact hrl) hnews
    refine ⟨.slice (some ⟨g, 0, none⟩) (l.length + r.length) cap, w.setRow g (cur.toList.take l.length ++ bvs r ++ cur.toList.drop (l.length + r.length)).toArray, ?_, .inr ⟨g, cap, (cur.toList.take l.length ++ bvs r ++ cur.toList.drop (l.length + r.length)).toArray, fz, by rw [List.length_append], hb, setRow_heap w g cur _ _ _ hg, ?_, by rw [List.length_append]; exact hroom, hm, ?_, ?_⟩, ?_⟩
    · rw [hz1] at hfc
      simp [Builtin.append_, run_underlying Tryd.underlying36, sizeOf, typeInfo, hi0, hz1, Builtin.lenOf, hroom, hfc, Addr.add_lit, hst]
    · simp only [List.size_toArray, List.length_append, List.length_take, List.length_drop, Array.length_toList, bvs_length]
      omega
    · simp only [List.size_toArray, List.length_append, List.length_take, List.length_drop, Array.length_toList, bvs_length]
      omega
    · rw [ht, ← bvs_append, ← bvs_length (l ++ r)]
      exact List.take_left
    · exact ⟨rfl, rfl, rfl, by simp, fun k hk => setRow_other w g k _ (by omega)⟩
  · have hgr := run_append_grow (P := Tryd.prog) w 36 ty 5 i0 (.int .u8 0) Tryd.underlying36 hi0 hz0 ⟨g, 0, none⟩ l.length cap (bvs l) (by rw [hz1]; simp [bvs]) holds ad r.length c (bvs r) (by rw [hz1]; exact hrl) hnews (by omega) (by omega) (growslice_fits (by omega) (by rw [hz2]; omega))
    have hge := grownCap_ge w (l.length + r.length) cap 5
    have hcm2 : grownCap w (l.length + r.length) cap 5 ≤ maxLen := grownCap_le_maxLen w _ cap _ (by simp only [maxLen]; omega)
    refine ⟨_, _, hgr, .inl ⟨by simp [bvs], .inr ⟨w.heap.size, _, _, by rw [List.length_append], hbase, heap_alloc_new w.drew _, by rw [List.length_append]; exact hge, hcm2, ?_, ?_⟩⟩, ((Below.refl _ w).drew).alloc hbase _⟩
    · have hz1 : (Value.int IntKind.u8 0).cells.size = 1 := rfl
      simp only [Array.size_append, List.size_toArray, size_zeroCells, hz1, bvs_length]
      omega
    · have hl2 : (bvs l ++ bvs r).length = (l ++ r).length * 1 := by simp [bvs]
      rw [bvs_append]
      simp only [Array.toList_append, List.append_assoc]
      rw [← List.append_assoc, ← hl2]
      exact List.take_left

/-- append(v, x...): v the call's own, or what a conversion made; x reads as r. -/
theorem app_marked {w : World} {ops : Array Oper} {rest : List Oper} {o : Oper} {a : Act} {Q : Exit → Act → World → Prop} (hgd : o.guard = none) (s x : Operand)
    (ho : o.op = .call { callee := .builtin .append, args := #[s, x], argTypes := #[36, 36] })
    (base : Nat) (v : Value) (l : List UInt8) (hs : a.eval s = v) (hown : OwnM w base v l)
    (B : Nat) (A : Option Addr) (m c : Nat) (r : List UInt8) (hx : a.eval x = .slice A m c) (hm : m = r.length) (hr : RB w B A r) (h0 : 0 < r.length)
    (hlen : l.length + r.length ≤ 140737488355327) (hbase : base ≤ w.heap.size)
    (h : ∀ v' w', OwnM w' base v' (l ++ r) → Below base w w' → wpList Tryd.prog ops Q rest (a.put o.dst v') w') :
    wpList Tryd.prog ops Q (o :: rest) a w := by
  rcases hown with hown | hown
  · exact app_bytes hgd s x ho base v l hs hown B A m c r hx hm hr hlen hbase fun v' w' h1 h2 _ => h v' w' (.inl h1) h2
  · subst hm
    refine wpList_plain hgd fun K hK => ?_
    obtain ⟨v', w', hrun, h2, h3⟩ := run_app_marked hown o.type B A c r hr h0 hlen hbase
    unfold Oper.wp execOp
    simp only [ho, resolve, invoke, builtin, Sem.run_bind, Sem.run_pure, Result.andThen_ok, List.map_toArray, List.map_cons, List.map_nil, hs, hx, hrun]
    exact hK _ _ (h v' w' h2 h3)
end Go.Proofs.YtncaaiaffioegaaDoor
