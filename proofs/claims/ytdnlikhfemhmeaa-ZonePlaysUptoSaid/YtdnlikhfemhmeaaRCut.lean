/-
  The second saying's Cut.
-/
import Derived.Test.YtdnlikhfemhmeaaRModel
namespace Go.Proofs.Ytdnlikhfemhmeaa
open Go.RowKit

/-- append(v, x...), any slice of one-cell elements, at a step of a region that draws its order -/
theorem step_app_many {w : World} {ops : Array Oper} {K : Act → World → Prop} {E : Prop} {o : Oper} {a : Act} {Q : Exit → Act → World → Prop} (hgd : o.guard = none) (s x : Operand) (t e : TypeId)
    (ho : o.op = .call { callee := .builtin .append, args := #[s, x], argTypes := #[t, t] })
    (hu : Try.prog.underlying t = some (.slice e)) (z : Value) (bytes : Nat) (hi : (Try.prog.info? e).map (fun i => (i.zero, i.size, i.bytes)) = some (some z, 1, bytes)) (hzc : z.cells.size = 1)
    (base : Nat) (v : Value) (xs : List Value) (hs : a.eval s = v) (hown : OwnV w base e v xs)
    (A : Option Addr) (m c : Nat) (us : List Value) (hx : a.eval x = .slice A m c) (hm : m = us.length) (hc : ∀ k u, us[k]? = some u → ∃ ad, A = some ad ∧ w.cell? (ad.add k) = some u) (h1 : ∀ u ∈ us, u.oneCell' = true)
    (hlen : xs.length + us.length ≤ 140737488355327) (hbytes : (xs.length + us.length) * bytes ≤ 140737488355328) (hbase : base ≤ w.heap.size)
    (h : ∀ v' w', OwnV w' base e v' (xs ++ us) → w.grownBy w' v.ownBlock → (v'.ownBlock = v.ownBlock ∨ v'.ownBlock = some w.heap.size) → K (a.put o.dst v') w') :
    if Region.wanted o (yielded ops a.tmps) = true then Oper.wp Try.prog o a w K Q else E := by
  subst hm
  have hw : Region.wanted o (yielded ops a.tmps) = true := by simp [Region.wanted, hgd]
  rw [if_pos hw]
  obtain ⟨i0, hi0, hz0, hz1, hz2⟩ := info_parts hi
  have run : ∃ v' w', (Builtin.append_ #[t, t] o.type #[v, .slice A us.length c]).run Try.prog w = .ok v' w' ∧ OwnV w' base e v' (xs ++ us) ∧ w.grownBy w' v.ownBlock ∧ (v'.ownBlock = v.ownBlock ∨ v'.ownBlock = some w.heap.size) := by
    by_cases h0 : us.length = 0
    · obtain rfl : us = [] := List.eq_nil_of_length_eq_zero h0
      refine ⟨v, w, ?_, by simpa [OwnV] using hown, World.grownBy.refl w _, .inl rfl⟩
      rcases hown.2 with ⟨rfl, _⟩ | ⟨g, cap, cur, rfl, _, _, hnc, _⟩
      · cases A <;> simp [Builtin.append_, run_underlying hu, sizeOf, typeInfo, hi0, Builtin.lenOf, Builtin.firstCells, loadCells, loadCellsFrom]
      · cases A <;> simp [Builtin.append_, run_underlying hu, sizeOf, typeInfo, hi0, Builtin.lenOf, Builtin.firstCells, hnc, storeCells, loadCells, loadCellsFrom]
    · have hr0 : 0 < us.length := by omega
      obtain ⟨ad, rfl, _⟩ := hc 0 us[0] (List.getElem?_eq_getElem hr0)
      exact app_cells_run (w := w) t o.type e hu z bytes hi hzc base v xs hown ad c us (fun j u hj => by
        obtain ⟨ad', e, hcc⟩ := hc j u hj
        cases e
        exact hcc) h1 hlen hbytes hbase
  obtain ⟨v', w', hrun, h2, h3, h5⟩ := run
  unfold Oper.wp execOp
  simp only [ho, resolve, invoke, builtin, Sem.run_bind, Sem.run_pure, Result.andThen_ok, List.map_toArray, List.map_cons, List.map_nil, hs, hx, hrun]
  exact h v' w' h2 h3 h5

/-- one pile of the second saying's has a row of its own, cut -/
theorem rcut_piece {w W : World} {O : Nat → Option Tag} {i pw d g z m : Nat} {cs vs : List Value} {D : Drv} {p : Pile} {v9 : Value} {x : Int}
    (h1 : Cells w d 75 [.pointer (some ⟨pw, 0, none⟩), .int .i64 (D.cap : Int), .int .i64 (D.size : Int), .slice (some ⟨g, 0, none⟩) D.piles.length D.piles.length, .bool D.lost]) (h2 : O d = some (.drv i))
    (h3 : Cells w g 93 cs) (h4 : O g = some (.piles i)) (h5 : cs.length = D.piles.length * 2) (h6 : ∀ (z : Nat) p, D.piles[z]? = some p → PileAt w O i z cs p) (hf : ∀ b, O b ≠ none → b < w.heap.size)
    (hz : D.piles[z]? = some p) (hvl : vs.length = p.pages.length) (hpg : ∀ (k : Nat) l, p.pages[k]? = some l → ∃ u, vs[k]? = some u ∧ PageAt w O (.page i z k) u l) (hm : m = p.keep x) (hml : m ≤ p.pages.length)
    (hown : OwnV W w.heap.size 46 v9 (vs.take m)) (hk : Kept (fun _ => True) w W) :
    ∃ O', RDrvAt ((W.setCell ⟨g, z * 2, none⟩ v9).setCell ⟨g, z * 2 + 1, none⟩ (.int .i64 (m : Int))) O' i pw d { D with piles := D.piles.set z (p.cut x) } ∧ Kept (fun b => b ≠ g) w ((W.setCell ⟨g, z * 2, none⟩ v9).setCell ⟨g, z * 2 + 1, none⟩ (.int .i64 (m : Int))) ∧
      (∀ b, b < w.heap.size → O' b = O b) ∧ (∀ b, O' b ≠ none → b < ((W.setCell ⟨g, z * 2, none⟩ v9).setCell ⟨g, z * 2 + 1, none⟩ (.int .i64 (m : Int))).heap.size) ∧ ∀ b t, w.heap.size ≤ b → O' b = some t → t.drive = some i := by
  have hkk : Kept (fun b => b ≠ g) w ((W.setCell ⟨g, z * 2, none⟩ v9).setCell ⟨g, z * 2 + 1, none⟩ (.int .i64 (m : Int))) := ((hk.mono fun _ _ _ => trivial).setCell (fun h => h rfl) _).setCell (fun h => h rfl) _
  have hsz : ((W.setCell ⟨g, z * 2, none⟩ v9).setCell ⟨g, z * 2 + 1, none⟩ (.int .i64 (m : Int))).heap.size = W.heap.size := by simp [World.setCell]
  have hzl := (List.getElem?_eq_some_iff.1 hz).1
  have hv9 : ∀ b, v9.ownBlock = some b → w.heap.size ≤ b ∧ b < W.heap.size := fun b hb => hown.ge b hb
  have hglt := h3.lt
  obtain ⟨O', hO'⟩ : ∃ O' : Nat → Option Tag, O' = fun b => if b < w.heap.size then O b else if v9.ownBlock = some b then some (.row i z) else none := ⟨_, rfl⟩
  have o1 : ∀ b, b < w.heap.size → O' b = O b := fun b hb => by rw [hO']; simp only [if_pos hb]
  have o2 : ∀ b, w.heap.size ≤ b → O' b = if v9.ownBlock = some b then some (.row i z) else none := fun b hb => by rw [hO']; simp only [if_neg (show ¬ b < w.heap.size by omega)]
  clear hO'
  have hag : Agree (fun t => t ≠ .piles i) w O ((W.setCell ⟨g, z * 2, none⟩ v9).setCell ⟨g, z * 2 + 1, none⟩ (.int .i64 (m : Int))) O' := fun b t hlt hb ht => ⟨hkk.block b hlt (fun e => ht (by rw [e, h4] at hb; cases hb; rfl)), (o1 b hlt).trans hb⟩
  have hWg : Cells W g 93 cs := h3.move (hk.block g hglt trivial)
  refine ⟨O', ⟨g, (cs.set (z * 2) v9).set (z * 2 + 1) (.int .i64 (m : Int)), ?_, (o1 d h1.lt).trans h2, (hWg.set _ _).set _ _, (o1 g hglt).trans h4, by simp only [List.length_set]; exact h5, fun z' p' hz' => ?_⟩, hkk, o1, fun b hb => ?_, fun b t hb ht => ?_⟩
  · simp only [List.length_set]
    exact h1.move (hkk.block d h1.lt (fun e => by rw [e, h4] at h2; cases h2))
  · by_cases e : z' = z
    · subst e
      simp only [List.getElem?_set_self hzl, Option.some.injEq] at hz'
      subst hz'
      refine ⟨v9, by rw [List.getElem?_set_ne (by omega), List.getElem?_set_self (by omega)], by rw [List.getElem?_set_self (by simp; omega), hm]; rfl, vs.take m, ?_, fun b hb => by rw [o2 b (hv9 b hb).1, if_pos hb], ?_, fun k l hl => ?_⟩
      · refine (hown.wide (Nat.zero_le _)).move fun b hb => ?_
        have hbg : b ≠ g := by have := hv9 b hb; omega
        rw [Below.heap_setCell _ _ _ _ hbg, Below.heap_setCell _ _ _ _ hbg]
      · simp only [Pile.cut, List.length_take, hvl, ← hm]
      · simp only [Pile.cut, List.getElem?_take, ← hm] at hl
        split at hl
        · rename_i hkm
          obtain ⟨u, hu, hat⟩ := hpg k l hl
          exact ⟨u, by rw [List.getElem?_take, if_pos hkm]; exact hu, hat.keep hag (by intro e; cases e)⟩
        · cases hl
    · have hz2 : D.piles[z']? = some p' := by
        rw [List.getElem?_set_ne (fun h => e h.symm)] at hz'
        exact hz'
      obtain ⟨v2, a0, a1, a2⟩ := h6 z' p' hz2
      exact ⟨v2, by rw [List.getElem?_set_ne (by omega), List.getElem?_set_ne (by omega)]; exact a0, by rw [List.getElem?_set_ne (by omega), List.getElem?_set_ne (by omega)]; exact a1, a2.keep hag (by intro e; cases e) (fun k => by intro e; cases e)⟩
  · rw [hsz]
    by_cases q : b < w.heap.size
    · exact Nat.lt_of_lt_of_le q hk.size
    · rw [o2 b (by omega)] at hb
      by_cases q2 : v9.ownBlock = some b
      · exact (hv9 b q2).2
      · rw [if_neg q2] at hb; exact absurd rfl hb
  · rw [o2 b hb] at ht
    by_cases q2 : v9.ownBlock = some b
    · rw [if_pos q2] at ht; cases ht; rfl
    · rw [if_neg q2] at ht; cases ht
end Go.Proofs.Ytdnlikhfemhmeaa
