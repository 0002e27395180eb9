/-
  A table's map holds as many entries as there are mediums; a list of numbers appended whole.
-/
import Derived.Test.YtejimgjonhaocaaMeD6
import Derived.Test.YtejimgjonhaocaaMeD4
namespace Go.Proofs.Ytejimgjonhaocaa
open Go.RowKit Go.Maps Go.Lib Go.Sort
open Go.WideElems (rg rg_of rd_key)

theorem sameKey_kN (n : Nat) : (kN n).sameKey (kN n) = true := by simp [Lit.sameKey, kN]
theorem MapV.tight {w : World} {b N : Nat} {g : Gm} (h : MapV w b g N) (S : List Nat) (hS : ∀ n, n < T64 → (g n).isSome = true → n ∈ S) : MapV w b g S.length := by
  obtain ⟨D, h1, V⟩ := h
  have hT := h1.tidy keyU
  obtain ⟨es, clock, hb, F, hs, hD⟩ := h1
  refine ⟨D, ⟨es, clock, hb, F, ?_, hD⟩, V⟩
  obtain ⟨l, hl, hp⟩ := hT
  have hlen : es.size = l.length := by
    have e1 : Maps.size (DataW.map ((es.toList.map (rg Try.prog 34 RV)).foldr DataW.insert [])) = es.size := by simp [Maps.size, length_sorted]
    rw [← e1, ← hD, hl]
    rfl
  have hmem : ∀ p ∈ l, ∃ n, n < T64 ∧ p.1 = kN n := by
    intro p hpl
    have : p ∈ (es.toList.map (rg Try.prog 34 RV)).foldr DataW.insert [] := by
      have e : DataW.map l = DataW.map ((es.toList.map (rg Try.prog 34 RV)).foldr DataW.insert []) := hl ▸ hD
      injection e with e
      exact e ▸ hpl
    rw [mem_sorted] at this
    obtain ⟨x, hx, rfl⟩ := List.mem_map.1 this
    obtain ⟨y, hy⟩ := F.reads x hx
    rw [rg_of hy]
    obtain ⟨n, hn, -, e⟩ := keyOf_u64 (rd_key hy)
    exact ⟨n, hn, e⟩
  have hk : (l.map Prod.fst).Nodup := List.pairwise_map.2 hp
  have hsub : ∀ k ∈ l.map Prod.fst, k ∈ S.map kN := by
    intro k hk
    obtain ⟨p, hpl, rfl⟩ := List.mem_map.1 hk
    obtain ⟨n, hn, e⟩ := hmem p hpl
    rw [e]
    refine List.mem_map_of_mem (hS n hn ?_)
    rw [← V.has n hn, hl, has_eq, List.any_eq_true]
    exact ⟨p, hpl, by rw [e]; exact sameKey_kN n⟩
  have := List.Nodup.length_le_of_subset hk hsub
  rw [List.length_map, List.length_map] at this
  omega
theorem rowG_isSome {L : List Md} {n : Nat} (h : (rowG L n).isSome = true) : n ∈ L.map Md.id := by
  unfold rowG at h
  cases q : look L n with
  | none => rw [q] at h; cases h
  | some m => obtain ⟨h1, h2⟩ := look_mem q; exact List.mem_map.2 ⟨m, h1, h2⟩
theorem TabG.tight {w : World} {tb mb dep nxt N : Nat} {L : List Md} (h : TabG w tb mb dep nxt (rowG L) N) : TabG w tb mb dep nxt (rowG L) L.length :=
  ⟨h.tc, by have := h.mc.tight (L.map Md.id) (fun n _ q => rowG_isSome q); rwa [List.length_map] at this⟩

/-- THE CALL OWNS v, a slice of numbers. -/
def OwnN (w : World) (base : Nat) (v : Value) (ns : List Nat) : Prop := w.ownsRow base 34 1 v ns.length (ns.map kV)
section
variable {w w' : World} {base B : Nat} {v : Value} {ns : List Nat}
theorem OwnN.ov (h : OwnN w base v ns) : OwnV w base 34 v (ns.map kV) := by show World.ownsRow _ _ _ _ _ _ _; rw [List.length_map]; exact h
theorem OwnN.of (h : OwnV w base 34 v (ns.map kV)) : OwnN w base v ns := by have : World.ownsRow _ _ _ _ _ _ _ := h; rwa [List.length_map] at this
theorem OwnN.nil (w : World) (base : Nat) : OwnN w base (.slice none 0 0) [] := World.ownsRow_nil _ _ _ _
theorem OwnN.wide (h : OwnN w base v ns) (hb : B ≤ base) : OwnN w B v ns := OwnN.of (h.ov.wide hb)
theorem OwnN.move (h : OwnN w base v ns) (hk : ∀ g, v.ownBlock = some g → w'.heap[g]? = w.heap[g]?) : OwnN w' base v ns := OwnN.of (h.ov.move hk)
theorem OwnN.ge (h : OwnN w base v ns) : ∀ k, v.ownBlock = some k → base ≤ k ∧ k < w.heap.size := h.ov.ge
theorem OwnN.below (h : OwnN w base v ns) (hb : Below w.heap.size w w') : OwnN w' base v ns := h.move fun g hg => hb.block g (h.ge g hg).2
theorem OwnN.rd (h : OwnN w base v ns) : ∃ A c, v = .slice A ns.length c ∧ ns.length ≤ c ∧ ∀ i n : Nat, ns[i]? = some n → ∃ b, A = some ⟨b, 0, none⟩ ∧ b < w.heap.size ∧ w.cell? ⟨b, i, none⟩ = some (.int .u64 (n : Int)) := by
  obtain ⟨A, c, e, h1, _, h3⟩ := h.ov.rd
  rw [List.length_map] at e h1
  exact ⟨A, c, e, h1, fun i n hn => h3 i (kV n) (by rw [List.getElem?_map, hn]; rfl)⟩
theorem OwnN.cap (h : OwnN w base v ns) : ∃ A c, v = .slice A ns.length c := by obtain ⟨A, c, e, _⟩ := h.rd; exact ⟨A, c, e⟩
end
/-- append(v, x...) at an operation of a walk: both lists of numbers of the call's own -/
theorem app_nums {w : World} {ops : Array Oper} {rest : List Oper} {o : Oper} {a : Act} {Q : Exit → Act → World → Prop} (hgd : o.guard = none) (s x : Operand)
    (ho : o.op = .call { callee := .builtin .append, args := #[s, x], argTypes := #[23, 23] })
    (base B : Nat) (v u : Value) (l r : List Nat) (hs : a.eval s = v) (hown : OwnN w base v l) (hx : a.eval x = u) (hr : OwnN w B u r)
    (hlen : l.length + r.length ≤ 1000000) (hbase : base ≤ w.heap.size)
    (h : ∀ v' w', OwnN w' base v' (l ++ r) → w.grownBy w' v.ownBlock → (v'.ownBlock = v.ownBlock ∨ v'.ownBlock = some w.heap.size) → wpList Try.prog ops Q rest (a.put o.dst v') w') :
    wpList Try.prog ops Q (o :: rest) a w := by
  obtain ⟨i0, hi0, hz0, hz1, hz2⟩ := info_parts info_u64
  refine wpList_plain hgd fun K hK => ?_
  have run : ∃ v' w', (Builtin.append_ #[23, 23] o.type #[v, u]).run Try.prog w = .ok v' w' ∧ OwnN w' base v' (l ++ r) ∧ w.grownBy w' v.ownBlock ∧ (v'.ownBlock = v.ownBlock ∨ v'.ownBlock = some w.heap.size) := by
    obtain ⟨A, c, rfl, hc, hrd⟩ := hr.rd
    by_cases h0 : r.length = 0
    · obtain rfl : r = [] := List.eq_nil_of_length_eq_zero h0
      refine ⟨v, w, ?_, by simpa using hown, World.grownBy.refl w _, .inl rfl⟩
      rcases hown.2 with ⟨rfl, _⟩ | ⟨g, cap, cur, rfl, _, _, hnc, _⟩
      · cases A <;> simp [Builtin.append_, run_underlying Try.underlying23, sizeOf, typeInfo, hi0, Builtin.lenOf, Builtin.firstCells, loadCells, loadCellsFrom]
      · cases A <;> simp [Builtin.append_, run_underlying Try.underlying23, sizeOf, typeInfo, hi0, Builtin.lenOf, Builtin.firstCells, hnc, storeCells, loadCells, loadCellsFrom]
    · obtain ⟨b, rfl, hb, _⟩ := hrd 0 _ (List.getElem?_eq_getElem (by omega))
      obtain ⟨v', w', hrun, h2, h3, _, h5⟩ := run_append_own_at (P := Try.prog) w base 23 o.type 34 i0 _ 1 8 Try.underlying23 hi0 hz0 hz1 hz2 rfl (by omega) v l.length (l.map kV) hown ⟨b, 0, none⟩ r.length c (r.map kV)
        (by simp) (fun j y hj => by
          rw [List.getElem?_map, Option.map_eq_some_iff] at hj
          obtain ⟨n, hn, rfl⟩ := hj
          obtain ⟨b', e, _, q⟩ := hrd j n hn
          cases e
          rw [add_flat, Nat.zero_add]
          exact q) (by intro y hy; obtain ⟨n, _, rfl⟩ := List.mem_map.1 hy; rfl) (by simp only [maxLen]; omega) (by omega) hbase
      exact ⟨v', w', hrun, by unfold OwnN; rw [List.length_append, List.map_append]; exact h2, h3, h5⟩
  obtain ⟨v', w', hrun, h2, h3, h4⟩ := run
  unfold Oper.wp execOp
  simp only [ho, resolve, invoke, builtin, Sem.run_bind, Sem.run_pure, Result.andThen_ok, List.map_toArray, List.map_cons, List.map_nil, hs, hx, hrun]
  exact hK _ _ (h v' w' h2 h3 h4)
/-- an empty one that was made just now -/
theorem OwnN.made (w : World) (base : Nat) (h : base ≤ w.heap.size) : OwnN (w.alloc (.cells #[] 34)) base (.slice (some ⟨w.heap.size, 0, none⟩) 0 0) [] :=
  World.ownsRow_made w #[] 0 h (by simp [maxLen]) (by simp)
end Go.Proofs.Ytejimgjonhaocaa
