/-
  A slice of units that may begin within its block: the tail of an own row; its append, its cut.
-/
import Derived.Test.YtffmipmkbbholaaAlRel
namespace Go.Proofs.Ytffmipmkbbholaa
open Go.RowKit Go.Maps Go.Shelf Go.Lib Go.Sort

/-- THE CALL OWNS v, a slice of units that holds us, with whatever lies ahead of it in its block -/
structure TailU (w : World) (base : Nat) (v : Value) (us : List (Int × Int)) (A : Option Addr) (c : Nat) : Prop where
  val : v = .slice A us.length c
  le : us.length ≤ c
  max : c ≤ maxLen
  own : ∀ a, A = some a → base ≤ a.block ∧ a.block < w.heap.size ∧ ∃ cs t, w.heap[a.block]? = some (.cells cs t (0, 0))
  nil : A = none → c = 0
  row : 0 < c → ∃ g off cur, A = some ⟨g, off, none⟩ ∧ w.heap[g]? = some (.cells cur 24 (0, 0)) ∧ off + c * 2 ≤ cur.size ∧ ∀ j u, (cellsU us)[j]? = some u → cur[off + j]? = some u
/-- the block that it lies in -/
def tailB (v : Value) : Option Nat := match v with | .slice (some a) _ _ => some a.block | _ => none
theorem append_room_off {P : Program} (w : World) (t ty e : TypeId) (i : TypeInfo) (ht : P.underlying t = some (.slice e)) (hi : P.info? e = some i)
    (g off sLen sCap : Nat) (cur : Array Value) (hg : w.heap[g]? = some (.cells cur e (0, 0)))
    (a : Addr) (m c : Nat) (news : List Value) (hl : news.length = m * i.size) (hnews : ∀ j u, news[j]? = some u → w.cell? (a.add j) = some u) (h1 : ∀ u ∈ news, u.oneCell' = true)
    (hroom : sLen + m ≤ sCap) (hfit : off + sLen * i.size + news.length ≤ cur.size) :
    ∃ w', (Builtin.append_ #[t, t] ty #[.slice (some ⟨g, off, none⟩) sLen sCap, .slice (some a) m c]).run P w = .ok (.slice (some ⟨g, off, none⟩) (sLen + m) sCap) w' ∧
      w' = w.setRow g (cur.toList.take (off + sLen * i.size) ++ news ++ cur.toList.drop (off + sLen * i.size + news.length)).toArray := by
  refine ⟨_, ?_, rfl⟩
  have hf := run_firstCells_some (P := P) w i.size m a m c news hl hnews
  have hst := run_storeCells_at P g (off + sLen * i.size) e news 0 cur w hg (by simpa using hfit) h1
  simp only [Nat.add_zero] at hst
  simp [Builtin.append_, run_underlying ht, sizeOf, typeInfo, hi, Builtin.lenOf, hroom, hf, add_flat, hst]
section
variable {w w' : World} {base c : Nat} {v : Value} {us : List (Int × Int)} {A : Option Addr}
theorem TailU.start (w : World) (base : Nat) : TailU w base (.slice none 0 0) [] none 0 :=
  ⟨rfl, Nat.le_refl _, Nat.zero_le _, fun a e => (by cases e), fun _ => rfl, fun h => absurd h (Nat.lt_irrefl _)⟩
theorem TailU.move (h : TailU w base v us A c) (hs : w.heap.size ≤ w'.heap.size) (hk : ∀ a, A = some a → w'.heap[a.block]? = w.heap[a.block]?) : TailU w' base v us A c := by
  refine ⟨h.val, h.le, h.max, fun a e => ?_, h.nil, fun hc => ?_⟩
  · obtain ⟨h1, h2, cs, t, h3⟩ := h.own a e
    exact ⟨h1, Nat.lt_of_lt_of_le h2 hs, cs, t, (hk a e).trans h3⟩
  · obtain ⟨g, off, cur, e, h2, h3⟩ := h.row hc
    exact ⟨g, off, cur, e, (hk _ e).trans h2, h3⟩
/-- where it holds what -/
theorem TailU.rd (h : TailU w base v us A c) : RU w w.heap.size A us := fun k u hu => by
  have hk := (List.getElem?_eq_some_iff.1 hu).1
  obtain ⟨g, off, cur, e, h2, _, h4⟩ := h.row (by have := h.le; omega)
  have hg := (h.own _ e).2.1
  refine ⟨g, off, e, hg, ?_, ?_⟩
  · simp [World.cell?, h2, h4 _ _ (cellsU_get us k u hu).1]
  · simp only [World.cell?, h2]
    have := h4 _ _ (cellsU_get us k u hu).2
    rw [Nat.add_assoc]
    simpa using this
set_option maxRecDepth 100000 in
theorem TailU.app (h : TailU w base v us A c) (ty : TypeId) (g0 c0 : Nat) (x y : Int) (k0 : w.cell? ⟨g0, 0, none⟩ = some (.int .i64 x)) (k1 : w.cell? ⟨g0, 1, none⟩ = some (.int .i64 y)) (hlen : us.length + 1 ≤ 1000000) (hbase : base ≤ w.heap.size) :
    ∃ v' w' A' c', (Builtin.append_ #[35, 35] ty #[v, .slice (some ⟨g0, 0, none⟩) 1 c0]).run Try.prog w = .ok v' w' ∧ TailU w' base v' (us ++ [(x, y)]) A' c' ∧ w.grownBy w' (A.map (·.block)) ∧ (A' = A ∨ A' = some ⟨w.heap.size, 0, none⟩) := by
  obtain ⟨i0, hi0, hz0, hz1, hz2⟩ := info_parts info_unit
  have hnl : ([Value.int .i64 x, .int .i64 y] : List Value).length = 1 * i0.size := by rw [hz1]; rfl
  have hnews : ∀ j u, ([Value.int .i64 x, .int .i64 y] : List Value)[j]? = some u → w.cell? ((⟨g0, 0, none⟩ : Addr).add j) = some u := fun j u hj => by
    rw [add_flat, Nat.zero_add]
    match j with
    | 0 => simp at hj; subst hj; exact k0
    | 1 => simp at hj; subst hj; exact k1
    | j + 2 => simp at hj
  have h1 : ∀ u ∈ ([Value.int .i64 x, .int .i64 y] : List Value), u.oneCell' = true := by intro u hu; simp at hu; rcases hu with rfl | rfl <;> rfl
  have hcl : (cellsU us).length = us.length * i0.size := by rw [hz1, cellsU_length]
  -- a new row
  have grown : ∀ (old : Nat) (olds : List Value), olds = cellsU us → TailU (w.drew.alloc (.cells (olds.toArray ++ [Value.int .i64 x, .int .i64 y].toArray ++ Builtin.zeroCells (Value.agg #[.int .i64 0, .int .i64 0]).cells (grownCap w (us.length + 1) old 24 - (us.length + 1))) 24)) base (.slice (some ⟨w.heap.size, 0, none⟩) (us.length + 1) (grownCap w (us.length + 1) old 24)) (us ++ [(x, y)]) (some ⟨w.heap.size, 0, none⟩) (grownCap w (us.length + 1) old 24) := by
    intro old olds ho
    have hge := grownCap_ge w (us.length + 1) old 24
    refine ⟨by rw [List.length_append]; rfl, by rw [List.length_append]; exact hge, grownCap_le_maxLen w _ old _ (by simp only [maxLen]; omega), fun a e => by
      cases e
      exact ⟨hbase, by simp, _, _, heap_alloc_new w.drew _⟩, (fun e => by cases e), fun _ => ⟨_, 0, _, rfl, heap_alloc_new w.drew _, ?_, fun j u hu => ?_⟩⟩
    · simp only [Array.size_append, List.size_toArray, size_zeroCells, ho, cellsU_length]
      simp [Value.cells]
      omega
    · rw [cellsU_snoc] at hu
      rw [Nat.zero_add, ho]
      have hj := (List.getElem?_eq_some_iff.1 hu).1
      rw [Array.getElem?_append_left (by simpa using hj), ← Array.getElem?_toList]
      simpa using hu
  by_cases hroom : us.length + 1 ≤ c
  · obtain ⟨g, off, cur, rfl, hg, hsz, hcur⟩ := h.row (by omega)
    obtain ⟨w', hrun, hw'⟩ := append_room_off (P := Try.prog) w 35 ty 24 i0 Try.underlying35 hi0 g off us.length c cur hg ⟨g0, 0, none⟩ 1 c0 _ hnl hnews h1 hroom (by rw [hz1]; simp; omega)
    rw [h.val]
    refine ⟨_, w', some ⟨g, off, none⟩, c, hrun, ?_, ?_, .inl rfl⟩
    · rw [hw', hz1]
      have hh := setRow_heap w g cur (List.take (off + us.length * 2) cur.toList ++ [Value.int IntKind.i64 x, Value.int IntKind.i64 y] ++ List.drop (off + us.length * 2 + [Value.int IntKind.i64 x, Value.int IntKind.i64 y].length) cur.toList).toArray 24 (0, 0) hg
      refine ⟨by rw [List.length_append]; rfl, by rw [List.length_append]; exact hroom, h.max, fun a e => by
        cases e
        exact ⟨(h.own _ rfl).1, by have := (h.own _ rfl).2.1; simpa [World.setRow] using this, _, _, hh⟩, (fun e => by cases e), fun _ => ⟨g, off, _, rfl, hh, ?_, fun j u hu => ?_⟩⟩
      · simp
        omega
      · rw [cellsU_snoc] at hu
        have hj := (List.getElem?_eq_some_iff.1 hu).1
        rw [List.length_append, cellsU_length] at hj
        simp only [List.length_cons, List.length_nil] at hj
        by_cases hjo : j < us.length * 2
        · rw [List.getElem?_append_left (by rw [cellsU_length]; exact hjo)] at hu
          have := hcur j u hu
          simp only [List.getElem?_toArray]
          rw [List.append_assoc, List.getElem?_append_left (by simp; omega), List.getElem?_take, if_pos (by omega), Array.getElem?_toList]
          exact this
        · rw [List.getElem?_append_right (by rw [cellsU_length]; omega), cellsU_length] at hu
          simp only [List.getElem?_toArray]
          have hl : (List.take (off + us.length * 2) cur.toList).length = off + us.length * 2 := by simp; omega
          rw [List.append_assoc, List.getElem?_append_right (by omega), hl, List.getElem?_append_left (by simp; omega), show off + j - (off + us.length * 2) = j - us.length * 2 by omega]
          exact hu
    · rw [hw']
      exact ⟨rfl, rfl, rfl, by simp [World.setRow], fun k _ hk => setRow_other w g k _ (fun e => hk (by simp [e]))⟩
  · have hgt : c < us.length + 1 := by omega
    rcases A with _ | a
    · have hc0 := h.nil rfl
      have hu0 : us = [] := List.length_eq_zero_iff.1 (by have := h.le; omega)
      subst hu0
      subst hc0
      rw [h.val]
      have hr := run_append_nil (P := Try.prog) w 35 ty 24 i0 _ Try.underlying35 hi0 hz0 ⟨g0, 0, none⟩ 1 c0 _ hnl hnews (by omega) (by omega) (by rw [hz2]; omega)
      refine ⟨_, _, some ⟨w.heap.size, 0, none⟩, grownCap w 1 0 24, hr, ?_, ⟨rfl, rfl, rfl, by simp, fun k hk _ => (by first | exact heap_alloc_old w.drew _ k hk | exact heap_alloc_old w.drew _ hk)⟩, .inr rfl⟩
      have := grown 0 [] rfl
      simpa using this
    · have holds : ∀ j u, (cellsU us)[j]? = some u → w.cell? (a.add j) = some u := fun j u hu => by
        have hj := (List.getElem?_eq_some_iff.1 hu).1
        rw [cellsU_length] at hj
        obtain ⟨g, off, cur, e, hg, _, hcur⟩ := h.row (by have := h.le; omega)
        cases e
        rw [add_flat]
        simp [World.cell?, hg, hcur j u hu]
      rw [h.val]
      have hns := nextslicecap_le hgt
      have hr := run_append_grow (P := Try.prog) w 35 ty 24 i0 _ Try.underlying35 hi0 hz0 a us.length c (cellsU us) hcl holds ⟨g0, 0, none⟩ 1 c0 _ hnl hnews hgt (by omega) (by rw [hz2]; omega)
      exact ⟨_, _, _, _, hr, grown c _ rfl, ⟨rfl, rfl, rfl, by simp, fun k hk _ => (by first | exact heap_alloc_old w.drew _ k hk | exact heap_alloc_old w.drew _ hk)⟩, .inr rfl⟩
/-- v[1:] -/
theorem TailU.cut {u : Int × Int} (h : TailU w base v (u :: us) A c) : ∃ A' : Option Addr, (Instr.sliceAt 35 v (some (.int .i64 1)) none none).run Try.prog w = .ok (.slice A' us.length (c - 1)) w ∧ TailU w base (.slice A' us.length (c - 1)) us A' (c - 1) := by
  have hle : us.length + 1 ≤ c := h.le
  obtain ⟨g, off, cur, rfl, hg, hsz, hcur⟩ := h.row (by omega)
  have hown := h.own _ rfl
  have hz : ∀ w, (sizeOf 24).run Try.prog w = .ok 2 w := Try.sizeOf24
  rw [h.val]
  by_cases hc : c = 1
  · subst hc
    have hu0 : us = [] := List.length_eq_zero_iff.1 (by omega)
    subst hu0
    refine ⟨some ⟨g, off, none⟩, ?_, ⟨rfl, Nat.le_refl _, Nat.zero_le _, fun a e => (by cases e; exact hown), fun e => (by cases e), fun h => absurd h (Nat.lt_irrefl _)⟩⟩
    simp [go_sem, sliced, Addr.add]
  · refine ⟨some ⟨g, off + 2, none⟩, ?_, ⟨rfl, by omega, by have := h.max; omega, fun a e => (by cases e; exact hown), fun e => (by cases e), fun _ => ⟨g, off + 2, cur, rfl, hg, by omega, fun j u' hu' => ?_⟩⟩⟩
    · have h3 : ¬ 1 = c := fun e => hc e.symm
      have h5 : (1 : Int) ≤ (us.length : Int) + 1 := by omega
      have h6 : (us.length : Int) + 1 ≤ (c : Int) := by omega
      simp [go_sem, h3, h5, h6, sliced, Addr.add]
      exact hc
    · have := hcur (j + 2) u' (by
        show (Value.int .i64 u.1 :: Value.int .i64 u.2 :: cellsU us)[j + 2]? = _
        simpa using hu')
      rw [show off + 2 + j = off + (j + 2) by omega]
      exact this
theorem tail_app {w : World} {ops : Array Oper} {rest : List Oper} {o : Oper} {a : Act} {Q : Exit → Act → World → Prop} (hgd : o.guard = none) (s x : Operand)
    (ho : o.op = .call { callee := .builtin .append, args := #[s, x], argTypes := #[35, 35] })
    (hs : a.eval s = v) (h : TailU w base v us A c) (g0 c0 : Nat) (p q : Int) (hx : a.eval x = .slice (some ⟨g0, 0, none⟩) 1 c0) (k0 : w.cell? ⟨g0, 0, none⟩ = some (.int .i64 p)) (k1 : w.cell? ⟨g0, 1, none⟩ = some (.int .i64 q)) (hlen : us.length + 1 ≤ 1000000) (hbase : base ≤ w.heap.size)
    (hK : ∀ v' w' A' c', TailU w' base v' (us ++ [(p, q)]) A' c' → w.grownBy w' (A.map (·.block)) → (A' = A ∨ A' = some ⟨w.heap.size, 0, none⟩) → wpList Try.prog ops Q rest (a.put o.dst v') w') :
    wpList Try.prog ops Q (o :: rest) a w := by
  refine wpList_plain hgd fun K hKK => ?_
  obtain ⟨v', w', A', c', hrun, h2, h3, h5⟩ := h.app o.type g0 c0 p q k0 k1 hlen hbase
  unfold Oper.wp execOp
  simp only [ho, resolve, invoke, builtin, Sem.run_bind, Sem.run_pure, Result.andThen_ok, List.map_toArray, List.map_cons, List.map_nil, hs, hx]
  rw [show (Builtin.append_ #[35, 35] o.type #[v, .slice (some ⟨g0, 0, none⟩) 1 c0]).run Try.prog w = .ok v' w' from hrun]
  exact hKK _ _ (hK v' w' A' c' h2 h3 h5)
end
end Go.Proofs.Ytffmipmkbbholaa
