/-
  Copies of bytes and of numbers; append of a slice of one-cell elements.
-/
import Derived.Test.YtkjogkmdldplgaaDoorOwnV
namespace Go.Proofs.YtkjogkmdldplgaaDoor
open Go.RowKit

theorem info_int : (Tryd.prog.info? 3).map (fun i => (i.zero, i.size, i.bytes)) = some (some (.int .i64 0), 1, 8) := by kernel_rfl

/-- append(v, x...): any slice of one-cell elements -/
theorem app_many {w : World} {ops : Array Oper} {rest : List Oper} {o : Oper} {a : Act} {Q : Exit → Act → World → Prop} (hgd : o.guard = none) (s x : Operand) (t e : TypeId)
    (ho : o.op = .call { callee := .builtin .append, args := #[s, x], argTypes := #[t, t] })
    (hu : Tryd.prog.underlying t = some (.slice e)) (z : Value) (bytes : Nat) (hi : (Tryd.prog.info? e).map (fun i => (i.zero, i.size, i.bytes)) = some (some z, 1, bytes)) (hzc : z.cells.size = 1)
    (base : Nat) (v : Value) (xs : List Value) (hs : a.eval s = v) (hown : OwnV w base e v xs)
    (A : Option Addr) (m c : Nat) (us : List Value) (hx : a.eval x = .slice A m c) (hm : m = us.length) (hc : ∀ k u, us[k]? = some u → ∃ ad, A = some ad ∧ w.cell? (ad.add k) = some u) (h1 : ∀ u ∈ us, u.oneCell' = true)
    (hlen : xs.length + us.length ≤ 140737488355327) (hbytes : (xs.length + us.length) * bytes ≤ 140737488355328) (hbase : base ≤ w.heap.size)
    (h : ∀ v' w', OwnV w' base e v' (xs ++ us) → w.grownBy w' v.ownBlock → (v'.ownBlock = v.ownBlock ∨ v'.ownBlock = some w.heap.size) → wpList Tryd.prog ops Q rest (a.put o.dst v') w') :
    wpList Tryd.prog ops Q (o :: rest) a w := by
  subst hm
  obtain ⟨i0, hi0, hz0, hz1, hz2⟩ := info_parts hi
  refine wpList_plain hgd fun K hK => ?_
  have run : ∃ v' w', (Builtin.append_ #[t, t] o.type #[v, .slice A us.length c]).run Tryd.prog w = .ok v' w' ∧ OwnV w' base e v' (xs ++ us) ∧ w.grownBy w' v.ownBlock ∧ (v'.ownBlock = v.ownBlock ∨ v'.ownBlock = some w.heap.size) := by
    by_cases h0 : us.length = 0
    · obtain rfl : us = [] := List.eq_nil_of_length_eq_zero h0
      refine ⟨v, w, ?_, by simpa [OwnV] using hown, World.grownBy.refl w _, .inl rfl⟩
      rcases hown.2 with ⟨rfl, _⟩ | ⟨g, cap, cur, rfl, _, _, hnc, _⟩
      · cases A <;> simp [Builtin.append_, run_underlying hu, sizeOf, typeInfo, hi0, Builtin.lenOf, Builtin.firstCells, loadCells, loadCellsFrom]
      · cases A <;> simp [Builtin.append_, run_underlying hu, sizeOf, typeInfo, hi0, Builtin.lenOf, Builtin.firstCells, hnc, storeCells, loadCells, loadCellsFrom]
    · have hr0 : 0 < us.length := by omega
      obtain ⟨ad, rfl, _⟩ := hc 0 us[0] (List.getElem?_eq_getElem hr0)
      exact app_cells_run (w := w) t o.type e hu z bytes hi hzc base v xs hown ad c us (fun j u hj => by
        obtain ⟨ad', e, hcc⟩ := hc j u hj
        cases e
        exact hcc) h1 hlen hbytes hbase
  obtain ⟨v', w', hrun, h2, h3, h5⟩ := run
  unfold Oper.wp execOp
  simp only [ho, resolve, invoke, builtin, Sem.run_bind, Sem.run_pure, Result.andThen_ok, List.map_toArray, List.map_cons, List.map_nil, hs, hx, hrun]
  exact hK _ _ (h v' w' h2 h3 h5)

theorem eql_nil (w : World) (A : Option Addr) (n c : Nat) : (binOp .eql 35 (.slice A n c) (.slice none 0 0)).run Tryd.prog w = .ok (.bool A.isNone) w :=
  Lib.run_eql_slice_nil w _ 5 A n c 0 0 Tryd.underlying35
theorem eql_nil_ints (w : World) (A : Option Addr) (n c : Nat) : (binOp .eql 57 (.slice A n c) (.slice none 0 0)).run Tryd.prog w = .ok (.bool A.isNone) w :=
  Lib.run_eql_slice_nil w _ 3 A n c 0 0 Tryd.underlying57

set_option maxRecDepth 20000 in
set_option maxHeartbeats 400000 in
theorem clone_any (A : Option Addr) (c : Nat) (l : List UInt8) (w : World) (B : Nat) (hr : RB w B A l) (hB : B ≤ w.heap.size) (hl : l.length ≤ 1099511627776) :
    Calls Tryd.prog 34 #[.slice A l.length c] w fun e w' => ∃ v, e = .returned v ∧ Own w' w.heap.size v l ∧ Below w.heap.size w w' := by
  have Hr := Lib.hid hr
  have Hl := Lib.hid hl
  have HB := Lib.hid hB
  clear hr hl hB
  rcases A with _ | ad
  · have h0 : l = [] := by
      rcases l with _ | ⟨x, l⟩
      · rfl
      · obtain ⟨ad, e, _⟩ := Hr.out 0 x rfl
        cases e
    subst h0
    have hq := fun W => eql_nil W none 0 c
    go_enter Tryd.func34, Tryd.ntmps34
    go_wp2_with fail
    go_ret
    exact ⟨_, rfl, Own.nil _ _, Below.refl _ _⟩
  · have hq := fun W => eql_nil W (some ad) l.length c
    go_enter Tryd.func34, Tryd.ntmps34
    go_wp2_with (at_builtin; refine app_bytes rfl (.tmp 5) (.tmp 6) rfl w.heap.size _ [] rfl (Own.made w _ (Nat.le_refl _)) _ (some ad) l.length c l rfl rfl (Hr.out.alloc HB.out _) (by have := Hl.out; simp; omega) (by simp) ?_; intro v1 w1 hown hbel _)
    go_ret
    exact ⟨v1, rfl, by simpa using hown, ((Below.refl _ _).alloc (Nat.le_refl _) _).trans hbel⟩

set_option maxRecDepth 20000 in
set_option maxHeartbeats 400000 in
theorem cloneInts_any (A : Option Addr) (c : Nat) (l : List Int) (w : World) (B : Nat) (hr : RI w B A l) (hB : B ≤ w.heap.size) (hl : l.length ≤ 1099511627776) :
    Calls Tryd.prog 35 #[.slice A l.length c] w fun e w' => ∃ v, e = .returned v ∧ OwnV w' w.heap.size 3 v (l.map (Value.int .i64)) ∧ Below w.heap.size w w' := by
  have Hr := Lib.hid hr
  have Hl := Lib.hid hl
  have HB := Lib.hid hB
  clear hr hl hB
  rcases A with _ | ad
  · have h0 : l = [] := by
      rcases l with _ | ⟨x, l⟩
      · rfl
      · obtain ⟨ad, e, _⟩ := Hr.out 0 x rfl
        cases e
    subst h0
    have hq := fun W => eql_nil_ints W none 0 c
    go_enter Tryd.func35, Tryd.ntmps35
    go_wp2_with fail
    go_ret
    exact ⟨_, rfl, OwnV.nil _ _ _, Below.refl _ _⟩
  · have hq := fun W => eql_nil_ints W (some ad) l.length c
    have Hm : Hid (OwnV (w.alloc (.cells #[] 3)) w.heap.size 3 (.slice (some ⟨w.heap.size, 0, none⟩) 0 0) []) :=
      World.ownsRow_made w #[] 0 (Nat.le_refl _) (by simp [maxLen]) (by simp)
    have Hc : Hid (∀ k u, (l.map (Value.int .i64))[k]? = some u → ∃ ad', some ad = some ad' ∧ (w.alloc (.cells #[] 3)).cell? (ad'.add k) = some u) := by
      intro k u hu
      rw [List.getElem?_map] at hu
      rcases hx : l[k]? with _ | x
      · rw [hx] at hu; cases hu
      · rw [hx] at hu
        cases hu
        obtain ⟨ad', e, hlt, hc⟩ := Hr.out k x hx
        exact ⟨ad', e, (World.cell?_alloc_lt w _ (ad'.add k) (by rw [add_block]; have := HB.out; omega)).trans hc⟩
    go_enter Tryd.func35, Tryd.ntmps35
    go_wp2_with (at_builtin; refine app_many rfl (.tmp 5) (.tmp 6) 57 3 rfl Tryd.underlying57 (.int .i64 0) 8 info_int rfl w.heap.size _ [] rfl Hm.out (some ad) l.length c (l.map (Value.int .i64)) rfl (by simp) Hc.out (by intro u hu; simp only [List.mem_map] at hu; obtain ⟨x, _, rfl⟩ := hu; rfl) (by have := Hl.out; simp; omega) (by have := Hl.out; simp; omega) (by simp) ?_; intro v1 w1 hown hg hb)
    go_ret
    exact ⟨v1, rfl, by simpa using hown, ((Below.refl _ _).alloc (Nat.le_refl _) _).grown hg (by simp) (fun k hk => by cases hk; exact Nat.le_refl _)⟩
end Go.Proofs.YtkjogkmdldplgaaDoor
