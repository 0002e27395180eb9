/-
  Arrays as values: loads and stores of stretches of a block that is known whole; copy into one; a result that is a cell. Own work.
-/
import Derived.Test.YtabhpgacnenacaaDoorOwnV
import Derived.Laws.Tables
import Derived.Laws.Rows
namespace Go.Proofs.YtabhpgacnenacaaDoor
open Go.RowKit

theorem Blk.cells {w : World} {g : Nat} {l : List UInt8} (h : Blk w g l) : Cells w g 5 (bvs l) := h
/-- us in the place of what lay at o -/
def spl (cs : List Value) (o : Nat) (us : List Value) : List Value := cs.take o ++ us ++ cs.drop (o + us.length)
theorem spl_len {cs us : List Value} {o : Nat} (h : o + us.length ≤ cs.length) : (spl cs o us).length = cs.length := by simp [spl]; omega
theorem spl_nil (cs : List Value) (o : Nat) : spl cs o [] = cs := by simp [spl]
theorem spl_all {cs us : List Value} (h : us.length = cs.length) : spl cs 0 us = us := by simp [spl, h]
section
variable {w : World} {g o n : Nat} {t ty : TypeId} {cs us : List Value}
theorem run_load_mid (hC : Cells w g t cs) (ha : ∀ w, (isAgg ty).run Tryd.prog w = .ok true w) (hs : ∀ w, (sizeOf ty).run Tryd.prog w = .ok us.length w) (hu : ∀ j u, us[j]? = some u → cs[o + j]? = some u) :
    (loadVar ty ⟨g, o, none⟩).run Tryd.prog w = .ok (.agg us.toArray) w := by
  have hl := run_loadCells_list (P := Tryd.prog) (w := w) ⟨g, o, none⟩ us (fun j v hv => by rw [add_flat]; exact hC.cell (hu j v hv))
  simp only [loadVar, Sem.run_bind, ha, Result.andThen_ok, if_true, hs]
  rw [hl]
  rfl
theorem run_store_mid (hC : Cells w g t cs) (hs : ∀ w, (sizeOf ty).run Tryd.prog w = .ok us.length w) (hfit : o + us.length ≤ cs.length) (h1 : ∀ u ∈ us, u.oneCell' = true) :
    (storeVar ty ⟨g, o, none⟩ (.agg us.toArray)).run Tryd.prog w = .ok () (w.setRow g (spl cs o us).toArray) := by
  have h := run_storeCells_at Tryd.prog g o t us 0 cs.toArray w hC (by simpa using hfit) h1
  simp only [storeVar, Sem.run_bind, hs, Result.andThen_ok, Value.cells, List.size_toArray, Nat.lt_irrefl, bne_self_eq_false, if_false]
  simp only [Nat.add_zero] at h
  first
    | exact h
    | (simp; exact h)
theorem Cells.row (hC : Cells w g t cs) (us : List Value) : Cells (w.setRow g us.toArray) g t us := setRow_heap w g _ _ _ _ hC
theorem kept_row (w : World) (g : Nat) (us : Array Value) : Kept (fun b => b ≠ g) w (w.setRow g us) := ⟨rfl, rfl, rfl, by simp, fun k _ hk => setRow_other w g k _ hk⟩
end
section
variable {w : World} {ops : Array Oper} {rest : List Oper} {op : Oper} {a : Act} {Q : Exit → Act → World → Prop} {g o : Nat} {t ty : TypeId} {cs us : List Value}
/-- at a load -/
theorem ld_mid (hgd : op.guard = none) (ty : TypeId) (x : Operand) (ho : op.op = .load ty x) (hx : a.eval x = .pointer (some ⟨g, o, none⟩)) (hC : Cells w g t cs)
    (ha : ∀ w, (isAgg ty).run Tryd.prog w = .ok true w) (hs : ∀ w, (sizeOf ty).run Tryd.prog w = .ok us.length w) (hu : ∀ j u, us[j]? = some u → cs[o + j]? = some u)
    (h : wpList Tryd.prog ops Q rest (a.put op.dst (.agg us.toArray)) w) : wpList Tryd.prog ops Q (op :: rest) a w := by
  refine wpList_plain hgd fun K hK => ?_
  unfold Oper.wp execOp
  simp only [ho, hx, Instr.loadAt, Instr.sureAddr, Sem.run_bind, Sem.run_pure, Result.andThen_ok, run_load_mid hC ha hs hu]
  exact hK _ _ h
theorem ld_row (hgd : op.guard = none) (ty : TypeId) (x : Operand) (ho : op.op = .load ty x) (hx : a.eval x = .pointer (some ⟨g, 0, none⟩)) (hC : Cells w g t cs)
    (ha : ∀ w, (isAgg ty).run Tryd.prog w = .ok true w) (hs : ∀ w, (sizeOf ty).run Tryd.prog w = .ok cs.length w)
    (h : wpList Tryd.prog ops Q rest (a.put op.dst (.agg cs.toArray)) w) : wpList Tryd.prog ops Q (op :: rest) a w :=
  ld_mid hgd ty x ho hx hC ha hs (fun j u hu => by rw [Nat.zero_add]; exact hu) h
/-- at a store -/
theorem st_mid (hgd : op.guard = none) (ty : TypeId) (x y : Operand) (ho : op.op = .store ty x y) (hx : a.eval x = .pointer (some ⟨g, o, none⟩)) (hy : a.eval y = .agg us.toArray) (hC : Cells w g t cs)
    (hs : ∀ w, (sizeOf ty).run Tryd.prog w = .ok us.length w) (hfit : o + us.length ≤ cs.length) (h1 : ∀ u ∈ us, u.oneCell' = true)
    (h : ∀ w', Cells w' g t (spl cs o us) → Kept (fun b => b ≠ g) w w' → wpList Tryd.prog ops Q rest (a.put op.dst undef) w') : wpList Tryd.prog ops Q (op :: rest) a w := by
  refine wpList_plain hgd fun K hK => ?_
  unfold Oper.wp execOp
  simp only [ho, hx, hy, Instr.storeAt, Instr.sureAddr, Sem.run_bind, Sem.run_pure, Result.andThen_ok, run_store_mid hC hs hfit h1]
  exact hK _ _ (h _ (hC.row _) (kept_row _ _ _))
theorem st_row (hgd : op.guard = none) (ty : TypeId) (x y : Operand) (ho : op.op = .store ty x y) (hx : a.eval x = .pointer (some ⟨g, 0, none⟩)) (hy : a.eval y = .agg us.toArray) (hC : Cells w g t cs)
    (hs : ∀ w, (sizeOf ty).run Tryd.prog w = .ok us.length w) (hfit : us.length = cs.length) (h1 : ∀ u ∈ us, u.oneCell' = true)
    (h : ∀ w', Cells w' g t us → Kept (fun b => b ≠ g) w w' → wpList Tryd.prog ops Q rest (a.put op.dst undef) w') : wpList Tryd.prog ops Q (op :: rest) a w :=
  st_mid hgd ty x y ho hx hy hC hs (by omega) h1 (by rw [spl_all hfit]; exact h)
end
/-- copy into a stretch of a block of any cells, as one run equation -/
theorem size_u8 : (Tryd.prog.info? 5).map (·.size) = some 1 := by kernel_rfl
theorem copy_mid (W : World) (g off dLen dCap : Nat) (t ty : TypeId) (A : Option Addr) (x : List UInt8) (cs : List Value) (c m B : Nat) (hr : RB W B A x) (hb : Cells W g t cs) (hm : x.length = Nat.min m dLen) (hfit : off + x.length ≤ cs.length) :
    ∃ W', (Builtin.copy_ #[24, 24] ty #[.slice (some ⟨g, off, none⟩) dLen dCap, .slice A m c]).run Tryd.prog W = .ok (.int .i64 (x.length : Int)) W' ∧ Cells W' g t (spl cs off (bvs x)) ∧ Kept (fun b => b ≠ g) W W' := by
  by_cases h0 : x.length = 0
  · obtain rfl : x = [] := List.eq_nil_of_length_eq_zero h0
    refine ⟨W, run_copy_none (P := Tryd.prog) W _ _ ty 5 _ _ _ _ _ _ Tryd.underlying24 size_u8 (by simpa using hm.symm), by rw [show bvs [] = [] from rfl, spl_nil]; exact hb, Kept.refl _ _⟩
  · obtain ⟨ad, rfl, _, _⟩ := hr.at_ (show 0 < x.length by omega)
    have hrun := run_copy_row (P := Tryd.prog) W 24 24 ty 5 g off dLen dCap ad m c cs.toArray t (bvs x) Tryd.underlying24 size_u8 hb
      (by rw [bvs_length]; exact hm) (fun j u hu => by
        simp only [bvs, List.getElem?_map, Option.map_eq_some_iff] at hu
        obtain ⟨y, hy, rfl⟩ := hu
        obtain ⟨ad', e, _, hc⟩ := hr j y hy
        cases e
        exact hc) (by simpa [bvs] using hfit) (bvs_one x)
    rw [bvs_length] at hrun
    refine ⟨_, hrun, ?_, kept_row _ _ _⟩
    have := hb.row (spl cs off (bvs x))
    unfold spl at this ⊢
    rw [bvs_length] at this ⊢
    exact this
/-- at a copy -/
theorem cp_mid {w : World} {ops : Array Oper} {rest : List Oper} {op : Oper} {a : Act} {Q : Exit → Act → World → Prop} {g off dLen dCap m c B : Nat} {t : TypeId} {cs : List Value} {A : Option Addr} (hgd : op.guard = none) (s x : Operand)
    (ho : op.op = .call { callee := .builtin .copy, args := #[s, x], argTypes := #[24, 24] }) (hs : a.eval s = .slice (some ⟨g, off, none⟩) dLen dCap) (hx : a.eval x = .slice A m c) (l : List UInt8) (hC : Cells w g t cs)
    (hr : RB w B A l) (hm : l.length = Nat.min m dLen) (hfit : off + l.length ≤ cs.length)
    (h : ∀ w', Cells w' g t (spl cs off (bvs l)) → Kept (fun b => b ≠ g) w w' → wpList Tryd.prog ops Q rest (a.put op.dst (.int .i64 (l.length : Int))) w') : wpList Tryd.prog ops Q (op :: rest) a w := by
  refine wpList_plain hgd fun K hK => ?_
  obtain ⟨w', hrun, h1, h2⟩ := copy_mid w g off dLen dCap t op.type A l cs c m B hr hC hm hfit
  unfold Oper.wp execOp
  simp only [ho, resolve, invoke, builtin, Sem.run_bind, Sem.run_pure, Result.andThen_ok, List.map_toArray, List.map_cons, List.map_nil, hs, hx]
  rw [hrun]
  exact hK _ _ (h w' h1 h2)
/-- a result that is a cell -/
theorem res_cell {fn : Func} {p : Tmp} {s : TypeId} (h : fn.results = #[.cell p s]) (tmps : Array Value) (w : World) (a : Addr) (u : Value) (ha : tmps.getD p undef = .pointer (some a))
    (h1 : (loadVar s a).run Tryd.prog w = .ok u w) : (results fn tmps).run Tryd.prog w = .ok u w := by
  have ha' : tmps[p]?.getD undef = .pointer (some a) := by simpa using ha
  simp [results, h, ha', asAddr, h1]
/-- .. a whole block -/
theorem res_row {fn : Func} {p : Tmp} {s t : TypeId} {w : World} {g : Nat} {cs : List Value} (h : fn.results = #[.cell p s]) (tmps : Array Value) (ha : tmps.getD p undef = .pointer (some ⟨g, 0, none⟩)) (hC : Cells w g t cs)
    (hg : ∀ w, (isAgg s).run Tryd.prog w = .ok true w) (hs : ∀ w, (sizeOf s).run Tryd.prog w = .ok cs.length w) : (results fn tmps).run Tryd.prog w = .ok (.agg cs.toArray) w :=
  res_cell h tmps w _ _ ha (run_load_mid hC hg hs (fun j u hu => by rw [Nat.zero_add]; exact hu))
end Go.Proofs.YtabhpgacnenacaaDoor
