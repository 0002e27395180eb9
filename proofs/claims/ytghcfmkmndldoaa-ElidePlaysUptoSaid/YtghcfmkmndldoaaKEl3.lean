/-
  Elisions in memory: slices that read as elisions, slices of the call's own.
-/
import Derived.Test.YtghcfmkmndldoaaKFa1
import Derived.Test.YtghcfmkmndldoaaKGet
import Derived.Test.YtghcfmkmndldoaaOwnV
import Derived.Deep.RegionHeld3
import Derived.StillTailTactics
import Derived.Sort.LotA
import Derived.Sort.Grow
namespace Go.Proofs.Ytghcfmkmndldoaa
open Go.RowKit Go.Sort Go.Lib

/-- an elision's cells; as a value -/
def cellE (e : Ec) : List Value := [.string e.1, .string e.2.1, .int .u64 (e.2.2 : Int)]
def eV (e : Ec) : Value := .agg #[.string e.1, .string e.2.1, .int .u64 (e.2.2 : Int)]
def cellsE (es : List Ec) : List Value := es.flatMap cellE
theorem cellsE_append (ps qs : List Ec) : cellsE (ps ++ qs) = cellsE ps ++ cellsE qs := by simp [cellsE]
theorem cellsE_length (ps : List Ec) : (cellsE ps).length = ps.length * 3 := by
  induction ps with
  | nil => rfl
  | cons p ps ih => rw [show cellsE (p :: ps) = cellE p ++ cellsE ps from rfl, List.length_append, ih]; simp [cellE]; omega
theorem cellsE_get (ps : List Ec) : ∀ (k : Nat) (p : Ec), ps[k]? = some p → (cellsE ps)[k * 3]? = some (.string p.1) ∧ (cellsE ps)[k * 3 + 1]? = some (.string p.2.1) ∧ (cellsE ps)[k * 3 + 2]? = some (.int .u64 (p.2.2 : Int)) := by
  induction ps with
  | nil => intro k p h; simp at h
  | cons q ps ih =>
    intro k p h
    rw [show cellsE (q :: ps) = .string q.1 :: .string q.2.1 :: .int .u64 (q.2.2 : Int) :: cellsE ps from rfl]
    cases k with
    | zero => simp at h; subst h; exact ⟨rfl, rfl, rfl⟩
    | succ k =>
      have := ih k p (by simpa using h)
      rw [show (k + 1) * 3 = k * 3 + 1 + 1 + 1 by omega]
      exact this
/-- the other way: each cell is one of some elision's -/
theorem cellsE_at (ps : List Ec) {j : Nat} {u : Value} (h : (cellsE ps)[j]? = some u) : ∃ k p, ps[k]? = some p ∧ ((j = k * 3 ∧ u = .string p.1) ∨ (j = k * 3 + 1 ∧ u = .string p.2.1) ∨ (j = k * 3 + 2 ∧ u = .int .u64 (p.2.2 : Int))) := by
  have hj : j < ps.length * 3 := by rw [← cellsE_length]; exact (List.getElem?_eq_some_iff.1 h).1
  have hk : j / 3 < ps.length := by omega
  refine ⟨j / 3, _, List.getElem?_eq_getElem hk, ?_⟩
  obtain ⟨c0, c1, c2⟩ := cellsE_get ps (j / 3) _ (List.getElem?_eq_getElem hk)
  rcases (by omega : j % 3 = 0 ∨ j % 3 = 1 ∨ j % 3 = 2) with q | q | q
  · left; rw [show j / 3 * 3 = j by omega, h] at c0; exact ⟨by omega, Option.some.inj c0⟩
  · right; left; rw [show j / 3 * 3 + 1 = j by omega, h] at c1; exact ⟨by omega, Option.some.inj c1⟩
  · right; right; rw [show j / 3 * 3 + 2 = j by omega, h] at c2; exact ⟨by omega, Option.some.inj c2⟩
theorem oneE (ps : List Ec) : ∀ u ∈ cellsE ps, u.oneCell' = true := by
  intro u hu
  obtain ⟨p, hp, hu⟩ := List.mem_flatMap.1 hu
  simp only [cellE, List.mem_cons, List.not_mem_nil, or_false] at hu
  rcases hu with rfl | rfl | rfl <;> rfl
theorem cellsE_set : ∀ (ps : List Ec) (i : Nat) (p : Ec) (h : ByteArray), ps[i]? = some p → cellsE (ps.set i (p.1, h, p.2.2)) = (cellsE ps).set (i * 3 + 1) (.string h)
  | [], i, p, h, e => by simp at e
  | q :: ps, 0, p, h, e => by simp at e; subst e; rfl
  | q :: ps, i + 1, p, h, e => by
    rw [List.set_cons_succ, show cellsE (q :: ps.set i (p.1, h, p.2.2)) = .string q.1 :: .string q.2.1 :: .int .u64 (q.2.2 : Int) :: cellsE (ps.set i (p.1, h, p.2.2)) from rfl, cellsE_set ps i p h (by simpa using e), show cellsE (q :: ps) = .string q.1 :: .string q.2.1 :: .int .u64 (q.2.2 : Int) :: cellsE ps from rfl,
      show (i + 1) * 3 + 1 = (i * 3 + 1) + 1 + 1 + 1 by omega]
    simp only [List.set_cons_succ]
/-- all numbers fit -/
def NumE (es : List Ec) : Prop := ∀ e ∈ es, e.2.2 < two64
theorem NumE.append {es fs : List Ec} (h : NumE es) (k : NumE fs) : NumE (es ++ fs) := fun e he => (List.mem_append.1 he).elim (h e) (k e)
theorem NumE.sub {es fs : List Ec} (h : NumE es) (k : fs ⊆ es) : NumE fs := fun e he => h e (k he)
/-- THE SLICE AT A READS AS the elisions es, all of it below block B -/
def RE (w : World) (B : Nat) (A : Option Addr) (es : List Ec) : Prop :=
  ∀ k p, es[k]? = some p → ∃ b o, A = some ⟨b, o, none⟩ ∧ b < B ∧ w.cell? ⟨b, o + k * 3, none⟩ = some (.string p.1) ∧ w.cell? ⟨b, o + k * 3 + 1, none⟩ = some (.string p.2.1) ∧ w.cell? ⟨b, o + k * 3 + 2, none⟩ = some (.int .u64 (p.2.2 : Int))
/-- THE CALL OWNS v, a slice of elisions, which holds es -/
def OwnE (w : World) (base : Nat) (v : Value) (es : List Ec) : Prop := w.ownsRow base 32 3 v es.length (cellsE es)
theorem info_elision : (Try.prog.info? 32).map (fun i => (i.zero, i.size, i.bytes)) = some (some (.agg #[.string ⟨#[]⟩, .string ⟨#[]⟩, .int .u64 0]), 3, 40) := by kernel_rfl

section
variable {w w' : World} {B B' base : Nat} {A : Option Addr} {V v : Value} {es fs : List Ec}
theorem RE.below (h : RE w B A es) (hb : Below B w w') : RE w' B A es := fun k p hk => by
  obtain ⟨b, o, e, hlt, h0, h1, h2⟩ := h k p hk
  exact ⟨b, o, e, hlt, (hb.cell hlt).trans h0, (hb.cell hlt).trans h1, (hb.cell hlt).trans h2⟩
theorem RE.wide (h : RE w B A es) (hB : B ≤ B') : RE w B' A es := fun k p hk => by
  obtain ⟨b, o, e, hlt, h0, h1, h2⟩ := h k p hk
  exact ⟨b, o, e, by omega, h0, h1, h2⟩
theorem RE.now (h : RE w w.heap.size A es) (hb : Below w.heap.size w w') : RE w' w'.heap.size A es := (h.below hb).wide hb.size
theorem RE.cut {b o : Nat} (h : RE w B (some ⟨b, o, none⟩) es) (n : Nat) : RE w B (some ⟨b, o + n * 3, none⟩) (es.drop n) := fun k p hk => by
  rw [List.getElem?_drop] at hk
  obtain ⟨b', o', e, hlt, h0, h1, h2⟩ := h _ p hk
  cases e
  rw [show o + (n + k) * 3 = o + n * 3 + k * 3 by omega] at h0 h1 h2
  exact ⟨b, _, rfl, hlt, h0, h1, h2⟩
theorem RE.take (h : RE w B A es) (n : Nat) : RE w B A (es.take n) := fun k p hk => by
  rw [List.getElem?_take] at hk
  split at hk
  · exact h k p hk
  · cases hk
theorem RE.nil (w : World) (B : Nat) (A : Option Addr) : RE w B A [] := fun k p h => by simp at h
theorem RE.none_nil (h : RE w B none es) : es = [] := by
  rcases es with _ | ⟨p, es⟩
  · rfl
  · obtain ⟨b, o, e2, _⟩ := h 0 p rfl
    cases e2
theorem RE.flat (h : RE w B A es) (h0 : 0 < es.length) : ∃ b o, A = some ⟨b, o, none⟩ ∧ b < B := by
  obtain ⟨b, o, e, hlt, _⟩ := h 0 _ (List.getElem?_eq_getElem h0)
  exact ⟨b, o, e, hlt⟩
theorem OwnE.nil (w : World) (base : Nat) : OwnE w base (.slice none 0 0) [] := World.ownsRow_nil _ _ _ _
theorem OwnE.move (h : OwnE w base v es) (hk : ∀ g, v.ownBlock = some g → w'.heap[g]? = w.heap[g]?) : OwnE w' base v es := by
  refine ⟨h.1, ?_⟩
  rcases h.2 with q | ⟨g, cap, cur, hv, hg, hh, r⟩
  · exact .inl q
  · exact .inr ⟨g, cap, cur, hv, hg, (hk g (by rw [hv]; rfl)).trans hh, r⟩
theorem OwnE.ge (h : OwnE w base v es) : ∀ k, v.ownBlock = some k → base ≤ k ∧ k < w.heap.size := fun k hk => World.ownsRow.lt h k hk
theorem OwnE.below (h : OwnE w base v es) (hb : Below w.heap.size w w') : OwnE w' base v es := h.move fun g hg => hb.block g (h.ge g hg).2
theorem OwnE.wideB (h : OwnE w base v es) (hb : B ≤ base) : OwnE w B v es := by
  refine ⟨h.1, ?_⟩
  rcases h.2 with h | ⟨g, cap, cur, hv, hg, r⟩
  · exact .inl h
  · exact .inr ⟨g, cap, cur, hv, Nat.le_trans hb hg, r⟩
/-- an owned slice of elisions, read -/
theorem OwnE.rd (h : OwnE w base v es) : ∃ A c, v = .slice A es.length c ∧ es.length ≤ c ∧ (A = none → c = 0) ∧ RE w w.heap.size A es ∧ (∀ b o, A = some ⟨b, o, none⟩ → base ≤ b) ∧ ∀ ad, A = some ad → ∃ b, ad = ⟨b, 0, none⟩ ∧ ∀ j, w.frozen? ⟨b, j, none⟩ = false := by
  rcases h.2 with ⟨rfl, h0⟩ | ⟨g, cap, cur, rfl, hb, hg, hn, hm, hs, ht⟩
  · have : es = [] := List.eq_nil_of_length_eq_zero h0
    subst this
    exact ⟨none, 0, rfl, Nat.le_refl _, fun _ => rfl, RE.nil _ _ _, (fun b o e => by cases e), fun ad e => by cases e⟩
  · refine ⟨_, cap, rfl, hn, fun e => by (cases e), fun k p hk => ⟨g, 0, rfl, (Array.getElem?_eq_some_iff.1 hg).1, ?_⟩, (fun b o e => by cases e; exact hb), fun ad e => by cases e; exact ⟨g, rfl, fun j => by simp [World.frozen?, hg]⟩⟩
    obtain ⟨c0, c1, c2⟩ := cellsE_get es k p hk
    have q0 := World.ownsRow.cells (e := 32) (size := 3) h rfl (k * 3) _ c0
    have q1 := World.ownsRow.cells (e := 32) (size := 3) h rfl (k * 3 + 1) _ c1
    have q2 := World.ownsRow.cells (e := 32) (size := 3) h rfl (k * 3 + 2) _ c2
    rw [add_flat] at q0 q1 q2
    exact ⟨q0, q1, q2⟩
theorem OwnE.grownB (h : OwnE w base v es) (hg : w.grownBy w' v.ownBlock) (hbase : base ≤ w.heap.size) : Below base w w' := (Below.refl _ _).grown hg hbase fun k hk => (h.ge k hk).1
/-- one elision of an owned slice gets another end -/
theorem OwnE.setHi {g n c i : Nat} {p : Ec} (h : OwnE w base (.slice (some ⟨g, 0, none⟩) n c) es) (hi : es[i]? = some p) (x : ByteArray) : OwnE (w.setCell ⟨g, i * 3 + 1, none⟩ (.string x)) base (.slice (some ⟨g, 0, none⟩) n c) (es.set i (p.1, x, p.2.2)) := by
  have h' := h
  unfold OwnE at h ⊢
  rw [cellsE_set es i p x hi, List.length_set]
  refine ⟨by rw [List.length_set]; exact h.1, ?_⟩
  rcases h.2 with ⟨hv, _⟩ | ⟨g', cap, cur, hv, hb, hg, h1, h2, h3, h4⟩
  · cases hv
  · injection hv with e1 e2 e3
    injection e1 with e1
    injection e1 with e1
    subst e1
    have hc : Cells w g 32 cur.toList := by unfold Cells; simpa using hg
    have := hc.set (i * 3 + 1) (.string x)
    refine .inr ⟨g, cap, (cur.toList.set (i * 3 + 1) (.string x)).toArray, by rw [e2, e3], hb, this, h1, h2, by simp [h3], ?_⟩
    show (cur.toList.set (i * 3 + 1) (.string x)).take _ = _
    rw [List.take_set, h4]
/-- append(v, elisions of a slice), as a run -/
theorem app_elisions_run (ty : TypeId) (ho : OwnE w base v es) (hr : RE w B A fs) (c : Nat) (hlen : es.length + fs.length ≤ 1099511627776) (hbase : base ≤ w.heap.size) :
    ∃ v' w', (Builtin.append_ #[22, 22] ty #[v, .slice A fs.length c]).run Try.prog w = .ok v' w' ∧ OwnE w' base v' (es ++ fs) ∧ w.grownBy w' v.ownBlock ∧ (v'.ownBlock = v.ownBlock ∨ v'.ownBlock = some w.heap.size) := by
  obtain ⟨i0, hi0, hz0, hz1, hz2⟩ := info_parts info_elision
  by_cases h0 : fs = []
  · subst h0
    refine ⟨v, w, ?_, by rw [List.append_nil]; exact ho, World.grownBy.refl w _, .inl rfl⟩
    rcases ho.2 with ⟨rfl, _⟩ | ⟨g, cap, cur, rfl, _, _, hnc, _⟩
    · cases A <;> simp [Builtin.append_, run_underlying Try.underlying22, sizeOf, typeInfo, hi0, hz1, Builtin.lenOf, Builtin.firstCells, loadCells, loadCellsFrom]
    · cases A <;> simp [Builtin.append_, run_underlying Try.underlying22, sizeOf, typeInfo, hi0, hz1, Builtin.lenOf, Builtin.firstCells, hnc, storeCells, loadCells, loadCellsFrom]
  · obtain ⟨b, o, rfl, _⟩ := hr 0 (fs[0]'(List.length_pos_iff.2 h0)) (List.getElem?_eq_getElem _)
    obtain ⟨v', w', hrun, r2, r3, _, r5⟩ := run_append_own_at (P := Try.prog) w base 22 ty 32 i0 _ 3 40 Try.underlying22 hi0 hz0 hz1 hz2 rfl (by omega) v es.length (cellsE es) ho ⟨b, o, none⟩ fs.length c (cellsE fs)
      (by rw [cellsE_length]) (fun j u hj => by
        rw [add_flat]
        obtain ⟨k, p, hk, q⟩ := cellsE_at fs hj
        obtain ⟨b', o', e, _, c0, c1, c2⟩ := hr k p hk
        cases e
        rcases q with ⟨rfl, rfl⟩ | ⟨rfl, rfl⟩ | ⟨rfl, rfl⟩
        · exact c0
        · exact c1
        · exact c2) (oneE fs) (by simp only [maxLen]; omega) (by omega) hbase
    exact ⟨v', w', hrun, by unfold OwnE; rw [List.length_append, cellsE_append]; exact r2, r3, r5⟩
/-- append(v, es...) at an operation of a walk -/
theorem app_elisions {ops : Array Oper} {rest : List Oper} {o : Oper} {a : Act} {Q : Exit → Act → World → Prop} (hgd : o.guard = none) (s x : Operand)
    (ho : o.op = .call { callee := .builtin .append, args := #[s, x], argTypes := #[22, 22] })
    (hs : a.eval s = v) (hown : OwnE w base v es) (m c : Nat) (hx : a.eval x = .slice A m c) (hm : m = fs.length) (hr : RE w B A fs) (hlen : es.length + fs.length ≤ 1099511627776) (hbase : base ≤ w.heap.size)
    (h : ∀ v' w', OwnE w' base v' (es ++ fs) → w.grownBy w' v.ownBlock → (v'.ownBlock = v.ownBlock ∨ v'.ownBlock = some w.heap.size) → wpList Try.prog ops Q rest (a.put o.dst v') w') :
    wpList Try.prog ops Q (o :: rest) a w := by
  subst hm
  refine wpList_plain hgd fun K hK => ?_
  obtain ⟨v', w', hrun, h2, h3, h5⟩ := app_elisions_run o.type hown hr c hlen hbase
  unfold Oper.wp execOp
  simp only [ho, resolve, invoke, builtin, Sem.run_bind, Sem.run_pure, Result.andThen_ok, List.map_toArray, List.map_cons, List.map_nil, hs, hx]
  rw [show (Builtin.append_ #[22, 22] o.type #[v, .slice A fs.length c]).run Try.prog w = .ok v' w' from hrun]
  exact hK _ _ (h v' w' h2 h3 h5)
/-- append(v, es...) at a step of a region that draws its order -/
theorem step_app_elisions {ops : Array Oper} {K : Act → World → Prop} {E : Prop} {o : Oper} {a : Act} {Q : Exit → Act → World → Prop} (hgd : o.guard = none) (s x : Operand)
    (ho : o.op = .call { callee := .builtin .append, args := #[s, x], argTypes := #[22, 22] })
    (hs : a.eval s = v) (hown : OwnE w base v es) (m c : Nat) (hx : a.eval x = .slice A m c) (hm : m = fs.length) (hr : RE w B A fs) (hlen : es.length + fs.length ≤ 1099511627776) (hbase : base ≤ w.heap.size)
    (h : ∀ v' w', OwnE w' base v' (es ++ fs) → w.grownBy w' v.ownBlock → (v'.ownBlock = v.ownBlock ∨ v'.ownBlock = some w.heap.size) → K (a.put o.dst v') w') :
    if Region.wanted o (yielded ops a.tmps) = true then Oper.wp Try.prog o a w K Q else E := by
  subst hm
  have hw : Region.wanted o (yielded ops a.tmps) = true := by simp [Region.wanted, hgd]
  rw [if_pos hw]
  obtain ⟨v', w', hrun, h2, h3, h5⟩ := app_elisions_run o.type hown hr c hlen hbase
  unfold Oper.wp execOp
  simp only [ho, resolve, invoke, builtin, Sem.run_bind, Sem.run_pure, Result.andThen_ok, List.map_toArray, List.map_cons, List.map_nil, hs, hx]
  rw [show (Builtin.append_ #[22, 22] o.type #[v, .slice A fs.length c]).run Try.prog w = .ok v' w' from hrun]
  exact h v' w' h2 h3 h5
/-- an elision alone, in a block made just now -/
theorem RE.one (w : World) (e : Ec) : RE (w.alloc (.cells #[.string e.1, .string e.2.1, .int .u64 (e.2.2 : Int)] 32)) (w.heap.size + 1) (some ⟨w.heap.size, 0, none⟩) [e] := fun k p hk => by
  have hk0 : k = 0 := by
    have := (List.getElem?_eq_some_iff.1 hk).1
    simp at this
    exact this
  subst hk0
  have e1 : p = e := by simpa using hk.symm
  subst e1
  have hc := Cells.new w #[.string p.1, .string p.2.1, .int .u64 (p.2.2 : Int)] 32
  exact ⟨_, 0, rfl, Nat.lt_succ_self _, hc.cell (i := 0) rfl, hc.cell (i := 1) rfl, hc.cell (i := 2) rfl⟩
end
end Go.Proofs.Ytghcfmkmndldoaa

/-
  Check, cmp.Or of elisions.
-/
namespace Go.Proofs.Ytghcfmkmndldoaa
open Go.RowKit Go.Sort Go.Lib

def chkE (e : Ec) : Int := if Op.bytesLess e.1.toList e.2.1.toList = true then 0 else 1
theorem chk_zero {e : Ec} : chkE e = 0 ↔ kl e.1 e.2.1 := by
  unfold chkE kl
  split
  · rename_i h; simp [h]
  · rename_i h; simp [h]
/-- a result that is a cell -/
theorem res_cell {fn : Func} {p : Tmp} {s : TypeId} (h : fn.results = #[.cell p s]) (tmps : Array Value) (w : World) (a : Addr) (u : Value) (ha : tmps.getD p undef = .pointer (some a))
    (h1 : (loadVar s a).run Try.prog w = .ok u w) : (results fn tmps).run Try.prog w = .ok u w := by
  have ha' : tmps[p]?.getD undef = .pointer (some a) := by simpa using ha
  simp [results, h, ha', asAddr, h1]
theorem load_el (w : World) (b : Nat) (e : Ec) (hc : Cells w b 32 (cellE e)) : (loadVar 32 ⟨b, 0, none⟩).run Try.prog w = .ok (eV e) w := by
  have hl := run_loadCells_list (P := Try.prog) (w := w) ⟨b, 0, none⟩ (cellE e) (fun j v hv => by
    rw [add_flat, Nat.zero_add]
    exact hc.cell hv)
  simp only [loadVar, Sem.run_bind, Try.isAgg32, Result.andThen_ok, if_true, Try.sizeOf32]
  rw [show (cellE e).length = 3 from rfl] at hl
  rw [hl]
  rfl
theorem set3 {w : World} {b : Nat} {x y z : Value} (h : Cells w b 32 [x, y, z]) (e : Ec) : Cells (((w.setCell ⟨b, 0, none⟩ (.string e.1)).setCell ⟨b, 1, none⟩ (.string e.2.1)).setCell ⟨b, 2, none⟩ (.int .u64 (e.2.2 : Int))) b 32 (cellE e) :=
  ((h.set 0 _).set 1 _).set 2 _
theorem below_set3 {B : Nat} {a w : World} (h : RowKit.Below B a w) {b : Nat} (hb : B ≤ b) (x y z : Value) : RowKit.Below B a (((w.setCell ⟨b, 0, none⟩ x).setCell ⟨b, 1, none⟩ y).setCell ⟨b, 2, none⟩ z) :=
  ((h.setCell (p := ⟨b, 0, none⟩) hb x).setCell (p := ⟨b, 1, none⟩) hb y).setCell (p := ⟨b, 2, none⟩) hb z
section
set_option maxRecDepth 100000
set_option maxHeartbeats 4000000
theorem check_any (e : Ec) (w : World) : Calls Try.prog 12 #[eV e] w fun r w' => r = .returned (.int .i64 (chkE e)) ∧ Below w.heap.size w w' := by
  have hb : Below w.heap.size w (w.alloc (.cells #[.string e.1, .string e.2.1, .int .u64 (e.2.2 : Int)] 32)) := (Below.refl _ _).alloc (Nat.le_refl _) _
  have Hb := Lib.hid hb
  have Hc : Hid (chkE e = if Op.bytesLess e.1.toList e.2.1.toList = true then 0 else 1) := rfl
  unfold eV
  generalize chkE e = ce at *
  generalize e.1 = lo at *
  generalize e.2.1 = hi at *
  cases h : Op.bytesLess lo.toList hi.toList with
  | true =>
    obtain rfl : ce = 0 := by rw [Hc.out, h]; rfl
    clear hb
    go_enter Try.func12, Try.ntmps12
    go_wp2_with fail
    go_ret
    exact ⟨rfl, Hb.out⟩
  | false =>
    obtain rfl : ce = 1 := by rw [Hc.out, h]; rfl
    clear hb
    go_enter Try.func12, Try.ntmps12
    go_wp2_with fail
    go_ret
    exact ⟨rfl, Hb.out⟩
/-- the first that is not the zero value -/
def orL (es : List Ec) : Ec := (es.find? (fun e => decide (e ≠ zeroE))).getD zeroE
theorem eV_zero : eV zeroE = .agg #[.string ⟨#[]⟩, .string ⟨#[]⟩, .int .u64 0] := rfl
theorem orL_first {es : List Ec} {i : Nat} {e : Ec} (h : ∀ k x, k < i → es[k]? = some x → x = zeroE) (he : es[i]? = some e) (h0 : e ≠ zeroE) : orL es = e := by
  induction es generalizing i with
  | nil => simp at he
  | cons a l ih =>
    unfold orL
    cases i with
    | zero =>
      simp at he
      subst he
      simp [h0]
    | succ i =>
      have ha : a = zeroE := h 0 a (Nat.succ_pos _) rfl
      rw [List.find?_cons_of_neg (by simp [ha])]
      exact ih (i := i) (fun k x hk hx => h (k + 1) x (Nat.succ_lt_succ hk) (by simpa using hx)) (by simpa using he)
theorem orL_none {es : List Ec} (h : ∀ k x, k < es.length → es[k]? = some x → x = zeroE) : orL es = zeroE := by
  unfold orL
  rw [List.find?_eq_none.2]
  · rfl
  · intro x hx
    obtain ⟨k, hk⟩ := List.getElem?_of_mem hx
    simp [h k x (List.getElem?_eq_some_iff.1 hk).1 hk]
/-- are two elisions the same? as the walk asks it -/
theorem zero_parts (e : Ec) : e ≠ zeroE ↔ ¬ ((e.1.toList == []) = true ∧ (e.2.1.toList == []) = true ∧ ((e.2.2 : Int) == 0) = true) := by
  obtain ⟨x, y, z⟩ := e
  unfold zeroE
  constructor
  · rintro h ⟨h1, h2, h3⟩
    refine h ?_
    have e1 : x = ⟨#[]⟩ := array_inj (by rw [list_of_array ⟨#[]⟩]; simpa using h1)
    have e2 : y = ⟨#[]⟩ := array_inj (by rw [list_of_array ⟨#[]⟩]; simpa using h2)
    have e3 : z = 0 := by simpa using h3
    rw [e1, e2, e3]
  · rintro h e
    cases e
    exact h ⟨by rw [list_of_array]; rfl, by rw [list_of_array]; rfl, rfl⟩
theorem zero_eqs {e : Ec} (h : e = zeroE) : (e.1.toList == []) = true ∧ (e.2.1.toList == []) = true ∧ ((e.2.2 : Int) == 0) = true := Decidable.byContradiction fun q => (zero_parts e).2 q h
theorem or_any (es : List Ec) (A : Option Addr) (c : Nat) (w : World) (hl : es.length ≤ 1099511627776) (hr : RE w w.heap.size A es) :
    Calls Try.prog 73 #[.slice A es.length c] w fun r w' => r = .returned (eV (orL es)) ∧ Below w.heap.size w w' := by
  have Hr := Lib.hid hr
  have Hlen : Hid (∀ k : Nat, k < es.length → ∃ u, es[k]? = some u) := fun k hk => ⟨_, List.getElem?_eq_getElem hk⟩
  have hl' : (es.length : Int) ≤ 1099511627776 := by omega
  have Hn : Hid ((∀ k x, k < es.length → es[k]? = some x → x = zeroE) → orL es = zeroE) := orL_none
  have Hf : Hid (∀ i e, (∀ k x, k < i → es[k]? = some x → x = zeroE) → es[i]? = some e → e ≠ zeroE → orL es = e) := fun i e => orL_first
  generalize orL es = r at *
  generalize es.length = n at *
  clear hr hl
  go_enter Try.func73, Try.ntmps73
  go_wp2_with fail
  go_loopw [8] (fun iv wr => ∃ i : Nat, iv = .int .i64 (i : Int) ∧ i ≤ n ∧ Hid ((∀ k x, k < i → es[k]? = some x → x = zeroE) ∧ Cells wr w.heap.size 32 [.string ⟨#[]⟩, .string ⟨#[]⟩, .int .u64 0] ∧ Cells wr (w.heap.size + 1) 32 [.string ⟨#[]⟩, .string ⟨#[]⟩, .int .u64 0] ∧ Below w.heap.size w wr)) (fun iv _ => n - (intOf iv).toNat)
  case atStart =>
    refine ⟨0, rfl, Nat.zero_le _, (fun k x hk => by omega), ?_, ?_, ?_⟩
    · exact (Cells.new w #[.string ⟨#[]⟩, .string ⟨#[]⟩, .int .u64 0] _).alloc _
    · have := Cells.new (w.alloc (.cells #[.string ⟨#[]⟩, .string ⟨#[]⟩, .int .u64 0] 32)) #[.string ⟨#[]⟩, .string ⟨#[]⟩, .int .u64 0] 32
      simpa using this
    · exact ((Below.refl _ _).alloc (Nat.le_refl _) _).alloc (by simp) _
  case round =>
    obtain ⟨i, rfl, hi, hst⟩ := hrel
    by_cases hlt : i < n
    · obtain ⟨e, he⟩ := Hlen.out i hlt
      obtain ⟨b, o, rfl, hblt, x0, x1, x2⟩ := (Hr.out.below hst.out.2.2.2) i e he
      have hlt' : (i : Int) < (n : Int) := by omega
      have hz := zero_parts e
      have He := Lib.hid he
      have C1 := hst.out.2.1.alloc (.cells #[.string e.1, .string e.2.1, .int .u64 (e.2.2 : Int)] 32)
      have D1 := hst.out.2.2.1.alloc (.cells #[.string e.1, .string e.2.1, .int .u64 (e.2.2 : Int)] 32)
      have c0 := C1.cell (i := 0) rfl
      have c1 := C1.cell (i := 1) rfl
      have c2 := C1.cell (i := 2) rfl
      have d0 := D1.cell (i := 0) rfl
      have d1 := D1.cell (i := 1) rfl
      have d2 := D1.cell (i := 2) rfl
      have zc := C1.frozen 0
      have zc1 := C1.frozen 1
      have zc2 := C1.frozen 2
      have HC := Lib.hid C1
      have HB : Hid (Below w.heap.size w (wr.alloc (.cells #[.string e.1, .string e.2.1, .int .u64 (e.2.2 : Int)] 32))) := hst.out.2.2.2.alloc (by have := hst.out.2.2.2.size; omega) _
      clear he hlt C1 D1
      by_cases h0 : e = zeroE
      · obtain ⟨q1, q2, q3⟩ := zero_eqs h0
        have Hs : Hid (∀ k x, k < i + 1 → es[k]? = some x → x = zeroE) := fun k x hk hx => by
          rcases Nat.lt_or_ge k i with q | q
          · exact hst.out.1 k x q hx
          · obtain rfl : k = i := by omega
            rw [He.out] at hx
            rw [← Option.some.inj hx]; exact h0
        clear h0
        go_wp2_with fail
        go_roundw
        case rel => exact ⟨i + 1, by go_num, by omega, Hs.out, hst.out.2.1.alloc _, hst.out.2.2.1.alloc _, HB.out⟩
        case measure => simp [intOf]; omega
      · have Hr2 := Lib.hid (Hf.out i e hst.out.1 He.out h0)
        have hz2 := hz.1 h0
        clear hz h0
        go_wp2_with fail
        all_goals first | exact absurd ⟨by simp only [beq_iff_eq]; assumption, by simp only [beq_iff_eq]; assumption, by simp only [beq_iff_eq]; omega⟩ hz2 | skip
        all_goals
          refine bodyPost_ret (v := eV e) (res_cell rfl _ _ _ _ rfl (load_el _ _ _ ?_)) rfl ⟨by rw [Hr2.out], ?_⟩
          · exact set3 HC.out e
          · exact below_set3 HB.out (Nat.le_refl _) _ _ _
    · obtain rfl : i = n := by omega
      have Hz := Lib.hid (Hn.out hst.out.1)
      have c0 := hst.out.2.1.cell (i := 0) rfl
      have c1 := hst.out.2.1.cell (i := 1) rfl
      have c2 := hst.out.2.1.cell (i := 2) rfl
      have d0 := hst.out.2.2.1.cell (i := 0) rfl
      have d1 := hst.out.2.2.1.cell (i := 1) rfl
      have d2 := hst.out.2.2.1.cell (i := 2) rfl
      have zc := hst.out.2.1.frozen 0
      have zc1 := hst.out.2.1.frozen 1
      have zc2 := hst.out.2.1.frozen 2
      go_wp2_with fail
      refine bodyPost_ret (v := eV zeroE) (res_cell rfl _ _ _ _ rfl (load_el _ _ _ ?_)) rfl ⟨by rw [Hz.out], ?_⟩
      · exact set3 hst.out.2.1 zeroE
      · exact below_set3 hst.out.2.2.2 (Nat.le_refl _) _ _ _
end
end Go.Proofs.Ytghcfmkmndldoaa
