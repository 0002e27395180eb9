/-
  Maps by numbers of 64 bits, whose elements are whatever values.
-/
import Derived.Test.YtejimgjonhaocaaMe1
import Derived.Maps.OwnSet
import Derived.Maps.RangeWalk
import Derived.Maps.Views
namespace Go.Proofs.Ytejimgjonhaocaa
open Go.RowKit Go.Maps

def T64 : Nat := 18446744073709551616
def kN (n : Nat) : Lit := .int .u64 (n : Int)
def kV (n : Nat) : Value := .int .u64 (n : Int)
def RV (v : Value) : Option (DataW Value × List MemPlace) := some (.held v, [])
theorem keyU : Keyed Try.prog 34 := int_keyed Try.underlying34
theorem u64_wf {n : Nat} (h : n < T64) : (Lit.int .u64 (n : Int)).wf = true := by
  unfold T64 at h
  exact WalkArith.wf_u64 (by omega)
theorem keyOf_kV {n : Nat} (h : n < T64) : keyOf Try.prog 34 (kV n) = some (kN n) := keyOf_int_mk Try.underlying34 (u64_wf h)
theorem kN_ne {n k : Nat} (h : n ≠ k) : kN n ≠ kN k := fun e => h (by unfold kN at e; injection e with _ e; omega)
/-- what a number has -/
abbrev Gm := Nat → Option Value
def updG (g : Gm) (n : Nat) (x : Option Value) : Gm := fun k => if k = n then x else g k
theorem updG_same (g : Gm) (n : Nat) (x : Option Value) : updG g n x n = x := if_pos rfl
theorem updG_other (g : Gm) {n k : Nat} (x : Option Value) (h : k ≠ n) : updG g n x k = g k := if_neg h
structure VwU (D : DataW Value) (g : Gm) : Prop where
  has : ∀ n, n < T64 → Maps.has D (kN n) = (g n).isSome
  atk : ∀ n, n < T64 → ∀ z, D.atKey (kN n) z = (match g n with | some v => .held v | none => z)
  only : ∀ kl, Maps.has D kl = true → ∃ n, n < T64 ∧ kl = kN n
/-- BLOCK b IS A MAP that has g, of at most N entries -/
def MapV (w : World) (b : Nat) (g : Gm) (N : Nat) : Prop := ∃ D, w.ownsMap Try.prog 34 RV b N D ∧ VwU D g
section
variable {w w' : World} {b N M : Nat} {e t : TypeId} {g : Gm} {D : DataW Value}
theorem kN_lit {n : Nat} (h : n < T64) : Go.WideAt.IsKeyLit (kN n) := keyU.key (keyOf_kV h)
theorem VwU.put (h : VwU D g) (T : IsMap D) {n : Nat} (hn : n < T64) (v : Value) : VwU (D.put (kN n) (.held v)) (updG g n (some v)) := by
  have kl := kN_lit hn
  refine ⟨fun k hk => ?_, fun k hk z => ?_, fun l hl => ?_⟩
  · by_cases q : k = n
    · subst q; rw [has_put_same T kl, updG_same]; rfl
    · rw [has_put_other (kN_ne q), updG_other _ _ q]; exact h.has k hk
  · by_cases q : k = n
    · subst q; rw [atKey_put_same T kl, updG_same]
    · rw [atKey_put_other (kN_ne q), updG_other _ _ q]; exact h.atk k hk z
  · by_cases q : l = kN n
    · exact ⟨n, hn, q⟩
    · rw [has_put_other q] at hl; exact h.only l hl
theorem VwU.del (h : VwU D g) {n : Nat} (hn : n < T64) : VwU (D.del (kN n)) (updG g n none) := by
  refine ⟨fun k hk => ?_, fun k hk z => ?_, fun l hl => ?_⟩
  · by_cases q : k = n
    · subst q; rw [has_del_same, updG_same]; rfl
    · rw [has_del_other (kN_ne q), updG_other _ _ q]; exact h.has k hk
  · by_cases q : k = n
    · subst q; rw [atKey_of_not_has has_del_same, updG_same]
    · rw [atKey_del_other (kN_ne q), updG_other _ _ q]; exact h.atk k hk z
  · by_cases q : l = kN n
    · subst q; rw [has_del_same] at hl; cases hl
    · rw [has_del_other q] at hl; exact h.only l hl
theorem VwU.empty : VwU (.map []) (fun _ => none) := ⟨fun _ _ => rfl, fun _ _ _ => rfl, fun _ h => by cases h⟩
theorem MapV.mono (h : MapV w b g N) (hn : N ≤ M) : MapV w b g M := by obtain ⟨D, h1, h2⟩ := h; exact ⟨D, h1.mono hn, h2⟩
theorem MapV.lt (h : MapV w b g N) : b < w.heap.size := by obtain ⟨D, h1, _⟩ := h; exact h1.lt
theorem MapV.move (h : MapV w b g N) (hk : w'.heap[b]? = w.heap[b]?) : MapV w' b g N := by
  obtain ⟨D, ⟨es, clock, hb, r⟩, h2⟩ := h
  exact ⟨D, ⟨es, clock, hk.trans hb, r⟩, h2⟩
theorem MapV.alloc (h : MapV w b g N) (o : Obj) : MapV (w.alloc o) b g N := h.move (Below.heap_alloc w o b h.lt)
theorem MapV.drewN (h : MapV w b g N) (n : Nat) : MapV (w.drewN n) b g N := h
theorem MapV.below (h : MapV w b g N) (hb : Below w.heap.size w w') : MapV w' b g N := h.move (hb.block b h.lt)
theorem MapV.not_cells (h : MapV w b g N) {cs : Array Value} {t : TypeId} {x : Nat × Nat} : w.heap[b]? ≠ some (.cells cs t x) := fun q => by
  obtain ⟨D, ⟨es, clock, hb, _⟩, _⟩ := h
  rw [hb] at q; cases q
theorem MapV.made (w : World) : MapV (w.alloc (.map #[] 0)) w.heap.size (fun _ => none) 0 := ⟨.map [], World.ownsMap_made w _ _ _, VwU.empty⟩
/-- v, ok := m[n] -/
theorem MapV.look (h : MapV w b g N) (ht : Try.prog.underlying t = some (.map 34 e)) {z : Value} (hz : (zeroValue e).run Try.prog w = .ok z w) {n : Nat} (hn : n < T64) :
    (Instr.lookup t (.map (some b)) (kV n) true).run Try.prog w = .ok (.tuple #[(g n).getD z, .bool (g n).isSome]) w := by
  obtain ⟨D, h1, h2⟩ := h
  obtain ⟨v, ps, hrun, hv⟩ := h1.look_ok keyU ht hz (zd := .held z) (zp := []) rfl (keyOf_kV hn)
  rw [h2.has n hn] at hrun
  rw [h2.atk n hn] at hv
  rw [hrun]
  have hv : DataW.held v = _ := congrArg Prod.fst (Option.some.inj hv)
  cases q : g n with
  | none => rw [q] at hv; have := DataW.held.inj hv; subst this; rfl
  | some u => rw [q] at hv; have := DataW.held.inj hv; subst this; rfl
/-- v := m[n] -/
theorem MapV.look1 (h : MapV w b g N) (ht : Try.prog.underlying t = some (.map 34 e)) {z : Value} (hz : (zeroValue e).run Try.prog w = .ok z w) {n : Nat} (hn : n < T64) :
    (Instr.lookup t (.map (some b)) (kV n) false).run Try.prog w = .ok ((g n).getD z) w := by
  obtain ⟨D, h1, h2⟩ := h
  obtain ⟨v, ps, hrun, hv⟩ := h1.lookup keyU ht hz (zd := .held z) (zp := []) rfl (keyOf_kV hn)
  rw [h2.atk n hn] at hv
  rw [hrun]
  have hv : DataW.held v = _ := congrArg Prod.fst (Option.some.inj hv)
  cases q : g n with
  | none => rw [q] at hv; have := DataW.held.inj hv; subst this; rfl
  | some u => rw [q] at hv; have := DataW.held.inj hv; subst this; rfl
/-- m[n] = v -/
theorem MapV.store (h : MapV w b g N) (ht : Try.prog.underlying t = some (.map 34 e)) (hN : N < 1000000) {n : Nat} (hn : n < T64) (v : Value) :
    ∃ w', (Instr.mapUpdate t (.map (some b)) (kV n) v).run Try.prog w = .ok () w' ∧ MapV w' b (updG g n (some v)) (N + 1) ∧ w.mapTurned w' b := by
  obtain ⟨D, h1, h2⟩ := h
  obtain ⟨w1, hrun, q1, q2⟩ := h1.store keyU ht (Nat.lt_trans hN (by decide)) (keyOf_kV hn) (val := v) (d := .held v) (ps := []) rfl
  exact ⟨w1, hrun, ⟨_, q1, h2.put h1.isMap hn v⟩, q2⟩
/-- delete(m, n) -/
theorem MapV.drop (h : MapV w b g N) (ht : Try.prog.underlying t = some (.map 34 e)) {n : Nat} (hn : n < T64) (ty : TypeId) :
    ∃ w', (Builtin.delete_ #[t, 34] ty #[.map (some b), kV n]).run Try.prog w = .ok (.tuple #[]) w' ∧ MapV w' b (updG g n none) N ∧ w.mapTurned w' b := by
  obtain ⟨D, h1, h2⟩ := h
  obtain ⟨w1, hrun, q1, q2⟩ := h1.drop keyU ht (keyOf_kV hn) ty
  exact ⟨w1, hrun, ⟨_, q1, h2.del hn⟩, q2⟩
end

/-! at an operation of a walk -/
section
variable {w : World} {ops : Array Oper} {rest : List Oper} {o : Oper} {a : Act} {Q : Exit → Act → World → Prop} {b N : Nat} {e t : TypeId} {g : Gm}
theorem mv_store (hg : o.guard = none) (m x v : Operand) (hop : o.op = Op.mapUpdate t m x v) (ht : Try.prog.underlying t = some (.map 34 e)) (h : MapV w b g N) (hN : N < 1000000) {n : Nat} (hn : n < T64) (val : Value)
    (hm : a.eval m = .map (some b)) (hx : a.eval x = .int .u64 (n : Int)) (hv : a.eval v = val)
    (hK : ∀ w', MapV w' b (updG g n (some val)) (N + 1) → w.mapTurned w' b → wpList Try.prog ops Q rest (a.put o.dst undef) w') : wpList Try.prog ops Q (o :: rest) a w := by
  refine wpList_plain hg fun K' hK' => ?_
  obtain ⟨w', hrun, r1, r2⟩ := h.store ht hN hn val
  unfold Oper.wp
  unfold kV at hrun
  simp [execOp, hop, hm, hx, hv, hrun, Result.andThen]
  exact hK' _ _ (hK w' r1 r2)
theorem mv_drop (hg : o.guard = none) (m x : Operand) (hop : o.op = Op.call { callee := Callee.builtin Builtin.delete, args := #[m, x], argTypes := #[t, 34] }) (ht : Try.prog.underlying t = some (.map 34 e)) (h : MapV w b g N) {n : Nat} (hn : n < T64)
    (hm : a.eval m = .map (some b)) (hx : a.eval x = .int .u64 (n : Int))
    (hK : ∀ w', MapV w' b (updG g n none) N → w.mapTurned w' b → wpList Try.prog ops Q rest (a.put o.dst (.tuple #[])) w') : wpList Try.prog ops Q (o :: rest) a w := by
  refine wpList_plain hg fun K' hK' => ?_
  obtain ⟨w', hrun, r1, r2⟩ := h.drop ht hn o.type
  unfold kV at hrun
  unfold Oper.wp
  simp [execOp, hop, resolve, invoke, builtin, hm, hx, hrun, Result.andThen]
  exact hK' _ _ (hK w' r1 r2)
end
end Go.Proofs.Ytejimgjonhaocaa
