/-
  Maps keyed by units, as plain data.
-/
import Derived.Test.YtajpnjapfiffmaaAlKey
import Derived.Test.YtajpnjapfiffmaaAlMath
namespace Go.Proofs.Ytajpnjapfiffmaa
open Go.RowKit Go.Maps

/-- what a unit's key has: nothing, or a plain datum -/
abbrev Um := Nat → Nat → Option (DataW Unit)
def isU (f : Um) : Nat → Nat → Bool := fun d z => (f d z).isSome
structure Vw (D : DataW Unit) (f : Um) (A B : Nat) : Prop where
  has : ∀ d z : Nat, d < 1000000 → z < 1000000 → Maps.has D (uk d z) = (f d z).isSome
  atk : ∀ d z : Nat, d < 1000000 → z < 1000000 → ∀ zd, D.atKey (uk d z) zd = (f d z).getD zd
  only : ∀ kl, Maps.has D kl = true → ∃ d z : Nat, d < A ∧ z < B ∧ kl = uk d z
  size : Maps.size D = tot (isU f) A B
  ha : A ≤ 1000
  hb : B ≤ 10000
/-- BLOCK b IS A MAP OF UNITS that has f; its elements are e's -/
def UM (w : World) (b : Nat) (e : TypeId) (f : Um) (A B : Nat) : Prop := ∃ D, w.ownsMap Try.prog 24 (plainElem Try.prog e) b (Maps.size D) D ∧ Vw D f A B

theorem bool_inv {P : Program} {e : TypeId} (he : P.underlying e = some .bool) {v : Value} {z : DataW Unit × List MemPlace} (h : plainElem P e v = some z) : ∃ x, v = .bool x ∧ z = (.lit (.bool x), []) := by
  unfold plainElem at h
  rw [he] at h
  cases v <;> simp at h
  exact ⟨_, rfl, h.symm⟩
theorem i64_nat {n : Nat} (h : n < 1000000) : I64 (n : Int) := ⟨by omega, by omega⟩
theorem keyN {d z : Nat} (hd : d < 1000000) (hz : z < 1000000) : keyOf Try.prog 24 (uV d z) = some (uk d z) := keyOf_unit (i64_nat hd) (i64_nat hz)
theorem keyLit {d z : Nat} (hd : d < 1000000) (hz : z < 1000000) : Go.WideAt.IsKeyLit (uk d z) := keyLaw.key (keyN hd hz)
theorem uk_ne {d z d' z' : Nat} (hd : d < 1000000) (hz : z < 1000000) (hd' : d' < 1000000) (hz' : z' < 1000000) (h : ¬ (d' = d ∧ z' = z)) : uk d' z' ≠ uk d z := fun e => by
  have := uk_inj (i64_nat hd') (i64_nat hz') (i64_nat hd) (i64_nat hz) e
  exact h ⟨by omega, by omega⟩
theorem tight {w : World} {e : TypeId} {b n : Nat} {D : DataW Unit} (h : w.ownsMap Try.prog 24 (plainElem Try.prog e) b n D) : w.ownsMap Try.prog 24 (plainElem Try.prog e) b (Maps.size D) D := by
  obtain ⟨es, clock, hb, F, _, rfl⟩ := h
  exact ⟨es, clock, hb, F, by simp [Maps.size, length_sorted], rfl⟩

section
variable {w w' : World} {b A B : Nat} {e t : TypeId} {f : Um} {D : DataW Unit}
theorem Vw.put (h : Vw D f A B) (T : Tidy D) {d z : Nat} (hd : d < A) (hz : z < B) (x : DataW Unit) : Vw (D.put (uk d z) x) (upd f d z (some x)) A B := by
  have hA := h.ha
  have hB := h.hb
  have kl := keyLit (d := d) (z := z) (by omega) (by omega)
  refine ⟨fun d' z' hd' hz' => ?_, fun d' z' hd' hz' zd => ?_, fun k hk => ?_, ?_, hA, hB⟩
  · by_cases q : d' = d ∧ z' = z
    · obtain ⟨rfl, rfl⟩ := q
      rw [has_put_same T.isMap kl, upd_same]; rfl
    · rw [has_put_other (uk_ne (by omega) (by omega) hd' hz' q), upd_other _ _ q]
      exact h.has d' z' hd' hz'
  · by_cases q : d' = d ∧ z' = z
    · obtain ⟨rfl, rfl⟩ := q
      rw [atKey_put_same T.isMap kl, upd_same]; rfl
    · rw [atKey_put_other (uk_ne (by omega) (by omega) hd' hz' q), upd_other _ _ q]
      exact h.atk d' z' hd' hz' zd
  · by_cases q : k = uk d z
    · exact ⟨d, z, hd, hz, q⟩
    · rw [has_put_other q] at hk
      exact h.only k hk
  · have ht := tot_set (p := isU f) (q := isU (upd f d z (some x))) (d := d) (z := z) (A := A) (B := B) (fun d' z' q => by simp only [isU, upd_other _ _ q]) hd hz
    rw [size_put T, h.has d z (by omega) (by omega), h.size]
    simp only [isU, upd_same, b2n, Option.isSome_some, if_true] at ht
    have hs : tot (isU f) A B = tot (fun d z => (f d z).isSome) A B := rfl
    have hs2 : tot (isU (upd f d z (some x))) A B = tot (fun d' z' => (upd f d z (some x) d' z').isSome) A B := rfl
    rw [hs, hs2]
    split <;> rename_i q <;> simp only [q, if_true] at ht <;> simp at ht <;> omega
theorem Vw.del (h : Vw D f A B) (T : Tidy D) {d z : Nat} (hd : d < A) (hz : z < B) : Vw (D.del (uk d z)) (upd f d z none) A B := by
  have hA := h.ha
  have hB := h.hb
  have kl := keyLit (d := d) (z := z) (by omega) (by omega)
  refine ⟨fun d' z' hd' hz' => ?_, fun d' z' hd' hz' zd => ?_, fun k hk => ?_, ?_, hA, hB⟩
  · by_cases q : d' = d ∧ z' = z
    · obtain ⟨rfl, rfl⟩ := q
      rw [has_del_same, upd_same]; rfl
    · rw [has_del_other (uk_ne (by omega) (by omega) hd' hz' q), upd_other _ _ q]
      exact h.has d' z' hd' hz'
  · by_cases q : d' = d ∧ z' = z
    · obtain ⟨rfl, rfl⟩ := q
      rw [atKey_of_not_has has_del_same, upd_same]; rfl
    · rw [atKey_del_other (uk_ne (by omega) (by omega) hd' hz' q), upd_other _ _ q]
      exact h.atk d' z' hd' hz' zd
  · by_cases q : k = uk d z
    · exact ⟨d, z, hd, hz, q⟩
    · rw [has_del_other q] at hk
      exact h.only k hk
  · have ht := tot_set (p := isU f) (q := isU (upd f d z none)) (d := d) (z := z) (A := A) (B := B) (fun d' z' q => by simp only [isU, upd_other _ _ q]) hd hz
    have hs := size_del (k := uk d z) T
    rw [h.has d z (by omega) (by omega), h.size] at hs
    simp only [isU, upd_same, b2n, Option.isSome_none] at ht
    have hs1 : tot (isU f) A B = tot (fun d z => (f d z).isSome) A B := rfl
    have hs2 : tot (isU (upd f d z none)) A B = tot (fun d' z' => (upd f d z none d' z').isSome) A B := rfl
    rw [hs2]
    rw [hs1] at hs
    split at hs <;> rename_i q <;> simp only [q] at ht <;> simp at ht <;> omega
theorem Vw.empty (A B : Nat) (hA : A ≤ 1000) (hB : B ≤ 10000) : Vw (.map []) (fun _ _ => none) A B :=
  ⟨fun _ _ _ _ => rfl, fun _ _ _ _ _ => rfl, fun kl h => (by cases h), by
    have : isU (fun _ _ => none) = fun _ _ => false := rfl
    rw [this, tot_none]; rfl, hA, hB⟩

theorem UM.lt (h : UM w b e f A B) : b < w.heap.size := by obtain ⟨D, h1, _⟩ := h; exact h1.lt
theorem UM.kept {row : Option Nat} (h : UM w b e f A B) (hg : w.grownBy w' row) (hne : some b ≠ row) : UM w' b e f A B := by obtain ⟨D, h1, h2⟩ := h; exact ⟨D, h1.kept hg hne, h2⟩
theorem UM.move (h : UM w b e f A B) (hk : w'.heap[b]? = w.heap[b]?) : UM w' b e f A B := by
  obtain ⟨D, ⟨es, clock, hb, r⟩, h2⟩ := h
  exact ⟨D, ⟨es, clock, hk.trans hb, r⟩, h2⟩
theorem UM.alloc (h : UM w b e f A B) (o : Obj) : UM (w.alloc o) b e f A B := h.move (Below.heap_alloc w o b h.lt)
theorem UM.drewN (h : UM w b e f A B) (n : Nat) : UM (w.drewN n) b e f A B := h
theorem UM.below (h : UM w b e f A B) (hb : Below w.heap.size w w') : UM w' b e f A B := h.move (hb.block b h.lt)
theorem UM.not_cells (h : UM w b e f A B) {cs : Array Value} {t : TypeId} {x : Nat × Nat} : w.heap[b]? ≠ some (.cells cs t x) := fun q => by
  obtain ⟨D, ⟨es, clock, hb, _⟩, _⟩ := h
  rw [hb] at q; cases q
/-- a new map -/
theorem UM.made (w : World) (e : TypeId) (A B : Nat) (hA : A ≤ 1000) (hB : B ≤ 10000) : UM (w.alloc (.map #[] 0)) w.heap.size e (fun _ _ => none) A B :=
  ⟨.map [], World.ownsMap_made w _ _ _, Vw.empty A B hA hB⟩
/-- m[u], elements being numbers -/
theorem UM.look (h : UM w b 3 f A B) (ht : Try.prog.underlying t = some (.map 24 3)) {d z : Nat} (hd : d < 1000000) (hz : z < 1000000) {c : Int} (hc : (f d z).getD (.lit (.int .i64 0)) = .lit (.int .i64 c)) :
    (Instr.lookup t (.map (some b)) (uV d z) false).run Try.prog w = .ok (.int .i64 c) w := by
  obtain ⟨D, h1, h2⟩ := h
  obtain ⟨c', hrun, hat, _⟩ := h1.lookup_int keyLaw ht Try.underlying3 (by kernel_rfl) (keyN hd hz)
  rw [h2.atk d z hd hz, hc] at hat
  have : c = c' := by simpa using hat
  rw [this]; exact hrun
/-- m[u], elements being bools -/
theorem UM.lookB (h : UM w b 4 f A B) (ht : Try.prog.underlying t = some (.map 24 4)) {d z : Nat} (hd : d < 1000000) (hz : z < 1000000) {c : Bool} (hc : (f d z).getD (.lit (.bool false)) = .lit (.bool c)) :
    (Instr.lookup t (.map (some b)) (uV d z) false).run Try.prog w = .ok (.bool c) w := by
  obtain ⟨D, h1, h2⟩ := h
  obtain ⟨v, ps, hrun, hv⟩ := h1.lookup keyLaw ht (z := .bool false) (by kernel_rfl) (plainElem_bool Try.underlying4 false) (keyN hd hz)
  rw [h2.atk d z hd hz, hc] at hv
  obtain ⟨x, rfl, hz'⟩ := bool_inv Try.underlying4 hv
  rw [hrun]
  simp at hz'
  rw [hz'.1]
/-- m[u] = v -/
theorem UM.store (h : UM w b e f A B) (ht : Try.prog.underlying t = some (.map 24 e)) {d z : Nat} (hd : d < A) (hz : z < B) {v : Value} {x : DataW Unit} (hv : plainElem Try.prog e v = some (x, [])) :
    ∃ w', (Instr.mapUpdate t (.map (some b)) (uV d z) v).run Try.prog w = .ok () w' ∧ UM w' b e (upd f d z (some x)) A B ∧ w.mapTurned w' b := by
  obtain ⟨D, h1, h2⟩ := h
  have hA := h2.ha
  have hB := h2.hb
  have hn : Maps.size D < maxLen := by
    rw [h2.size]
    exact Nat.lt_of_le_of_lt (Nat.le_trans (tot_le (isU f) A B) (Nat.mul_le_mul hA hB)) (by decide)
  obtain ⟨w1, hrun, q1, q2⟩ := h1.store keyLaw ht hn (keyN (d := d) (z := z) (by omega) (by omega)) hv
  exact ⟨w1, hrun, ⟨_, tight q1, h2.put (h1.tidy keyLaw) hd hz x⟩, q2⟩
/-- delete(m, u) -/
theorem UM.drop (h : UM w b e f A B) (ht : Try.prog.underlying t = some (.map 24 e)) {d z : Nat} (hd : d < A) (hz : z < B) (ty : TypeId) :
    ∃ w', (Builtin.delete_ #[t, 24] ty #[.map (some b), uV d z]).run Try.prog w = .ok (.tuple #[]) w' ∧ UM w' b e (upd f d z none) A B ∧ w.mapTurned w' b := by
  obtain ⟨D, h1, h2⟩ := h
  have hA := h2.ha
  have hB := h2.hb
  obtain ⟨w1, hrun, q1, q2⟩ := h1.drop keyLaw ht (keyN (d := d) (z := z) (by omega) (by omega)) ty
  exact ⟨w1, hrun, ⟨_, tight q1, h2.del (h1.tidy keyLaw) hd hz⟩, q2⟩
/-- len(m) -/
theorem UM.len (h : UM w b e f A B) (ht : Try.prog.underlying t = some (.map 24 e)) (ty : TypeId) : (Builtin.len_ #[t] ty #[.map (some b)]).run Try.prog w = .ok (.int .i64 (tot (isU f) A B : Nat)) w := by
  obtain ⟨D, h1, h2⟩ := h
  rw [h1.len ht ty, h2.size]
end

/-! at an operation of a walk -/
section
variable {w : World} {ops : Array Oper} {rest : List Oper} {o : Oper} {a : Act} {Q : Exit → Act → World → Prop} {b A B : Nat} {e t : TypeId} {f : Um}
theorem um_store (hg : o.guard = none) (m x v : Operand) (hop : o.op = Op.mapUpdate t m x v) (ht : Try.prog.underlying t = some (.map 24 e)) (h : UM w b e f A B) {d z : Nat} (hd : d < A) (hz : z < B) (val : Value) (dv : DataW Unit) (hval : plainElem Try.prog e val = some (dv, []))
    (hm : a.eval m = .map (some b)) (hx : a.eval x = uV d z) (hv : a.eval v = val)
    (hK : ∀ w', UM w' b e (upd f d z (some dv)) A B → w.mapTurned w' b → wpList Try.prog ops Q rest (a.put o.dst undef) w') : wpList Try.prog ops Q (o :: rest) a w := by
  refine wpList_plain hg fun K' hK' => ?_
  obtain ⟨w', hrun, r1, r2⟩ := h.store ht hd hz hval
  unfold Oper.wp
  simp [execOp, hop, hm, hx, hv, hrun, Result.andThen]
  exact hK' _ _ (hK w' r1 r2)
theorem um_drop (hg : o.guard = none) (m x : Operand) (hop : o.op = Op.call { callee := Callee.builtin Builtin.delete, args := #[m, x], argTypes := #[t, 24] }) (ht : Try.prog.underlying t = some (.map 24 e)) (h : UM w b e f A B) {d z : Nat} (hd : d < A) (hz : z < B)
    (hm : a.eval m = .map (some b)) (hx : a.eval x = uV d z)
    (hK : ∀ w', UM w' b e (upd f d z none) A B → w.mapTurned w' b → wpList Try.prog ops Q rest (a.put o.dst (.tuple #[])) w') : wpList Try.prog ops Q (o :: rest) a w := by
  refine wpList_plain hg fun K' hK' => ?_
  obtain ⟨w', hrun, r1, r2⟩ := h.drop ht hd hz o.type
  unfold Oper.wp
  simp [execOp, hop, resolve, invoke, builtin, hm, hx, hrun, Result.andThen]
  exact hK' _ _ (hK w' r1 r2)
end
end Go.Proofs.Ytajpnjapfiffmaa

/-
  A table in memory; what only reads it.
-/
namespace Go.Proofs.Ytajpnjapfiffmaa
open Go.RowKit Go.Maps

/-- the drives' rows: how many have each state, the lowest free one -/
def DC (w : World) (db D : Nat) (c : Nat → Nat → Int) (l : Nat → Int) : Prop :=
  ∃ cur : Array Value, w.heap[db]? = some (.cells cur 64 (0, 0)) ∧ ∀ d, d < D → (∀ k, k < 4 → cur[6 * d + k]? = some (.int .i64 (c d k))) ∧ cur[6 * d + 4]? = some (.int .i64 (d : Int)) ∧ cur[6 * d + 5]? = some (.int .i64 (l d))
section
variable {w w' : World} {db D : Nat} {c c' : Nat → Nat → Int} {l l' : Nat → Int}
theorem DC.lt (h : DC w db D c l) : db < w.heap.size := by obtain ⟨cur, h1, _⟩ := h; exact (Array.getElem?_eq_some_iff.1 h1).1
theorem DC.move (h : DC w db D c l) (e : w'.heap[db]? = w.heap[db]?) : DC w' db D c l := by obtain ⟨cur, h1, h2⟩ := h; exact ⟨cur, e.trans h1, h2⟩
theorem DC.congr (h : DC w db D c l) (hc : ∀ d k, d < D → k < 4 → c' d k = c d k) (hl : ∀ d, d < D → l' d = l d) : DC w db D c' l' := by
  obtain ⟨cur, h1, h2⟩ := h
  refine ⟨cur, h1, fun d hd => ⟨fun k hk => ?_, (h2 d hd).2.1, ?_⟩⟩
  · rw [hc d k hd hk]; exact (h2 d hd).1 k hk
  · rw [hl d hd]; exact (h2 d hd).2.2
theorem DC.cell (h : DC w db D c l) {d k : Nat} (hd : d < D) (hk : k < 4) : w.cell? ⟨db, 6 * d + k, none⟩ = some (.int .i64 (c d k)) := by
  obtain ⟨cur, h1, h2⟩ := h
  simp [World.cell?, h1, (h2 d hd).1 k hk]
theorem DC.cellD (h : DC w db D c l) {d : Nat} (hd : d < D) : w.cell? ⟨db, 6 * d + 4, none⟩ = some (.int .i64 (d : Int)) := by
  obtain ⟨cur, h1, h2⟩ := h
  simp [World.cell?, h1, (h2 d hd).2.1]
theorem DC.cellL (h : DC w db D c l) {d : Nat} (hd : d < D) : w.cell? ⟨db, 6 * d + 5, none⟩ = some (.int .i64 (l d)) := by
  obtain ⟨cur, h1, h2⟩ := h
  simp [World.cell?, h1, (h2 d hd).2.2]
theorem DC.frozen (h : DC w db D c l) (i : Nat) : w.frozen? ⟨db, i, none⟩ = false := by
  obtain ⟨cur, h1, h2⟩ := h
  simp [World.frozen?, h1]
theorem DC.set (h : DC w db D c l) {d k : Nat} (hd : d < D) (hk : k < 4) (x : Int) : DC (w.setCell ⟨db, 6 * d + k, none⟩ (.int .i64 x)) db D (upd c d k x) l := by
  obtain ⟨cur, h1, h2⟩ := h
  refine ⟨cur.setIfInBounds (6 * d + k) (.int .i64 x), ?_, fun d' hd' => ⟨fun k' hk' => ?_, ?_, ?_⟩⟩
  · simp [World.setCell, Array.getElem?_modify, h1]
  · have hold := (h2 d hd).1 k hk
    have hsz := (Array.getElem?_eq_some_iff.1 hold).1
    by_cases q : d' = d ∧ k' = k
    · obtain ⟨rfl, rfl⟩ := q
      rw [upd_same, Array.getElem?_setIfInBounds_self_of_lt hsz]
    · rw [upd_other _ _ q, Array.getElem?_setIfInBounds_ne (by omega)]
      exact (h2 d' hd').1 k' hk'
  · rw [Array.getElem?_setIfInBounds_ne (by omega)]; exact (h2 d' hd').2.1
  · rw [Array.getElem?_setIfInBounds_ne (by omega)]; exact (h2 d' hd').2.2
theorem DC.setL (h : DC w db D c l) {d : Nat} (hd : d < D) (x : Int) : DC (w.setCell ⟨db, 6 * d + 5, none⟩ (.int .i64 x)) db D c (fun d' => if d' = d then x else l d') := by
  obtain ⟨cur, h1, h2⟩ := h
  refine ⟨cur.setIfInBounds (6 * d + 5) (.int .i64 x), ?_, fun d' hd' => ⟨fun k' hk' => ?_, ?_, ?_⟩⟩
  · simp [World.setCell, Array.getElem?_modify, h1]
  · rw [Array.getElem?_setIfInBounds_ne (by omega)]; exact (h2 d' hd').1 k' hk'
  · rw [Array.getElem?_setIfInBounds_ne (by omega)]; exact (h2 d' hd').2.1
  · have hsz := (Array.getElem?_eq_some_iff.1 (h2 d hd).2.2).1
    show _ = some (Value.int .i64 (if d' = d then x else l d'))
    by_cases q : d' = d
    · subst q
      rw [if_pos rfl, Array.getElem?_setIfInBounds_self_of_lt hsz]
    · rw [if_neg q, Array.getElem?_setIfInBounds_ne (by omega)]
      exact (h2 d' hd').2.2
end

/-- the states as a map has them -/
def stU (g : St) : Um := fun d z => if g d z = 0 then none else some (.lit (.int .i64 (g d z : Nat)))
theorem stU_zero (g : St) (d z : Nat) : stU (upd g d z 0) = upd (stU g) d z none := by
  funext d' z'
  by_cases q : d' = d ∧ z' = z
  · obtain ⟨rfl, rfl⟩ := q; simp [stU, upd]
  · simp [stU, upd_other _ _ q]
theorem stU_set (g : St) (d z k : Nat) (hk : k ≠ 0) : stU (upd g d z k) = upd (stU g) d z (some (.lit (.int .i64 (k : Nat)))) := by
  funext d' z'
  by_cases q : d' = d ∧ z' = z
  · obtain ⟨rfl, rfl⟩ := q; simp [stU, upd, hk]
  · simp [stU, upd_other _ _ q]
theorem stU_get (g : St) (d z : Nat) : (stU g d z).getD (.lit (.int .i64 0)) = .lit (.int .i64 (g d z : Nat)) := by
  unfold stU
  split
  · rename_i h; simp [h]
  · rfl

/-- A TABLE at tb -/
structure TabAt (w : World) (tb db mb cap D Z : Nat) (g : St) : Prop where
  d1 : 1 ≤ D
  d2 : D ≤ 32
  z1 : 1 ≤ Z
  z2 : Z ≤ 4096
  hcap : D ≤ cap
  tc : Cells w tb 61 [.int .i64 (Z : Int), .slice (some ⟨db, 0, none⟩) D cap, .map (some mb)]
  dc : DC w db D (fun d k => (cnt (g d) k Z : Nat)) (fun d => (low (g d) Z : Nat))
  mc : UM w mb 3 (stU g) D Z
  le : ∀ d z, g d z ≤ 3
  out : ∀ d z, ¬ (d < D ∧ z < Z) → g d z = 0
section
variable {w w' : World} {tb db mb cap D Z : Nat} {g : St}
theorem TabAt.move (h : TabAt w tb db mb cap D Z g) (e1 : w'.heap[tb]? = w.heap[tb]?) (e2 : w'.heap[db]? = w.heap[db]?) (e3 : w'.heap[mb]? = w.heap[mb]?) : TabAt w' tb db mb cap D Z g :=
  ⟨h.d1, h.d2, h.z1, h.z2, h.hcap, h.tc.move e1, h.dc.move e2, h.mc.move e3, h.le, h.out⟩
theorem TabAt.below (h : TabAt w tb db mb cap D Z g) (hb : Below w.heap.size w w') : TabAt w' tb db mb cap D Z g :=
  h.move (hb.block _ h.tc.lt) (hb.block _ h.dc.lt) (hb.block _ h.mc.lt)
theorem TabAt.kept {K : Nat → Prop} (h : TabAt w tb db mb cap D Z g) (hk : Kept K w w') (k1 : K tb) (k2 : K db) (k3 : K mb) : TabAt w' tb db mb cap D Z g :=
  h.move (hk.block _ h.tc.lt k1) (hk.block _ h.dc.lt k2) (hk.block _ h.mc.lt k3)
theorem TabAt.drewN (h : TabAt w tb db mb cap D Z g) (n : Nat) : TabAt (w.drewN n) tb db mb cap D Z g := h.move rfl rfl rfl
theorem TabAt.drew (h : TabAt w tb db mb cap D Z g) : TabAt w.drew tb db mb cap D Z g := h.move rfl rfl rfl
theorem TabAt.alloc (h : TabAt w tb db mb cap D Z g) (o : Obj) : TabAt (w.alloc o) tb db mb cap D Z g := h.below ((Below.refl _ _).alloc (Nat.le_refl _) _)
theorem TabAt.tb_db (h : TabAt w tb db mb cap D Z g) : tb ≠ db := fun e => by
  obtain ⟨cur, h1, _⟩ := h.dc
  have := h.tc
  unfold Cells at this
  rw [e, h1] at this
  simp at this
theorem TabAt.tb_mb (h : TabAt w tb db mb cap D Z g) : tb ≠ mb := fun e => h.mc.not_cells (e ▸ h.tc)
theorem TabAt.db_mb (h : TabAt w tb db mb cap D Z g) : db ≠ mb := fun e => by
  obtain ⟨cur, h1, _⟩ := h.dc
  exact h.mc.not_cells (e ▸ h1)
theorem TabAt.z0 (h : TabAt w tb db mb cap D Z g) : w.cell? ⟨tb, 0, none⟩ = some (.int .i64 (Z : Int)) := h.tc.cell rfl
theorem TabAt.t1 (h : TabAt w tb db mb cap D Z g) : w.cell? ⟨tb, 1, none⟩ = some (.slice (some ⟨db, 0, none⟩) D cap) := h.tc.cell rfl
theorem TabAt.m2 (h : TabAt w tb db mb cap D Z g) : w.cell? ⟨tb, 2, none⟩ = some (.map (some mb)) := h.tc.cell rfl
/-- how many are free on a drive; 0 of one that there is not -/
def freeOn (g : St) (D Z : Nat) (x : Int) : Nat := if 0 ≤ x ∧ x < D then cnt (g x.toNat) 0 Z else 0
theorem freeOn_nat (g : St) {D Z d : Nat} (h : d < D) : freeOn g D Z (d : Int) = cnt (g d) 0 Z := by
  unfold freeOn; rw [if_pos ⟨by omega, by omega⟩]; simp
/-- is there such a unit? -/
def isUnit (D Z : Nat) (x y : Int) : Bool := decide (0 ≤ x ∧ x < D ∧ 0 ≤ y ∧ y < Z)
end

section
set_option maxRecDepth 20000
set_option maxHeartbeats 1600000
variable {w : World} {tb db mb cap D Z : Nat} {g : St}
theorem has_any (x : Int) (h : TabAt w tb db mb cap D Z g) : Calls Try.prog 34 #[.pointer (some ⟨tb, 0, none⟩), .int .i64 x] w fun e w' => e = .returned (.bool (decide (0 ≤ x ∧ x < D))) ∧ w' = w := by
  have c1 := h.t1
  clear h
  by_cases h0 : 0 ≤ x
  · by_cases h1 : x < D
    · rw [decide_eq_true (show 0 ≤ x ∧ x < (D : Int) from ⟨h0, h1⟩)]
      go_enter Try.func34, Try.ntmps34
      go_wp2_with fail
      go_ret
      exact ⟨by simp [h0, h1], rfl⟩
    · rw [decide_eq_false (show ¬ (0 ≤ x ∧ x < (D : Int)) from fun q => h1 q.2)]
      go_enter Try.func34, Try.ntmps34
      go_wp2_with fail
      go_ret
      exact ⟨by simp [h0, h1], rfl⟩
  · rw [decide_eq_false (show ¬ (0 ≤ x ∧ x < (D : Int)) from fun q => h0 q.1)]
    go_enter Try.func34, Try.ntmps34
    go_wp2_with fail
    go_ret
    exact ⟨by simp [h0], rfl⟩
theorem freeOn_any (x : Int) (h : TabAt w tb db mb cap D Z g) : Calls Try.prog 22 #[.pointer (some ⟨tb, 0, none⟩), .int .i64 x] w fun e w' => e = .returned (.int .i64 (freeOn g D Z x : Nat)) ∧ w' = w := by
  have hh := has_any x h
  have c1 := h.t1
  by_cases hx : 0 ≤ x ∧ x < D
  · obtain ⟨d, rfl⟩ : ∃ d : Nat, x = (d : Int) := ⟨x.toNat, by omega⟩
    have hd : d < D := by omega
    rw [decide_eq_true hx] at hh
    rw [freeOn_nat g hd]
    have cc := h.dc.cell hd (k := 0) (by omega)
    rw [show 6 * d + 0 = d * 6 by omega] at cc
    generalize (cnt (g d) 0 Z) = N at *
    have hd' : (d : Int) < (D : Int) := by omega
    clear h hx
    go_enter Try.func22, Try.ntmps22
    go_wp2_with fail
    refine hh.mono ?_
    rintro e w1 ⟨rfl, rfl⟩
    clear hh
    go_wp2_with fail
    go_ret
    exact ⟨rfl, rfl⟩
  · rw [decide_eq_false hx] at hh
    rw [show freeOn g D Z x = 0 from if_neg hx]
    clear h hx
    go_enter Try.func22, Try.ntmps22
    go_wp2_with fail
    refine hh.mono ?_
    rintro e w1 ⟨rfl, rfl⟩
    clear hh
    go_wp2_with fail
    go_ret
    exact ⟨rfl, rfl⟩
end
end Go.Proofs.Ytajpnjapfiffmaa
