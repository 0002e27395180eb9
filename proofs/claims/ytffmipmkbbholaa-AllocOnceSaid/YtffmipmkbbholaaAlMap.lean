/-
  Maps keyed by units, as plain data.
-/
import Derived.Test.YtffmipmkbbholaaAlKey
import Derived.Test.YtffmipmkbbholaaAlMath
namespace Go.Proofs.Ytffmipmkbbholaa
open Go.RowKit Go.Maps

/-- what a unit's key has: nothing, or a plain datum -/
abbrev Um := Nat → Nat → Option (DataW Unit)
def isU (f : Um) : Nat → Nat → Bool := fun d z => (f d z).isSome
structure Vw (D : DataW Unit) (f : Um) (A B : Nat) : Prop where
  has : ∀ d z : Nat, d < 1000000 → z < 1000000 → Maps.has D (uk d z) = (f d z).isSome
  atk : ∀ d z : Nat, d < 1000000 → z < 1000000 → ∀ zd, D.atKey (uk d z) zd = (f d z).getD zd
  only : ∀ kl, Maps.has D kl = true → ∃ d z : Nat, d < A ∧ z < B ∧ kl = uk d z
  size : Maps.size D = tot (isU f) A B
  ha : A ≤ 1000
  hb : B ≤ 10000
/-- BLOCK b IS A MAP OF UNITS that has f; its elements are e's -/
def UM (w : World) (b : Nat) (e : TypeId) (f : Um) (A B : Nat) : Prop := ∃ D, w.ownsMap Try.prog 24 (plainElem Try.prog e) b (Maps.size D) D ∧ Vw D f A B

theorem bool_inv {P : Program} {e : TypeId} (he : P.underlying e = some .bool) {v : Value} {z : DataW Unit × List MemPlace} (h : plainElem P e v = some z) : ∃ x, v = .bool x ∧ z = (.lit (.bool x), []) := by
  unfold plainElem at h
  rw [he] at h
  cases v <;> simp at h
  exact ⟨_, rfl, h.symm⟩
theorem i64_nat {n : Nat} (h : n < 1000000) : I64 (n : Int) := ⟨by omega, by omega⟩
theorem keyN {d z : Nat} (hd : d < 1000000) (hz : z < 1000000) : keyOf Try.prog 24 (uV d z) = some (uk d z) := keyOf_unit (i64_nat hd) (i64_nat hz)
theorem keyLit {d z : Nat} (hd : d < 1000000) (hz : z < 1000000) : Go.WideAt.IsKeyLit (uk d z) := keyLaw.key (keyN hd hz)
theorem uk_ne {d z d' z' : Nat} (hd : d < 1000000) (hz : z < 1000000) (hd' : d' < 1000000) (hz' : z' < 1000000) (h : ¬ (d' = d ∧ z' = z)) : uk d' z' ≠ uk d z := fun e => by
  have := uk_inj (i64_nat hd') (i64_nat hz') (i64_nat hd) (i64_nat hz) e
  exact h ⟨by omega, by omega⟩
theorem tight {w : World} {e : TypeId} {b n : Nat} {D : DataW Unit} (h : w.ownsMap Try.prog 24 (plainElem Try.prog e) b n D) : w.ownsMap Try.prog 24 (plainElem Try.prog e) b (Maps.size D) D := by
  obtain ⟨es, clock, hb, F, _, rfl⟩ := h
  exact ⟨es, clock, hb, F, by simp [Maps.size, length_sorted], rfl⟩

section
variable {w w' : World} {b A B : Nat} {e t : TypeId} {f : Um} {D : DataW Unit}
theorem Vw.put (h : Vw D f A B) (T : Tidy D) {d z : Nat} (hd : d < A) (hz : z < B) (x : DataW Unit) : Vw (D.put (uk d z) x) (upd f d z (some x)) A B := by
  have hA := h.ha
  have hB := h.hb
  have kl := keyLit (d := d) (z := z) (by omega) (by omega)
  refine ⟨fun d' z' hd' hz' => ?_, fun d' z' hd' hz' zd => ?_, fun k hk => ?_, ?_, hA, hB⟩
  · by_cases q : d' = d ∧ z' = z
    · obtain ⟨rfl, rfl⟩ := q
      rw [has_put_same T.isMap kl, upd_same]; rfl
    · rw [has_put_other (uk_ne (by omega) (by omega) hd' hz' q), upd_other _ _ q]
      exact h.has d' z' hd' hz'
  · by_cases q : d' = d ∧ z' = z
    · obtain ⟨rfl, rfl⟩ := q
      rw [atKey_put_same T.isMap kl, upd_same]; rfl
    · rw [atKey_put_other (uk_ne (by omega) (by omega) hd' hz' q), upd_other _ _ q]
      exact h.atk d' z' hd' hz' zd
  · by_cases q : k = uk d z
    · exact ⟨d, z, hd, hz, q⟩
    · rw [has_put_other q] at hk
      exact h.only k hk
  · have ht := tot_set (p := isU f) (q := isU (upd f d z (some x))) (d := d) (z := z) (A := A) (B := B) (fun d' z' q => by simp only [isU, upd_other _ _ q]) hd hz
    rw [size_put T, h.has d z (by omega) (by omega), h.size]
    simp only [isU, upd_same, b2n, Option.isSome_some, if_true] at ht
    have hs : tot (isU f) A B = tot (fun d z => (f d z).isSome) A B := rfl
    have hs2 : tot (isU (upd f d z (some x))) A B = tot (fun d' z' => (upd f d z (some x) d' z').isSome) A B := rfl
    rw [hs, hs2]
    split <;> rename_i q <;> simp only [q, if_true] at ht <;> simp at ht <;> omega
theorem Vw.del (h : Vw D f A B) (T : Tidy D) {d z : Nat} (hd : d < A) (hz : z < B) : Vw (D.del (uk d z)) (upd f d z none) A B := by
  have hA := h.ha
  have hB := h.hb
  have kl := keyLit (d := d) (z := z) (by omega) (by omega)
  refine ⟨fun d' z' hd' hz' => ?_, fun d' z' hd' hz' zd => ?_, fun k hk => ?_, ?_, hA, hB⟩
  · by_cases q : d' = d ∧ z' = z
    · obtain ⟨rfl, rfl⟩ := q
      rw [has_del_same, upd_same]; rfl
    · rw [has_del_other (uk_ne (by omega) (by omega) hd' hz' q), upd_other _ _ q]
      exact h.has d' z' hd' hz'
  · by_cases q : d' = d ∧ z' = z
    · obtain ⟨rfl, rfl⟩ := q
      rw [atKey_of_not_has has_del_same, upd_same]; rfl
    · rw [atKey_del_other (uk_ne (by omega) (by omega) hd' hz' q), upd_other _ _ q]
      exact h.atk d' z' hd' hz' zd
  · by_cases q : k = uk d z
    · exact ⟨d, z, hd, hz, q⟩
    · rw [has_del_other q] at hk
      exact h.only k hk
  · have ht := tot_set (p := isU f) (q := isU (upd f d z none)) (d := d) (z := z) (A := A) (B := B) (fun d' z' q => by simp only [isU, upd_other _ _ q]) hd hz
    have hs := size_del (k := uk d z) T
    rw [h.has d z (by omega) (by omega), h.size] at hs
    simp only [isU, upd_same, b2n, Option.isSome_none] at ht
    have hs1 : tot (isU f) A B = tot (fun d z => (f d z).isSome) A B := rfl
    have hs2 : tot (isU (upd f d z none)) A B = tot (fun d' z' => (upd f d z none d' z').isSome) A B := rfl
    rw [hs2]
    rw [hs1] at hs
    split at hs <;> rename_i q <;> simp only [q] at ht <;> simp at ht <;> omega
theorem Vw.empty (A B : Nat) (hA : A ≤ 1000) (hB : B ≤ 10000) : Vw (.map []) (fun _ _ => none) A B :=
  ⟨fun _ _ _ _ => rfl, fun _ _ _ _ _ => rfl, fun kl h => (by cases h), by
    have : isU (fun _ _ => none) = fun _ _ => false := rfl
    rw [this, tot_none]; rfl, hA, hB⟩

theorem UM.lt (h : UM w b e f A B) : b < w.heap.size := by obtain ⟨D, h1, _⟩ := h; exact h1.lt
theorem UM.kept {row : Option Nat} (h : UM w b e f A B) (hg : w.grownBy w' row) (hne : some b ≠ row) : UM w' b e f A B := by obtain ⟨D, h1, h2⟩ := h; exact ⟨D, h1.kept hg hne, h2⟩
theorem UM.move (h : UM w b e f A B) (hk : w'.heap[b]? = w.heap[b]?) : UM w' b e f A B := by
  obtain ⟨D, ⟨es, clock, hb, r⟩, h2⟩ := h
  exact ⟨D, ⟨es, clock, hk.trans hb, r⟩, h2⟩
theorem UM.alloc (h : UM w b e f A B) (o : Obj) : UM (w.alloc o) b e f A B := h.move (Below.heap_alloc w o b h.lt)
theorem UM.drewN (h : UM w b e f A B) (n : Nat) : UM (w.drewN n) b e f A B := h
theorem UM.below (h : UM w b e f A B) (hb : Below w.heap.size w w') : UM w' b e f A B := h.move (hb.block b h.lt)
theorem UM.not_cells (h : UM w b e f A B) {cs : Array Value} {t : TypeId} {x : Nat × Nat} : w.heap[b]? ≠ some (.cells cs t x) := fun q => by
  obtain ⟨D, ⟨es, clock, hb, _⟩, _⟩ := h
  rw [hb] at q; cases q
/-- a new map -/
theorem UM.made (w : World) (e : TypeId) (A B : Nat) (hA : A ≤ 1000) (hB : B ≤ 10000) : UM (w.alloc (.map #[] 0)) w.heap.size e (fun _ _ => none) A B :=
  ⟨.map [], World.ownsMap_made w _ _ _, Vw.empty A B hA hB⟩
/-- m[u], elements being numbers -/
theorem UM.look (h : UM w b 3 f A B) (ht : Try.prog.underlying t = some (.map 24 3)) {d z : Nat} (hd : d < 1000000) (hz : z < 1000000) {c : Int} (hc : (f d z).getD (.lit (.int .i64 0)) = .lit (.int .i64 c)) :
    (Instr.lookup t (.map (some b)) (uV d z) false).run Try.prog w = .ok (.int .i64 c) w := by
  obtain ⟨D, h1, h2⟩ := h
  obtain ⟨c', hrun, hat, _⟩ := h1.lookup_int keyLaw ht Try.underlying3 (by kernel_rfl) (keyN hd hz)
  rw [h2.atk d z hd hz, hc] at hat
  have : c = c' := by simpa using hat
  rw [this]; exact hrun
/-- m[u], elements being bools -/
theorem UM.lookB (h : UM w b 4 f A B) (ht : Try.prog.underlying t = some (.map 24 4)) {d z : Nat} (hd : d < 1000000) (hz : z < 1000000) {c : Bool} (hc : (f d z).getD (.lit (.bool false)) = .lit (.bool c)) :
    (Instr.lookup t (.map (some b)) (uV d z) false).run Try.prog w = .ok (.bool c) w := by
  obtain ⟨D, h1, h2⟩ := h
  obtain ⟨v, ps, hrun, hv⟩ := h1.lookup keyLaw ht (z := .bool false) (by kernel_rfl) (plainElem_bool Try.underlying4 false) (keyN hd hz)
  rw [h2.atk d z hd hz, hc] at hv
  obtain ⟨x, rfl, hz'⟩ := bool_inv Try.underlying4 hv
  rw [hrun]
  simp at hz'
  rw [hz'.1]
/-- m[u] = v -/
theorem UM.store (h : UM w b e f A B) (ht : Try.prog.underlying t = some (.map 24 e)) {d z : Nat} (hd : d < A) (hz : z < B) {v : Value} {x : DataW Unit} (hv : plainElem Try.prog e v = some (x, [])) :
    ∃ w', (Instr.mapUpdate t (.map (some b)) (uV d z) v).run Try.prog w = .ok () w' ∧ UM w' b e (upd f d z (some x)) A B ∧ w.mapTurned w' b := by
  obtain ⟨D, h1, h2⟩ := h
  have hA := h2.ha
  have hB := h2.hb
  have hn : Maps.size D < maxLen := by
    rw [h2.size]
    exact Nat.lt_of_le_of_lt (Nat.le_trans (tot_le (isU f) A B) (Nat.mul_le_mul hA hB)) (by decide)
  obtain ⟨w1, hrun, q1, q2⟩ := h1.store keyLaw ht hn (keyN (d := d) (z := z) (by omega) (by omega)) hv
  exact ⟨w1, hrun, ⟨_, tight q1, h2.put (h1.tidy keyLaw) hd hz x⟩, q2⟩
/-- delete(m, u) -/
theorem UM.drop (h : UM w b e f A B) (ht : Try.prog.underlying t = some (.map 24 e)) {d z : Nat} (hd : d < A) (hz : z < B) (ty : TypeId) :
    ∃ w', (Builtin.delete_ #[t, 24] ty #[.map (some b), uV d z]).run Try.prog w = .ok (.tuple #[]) w' ∧ UM w' b e (upd f d z none) A B ∧ w.mapTurned w' b := by
  obtain ⟨D, h1, h2⟩ := h
  have hA := h2.ha
  have hB := h2.hb
  obtain ⟨w1, hrun, q1, q2⟩ := h1.drop keyLaw ht (keyN (d := d) (z := z) (by omega) (by omega)) ty
  exact ⟨w1, hrun, ⟨_, tight q1, h2.del (h1.tidy keyLaw) hd hz⟩, q2⟩
/-- len(m) -/
theorem UM.len (h : UM w b e f A B) (ht : Try.prog.underlying t = some (.map 24 e)) (ty : TypeId) : (Builtin.len_ #[t] ty #[.map (some b)]).run Try.prog w = .ok (.int .i64 (tot (isU f) A B : Nat)) w := by
  obtain ⟨D, h1, h2⟩ := h
  rw [h1.len ht ty, h2.size]
end

/-! at an operation of a walk -/
section
variable {w : World} {ops : Array Oper} {rest : List Oper} {o : Oper} {a : Act} {Q : Exit → Act → World → Prop} {b A B : Nat} {e t : TypeId} {f : Um}
theorem um_store (hg : o.guard = none) (m x v : Operand) (hop : o.op = Op.mapUpdate t m x v) (ht : Try.prog.underlying t = some (.map 24 e)) (h : UM w b e f A B) {d z : Nat} (hd : d < A) (hz : z < B) (val : Value) (dv : DataW Unit) (hval : plainElem Try.prog e val = some (dv, []))
    (hm : a.eval m = .map (some b)) (hx : a.eval x = uV d z) (hv : a.eval v = val)
    (hK : ∀ w', UM w' b e (upd f d z (some dv)) A B → w.mapTurned w' b → wpList Try.prog ops Q rest (a.put o.dst undef) w') : wpList Try.prog ops Q (o :: rest) a w := by
  refine wpList_plain hg fun K' hK' => ?_
  obtain ⟨w', hrun, r1, r2⟩ := h.store ht hd hz hval
  unfold Oper.wp
  simp [execOp, hop, hm, hx, hv, hrun, Result.andThen]
  exact hK' _ _ (hK w' r1 r2)
theorem um_drop (hg : o.guard = none) (m x : Operand) (hop : o.op = Op.call { callee := Callee.builtin Builtin.delete, args := #[m, x], argTypes := #[t, 24] }) (ht : Try.prog.underlying t = some (.map 24 e)) (h : UM w b e f A B) {d z : Nat} (hd : d < A) (hz : z < B)
    (hm : a.eval m = .map (some b)) (hx : a.eval x = uV d z)
    (hK : ∀ w', UM w' b e (upd f d z none) A B → w.mapTurned w' b → wpList Try.prog ops Q rest (a.put o.dst (.tuple #[])) w') : wpList Try.prog ops Q (o :: rest) a w := by
  refine wpList_plain hg fun K' hK' => ?_
  obtain ⟨w', hrun, r1, r2⟩ := h.drop ht hd hz o.type
  unfold Oper.wp
  simp [execOp, hop, resolve, invoke, builtin, hm, hx, hrun, Result.andThen]
  exact hK' _ _ (hK w' r1 r2)
end
end Go.Proofs.Ytffmipmkbbholaa
