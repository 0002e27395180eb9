/-
  copy, clear and append on a row of elisions, as operations of a walk; slices.Insert.
-/
import Derived.Test.YtghcfmkmndldoaaEl28
import Derived.Lib.Overlaps
namespace Go.Proofs.Ytghcfmkmndldoaa
open Go.RowKit Go.Sort Go.Lib

section
variable {w w' : World} {g c n base : Nat} {L : List Value} {es fs : List Ec} {A : Option Addr} {B : Nat}
theorem cells_drop (i : Nat) (es : List Ec) (hi : i ≤ es.length) : cellsE (es.drop i) = (cellsE es).drop (i * 3) := by
  have e1 : cellsE es = cellsE (es.take i) ++ cellsE (es.drop i) := by rw [← cellsE_append, List.take_append_drop]
  have e3 : (cellsE (es.take i)).length = i * 3 := by rw [cellsE_length, List.length_take, Nat.min_eq_left hi]
  rw [e1, ← e3, List.drop_left]
theorem cells_take (i : Nat) (es : List Ec) (hi : i ≤ es.length) : cellsE (es.take i) = (cellsE es).take (i * 3) := by
  have e1 : cellsE es = cellsE (es.take i) ++ cellsE (es.drop i) := by rw [← cellsE_append, List.take_append_drop]
  have e3 : (cellsE (es.take i)).length = i * 3 := by rw [cellsE_length, List.length_take, Nat.min_eq_left hi]
  rw [e1, ← e3, List.take_left]
/-- a row read from its place i on -/
theorem RowAt.from_ (h : RowAt w g c L) (ht : L.take (n * 3) = cellsE es) (hn : n = es.length) (i : Nat) (hi : i ≤ n) : ∀ j v, (cellsE (es.drop i))[j]? = some v → w.cell? ((⟨g, i * 3, none⟩ : Addr).add j) = some v := fun j v hj => by
  rw [cells_drop i es (by omega), List.getElem?_drop, ← ht, List.getElem?_take] at hj
  split at hj
  · rw [Addr.add_lit]
    exact h.cell hj
  · cases hj
theorem wp_copy_row {ops : Array Oper} {rest : List Oper} {o : Oper} {a : Act} {Q : Exit → Act → World → Prop} (hgd : o.guard = none) (d s : Operand)
    (ho : o.op = .call { callee := .builtin .copy, args := #[d, s], argTypes := #[22, 22] }) {dp sp : Option Addr} {dl dc sl sc : Nat} (hd : a.eval d = .slice dp dl dc) (hs : a.eval s = .slice sp sl sc)
    (hr : RowAt w g c L) (i : Nat) (cs : List Value) (hn : cs.length = Nat.min sl dl * 3) (hpos : 0 < cs.length → ∃ ad, sp = some ad ∧ ∀ j v, cs[j]? = some v → w.cell? (ad.add j) = some v)
    (hdp : 0 < cs.length → dp = some ⟨g, i * 3, none⟩) (hfit : i * 3 + cs.length ≤ L.length) (h1 : ∀ v ∈ cs, v.oneCell' = true)
    (h : ∀ w', Hid (RowAt w' g c (splice L (i * 3) cs)) → Hid (Kept (fun k => k ≠ g) w w') → wpList Try.prog ops Q rest (a.put o.dst (goInt (Nat.min sl dl))) w') : wpList Try.prog ops Q (o :: rest) a w := by
  refine wpList_plain hgd fun K hK => ?_
  obtain ⟨w', hrun, h2, h3⟩ := copy_row_run o.type hr i dl dc sp sl sc cs hn hpos dp hdp hfit h1
  unfold Oper.wp execOp
  simp only [ho, resolve, invoke, builtin, Sem.run_bind, Sem.run_pure, Result.andThen_ok, List.map_toArray, List.map_cons, List.map_nil, hd, hs]
  rw [show (Builtin.copy_ #[22, 22] o.type #[.slice dp dl dc, .slice sp sl sc]).run Try.prog w = .ok (goInt (Nat.min sl dl)) w' from hrun]
  exact hK _ _ (h w' h2 h3)
theorem step_copy_row {ops : Array Oper} {K : Act → World → Prop} {E : Prop} {o : Oper} {a : Act} {Q : Exit → Act → World → Prop} (hgd : o.guard = none) (d s : Operand)
    (ho : o.op = .call { callee := .builtin .copy, args := #[d, s], argTypes := #[22, 22] }) {dp sp : Option Addr} {dl dc sl sc : Nat} (hd : a.eval d = .slice dp dl dc) (hs : a.eval s = .slice sp sl sc)
    (hr : RowAt w g c L) (i : Nat) (cs : List Value) (hn : cs.length = Nat.min sl dl * 3) (hpos : 0 < cs.length → ∃ ad, sp = some ad ∧ ∀ j v, cs[j]? = some v → w.cell? (ad.add j) = some v)
    (hdp : 0 < cs.length → dp = some ⟨g, i * 3, none⟩) (hfit : i * 3 + cs.length ≤ L.length) (h1 : ∀ v ∈ cs, v.oneCell' = true)
    (h : ∀ w', Hid (RowAt w' g c (splice L (i * 3) cs)) → Hid (Kept (fun k => k ≠ g) w w') → K (a.put o.dst (goInt (Nat.min sl dl))) w') :
    if Region.wanted o (yielded ops a.tmps) = true then Oper.wp Try.prog o a w K Q else E := by
  have hw : Region.wanted o (yielded ops a.tmps) = true := by simp [Region.wanted, hgd]
  rw [if_pos hw]
  obtain ⟨w', hrun, h2, h3⟩ := copy_row_run o.type hr i dl dc sp sl sc cs hn hpos dp hdp hfit h1
  unfold Oper.wp execOp
  simp only [ho, resolve, invoke, builtin, Sem.run_bind, Sem.run_pure, Result.andThen_ok, List.map_toArray, List.map_cons, List.map_nil, hd, hs]
  rw [show (Builtin.copy_ #[22, 22] o.type #[.slice dp dl dc, .slice sp sl sc]).run Try.prog w = .ok (goInt (Nat.min sl dl)) w' from hrun]
  exact h w' h2 h3
theorem wp_clear_row {ops : Array Oper} {rest : List Oper} {o : Oper} {a : Act} {Q : Exit → Act → World → Prop} (hgd : o.guard = none) (d : Operand)
    (ho : o.op = .call { callee := .builtin .clear, args := #[d], argTypes := #[22] }) {dp : Option Addr} {k kc : Nat} (hd : a.eval d = .slice dp k kc)
    (hr : RowAt w g c L) (i : Nat) (hfit : i + k ≤ c) (hdp : 0 < k → dp = some ⟨g, i * 3, none⟩)
    (h : ∀ v w' Z, Hid (RowAt w' g c (splice L (i * 3) Z) ∧ Z.length = k * 3) → Hid (Kept (fun k => k ≠ g) w w') → wpList Try.prog ops Q rest (a.put o.dst v) w') : wpList Try.prog ops Q (o :: rest) a w := by
  refine wpList_plain hgd fun K hK => ?_
  obtain ⟨v, w', Z, hrun, h2, h4, h3⟩ := clear_row_run o.type hr i k kc hfit dp hdp
  unfold Oper.wp execOp
  simp only [ho, resolve, invoke, builtin, Sem.run_bind, Sem.run_pure, Result.andThen_ok, List.map_toArray, List.map_cons, List.map_nil, hd]
  rw [show (Builtin.clear_ #[22] o.type #[.slice dp k kc]).run Try.prog w = .ok v w' from hrun]
  exact hK _ _ (h v w' Z ⟨h2, h4⟩ h3)
theorem wp_grow_row {ops : Array Oper} {rest : List Oper} {o : Oper} {a : Act} {Q : Exit → Act → World → Prop} (hgd : o.guard = none) (s x : Operand)
    (ho : o.op = .call { callee := .builtin .append, args := #[s, x], argTypes := #[22, 3] }) (i k : Nat) (hs : a.eval s = .slice (some ⟨g, 0, none⟩) i c) {z : Int} (hx : a.eval x = .int .i64 z) (hz : z = (k : Int))
    (hr : RowAt w g c L) (ht : L.take (n * 3) = cellsE es) (hn : n = es.length) (hin : i ≤ n) (h0 : 0 < k) (hg : c < i + k) (hbig : i + k ≤ 1099511627776)
    (h : ∀ c' L' w', Hid (RowAt w' w.heap.size c' L' ∧ L'.take (i * 3) = cellsE (es.take i) ∧ i + k ≤ c' ∧ c' ≤ maxLen) → Hid (Below w.heap.size w w') → wpList Try.prog ops Q rest (a.put o.dst (.slice (some ⟨w.heap.size, 0, none⟩) (i + k) c')) w') : wpList Try.prog ops Q (o :: rest) a w := by
  subst hz
  refine wpList_plain hgd fun K hK => ?_
  obtain ⟨c', L', hrun, h2, h3, h4, h5⟩ := grow_row_run o.type hr ht hn i k hin h0 hg hbig
  unfold Oper.wp execOp
  simp only [ho, resolve, invoke, builtin, Sem.run_bind, Sem.run_pure, Result.andThen_ok, List.map_toArray, List.map_cons, List.map_nil, hs, hx]
  rw [show (Builtin.append_ #[22, 3] o.type #[.slice (some ⟨g, 0, none⟩) i c, .int .i64 (k : Int)]).run Try.prog w = .ok _ _ from hrun]
  exact hK _ _ (h c' L' _ ⟨h2, h3, h4, h5⟩ (((Below.refl _ _).drew).alloc (Nat.le_refl _) _))
end
end Go.Proofs.Ytghcfmkmndldoaa
