/-
  Rows appended by their headers alone.
-/
import Derived.Test.YtonihcgjepfpkaaKGf25
namespace Go.Proofs.Ytonihcgjepfpkaa
open Go.RowKit

set_option maxRecDepth 20000
/-- append(v, xs...): cells -/
theorem app_many {w : World} {ops : Array Oper} {rest : List Oper} {o : Oper} {a : Act} {Q : Exit → Act → World → Prop} (hgd : o.guard = none) (s x : Operand) (t e : TypeId)
    (ho : o.op = .call { callee := .builtin .append, args := #[s, x], argTypes := #[t, t] })
    (hu : Try.prog.underlying t = some (.slice e)) (z : Value) (bytes : Nat) (hi : (Try.prog.info? e).map (fun i => (i.zero, i.size, i.bytes)) = some (some z, 1, bytes)) (hzc : z.cells.size = 1)
    (base : Nat) (v : Value) (xs : List Value) (hs : a.eval s = v) (hown : OwnV w base e v xs)
    (ad : Addr) (m c : Nat) (us : List Value) (hx : a.eval x = .slice (some ad) m c) (hm : m = us.length) (hc : ∀ j u, us[j]? = some u → w.cell? (ad.add j) = some u) (h1 : ∀ u ∈ us, u.oneCell' = true)
    (hlen : xs.length + us.length ≤ 140737488355327) (hbytes : (xs.length + us.length) * bytes ≤ 140737488355328) (hbase : base ≤ w.heap.size)
    (h : ∀ v' w', OwnV w' base e v' (xs ++ us) → w.grownBy w' v.ownBlock → (v'.ownBlock = v.ownBlock ∨ v'.ownBlock = some w.heap.size) → wpList Try.prog ops Q rest (a.put o.dst v') w') :
    wpList Try.prog ops Q (o :: rest) a w := by
  subst hm
  refine wpList_plain hgd fun K hK => ?_
  obtain ⟨v', w', hrun, h2, h3, h5⟩ := app_cells_run (w := w) t o.type e hu z bytes hi hzc base v xs hown ad c us hc h1 hlen hbytes hbase
  unfold Oper.wp execOp
  simp only [ho, resolve, invoke, builtin, Sem.run_bind, Sem.run_pure, Result.andThen_ok, List.map_toArray, List.map_cons, List.map_nil, hs, hx]
  rw [show (Builtin.append_ #[t, t] o.type #[v, .slice (some ad) us.length c]).run Try.prog w = .ok v' w' from hrun]
  exact hK _ _ (h v' w' h2 h3 h5)
/-- header cells that read as the rows of M -/
def RowsV (W : World) (rows : List Value) (M : Mtx) : Prop :=
  rows.length = M.length ∧ ∀ (i : Nat) (r : Value) (l : List UInt8), rows[i]? = some r → M[i]? = some l → ∃ A' c', r = .slice A' l.length c' ∧ RB W W.heap.size A' l ∧ l.length ≤ c'
theorem RowsV.below {W W' : World} {rows : List Value} {M : Mtx} (h : RowsV W rows M) (hb : Below W.heap.size W W') : RowsV W' rows M :=
  ⟨h.1, fun i r l hr hl => by
    obtain ⟨A', c', e, h1, h2⟩ := h.2 i r l hr hl
    exact ⟨A', c', e, (h1.below hb).wide hb.size, h2⟩⟩
theorem RowsV.append {W : World} {r1 r2 : List Value} {M1 M2 : Mtx} (h : RowsV W r1 M1) (k : RowsV W r2 M2) : RowsV W (r1 ++ r2) (M1 ++ M2) :=
  ⟨by rw [List.length_append, List.length_append, h.1, k.1], fun i r l hr hl => by
    by_cases hi : i < r1.length
    · rw [List.getElem?_append_left hi] at hr
      rw [List.getElem?_append_left (by rw [← h.1]; exact hi)] at hl
      exact h.2 i r l hr hl
    · rw [List.getElem?_append_right (by omega)] at hr
      rw [List.getElem?_append_right (by rw [← h.1]; omega), ← h.1] at hl
      exact k.2 _ r l hr hl⟩
theorem RowsV.one {W : World} {rows : List Value} {M : Mtx} (h : RowsV W rows M) : ∀ u ∈ rows, u.oneCell' = true := fun u hu => by
  obtain ⟨i, hi⟩ := List.getElem?_of_mem hu
  obtain ⟨l, hl⟩ : ∃ l, M[i]? = some l := ⟨_, List.getElem?_eq_getElem (by rw [← h.1]; exact (List.getElem?_eq_some_iff.1 hi).1)⟩
  obtain ⟨A', c', rfl, _⟩ := h.2 i u l hi hl
  rfl
theorem mat_rowsV {w : World} {lo hi : Nat} {v : Value} {M : Mtx} (h : MatO w lo hi v M) : ∃ rows A c, v = .slice A M.length c ∧ RowsV w rows M ∧ ∀ (i : Nat) (r : Value), rows[i]? = some r → ∃ b, A = some ⟨b, 0, none⟩ ∧ b < w.heap.size ∧ w.cell? ⟨b, i, none⟩ = some r := by
  obtain ⟨rows, a, _, b, d, _⟩ := h
  obtain ⟨A, c, rfl, _, _, hrd⟩ := a.rd
  refine ⟨rows, A, c, by rw [b], ⟨b, fun i r l hr hl => ?_⟩, fun i r hr => hrd i r hr⟩
  obtain ⟨A', c', rfl, h1, h2, _⟩ := (d i r l hr hl).2.1.rb
  exact ⟨A', c', rfl, h2, h1⟩
theorem rm_of {W : World} {lo : Nat} {v : Value} {rows : List Value} {M : Mtx} (h : OwnV W lo 41 v rows) (hr : RowsV W rows M) : ∃ A c, v = .slice A M.length c ∧ RM W W.heap.size A M := by
  obtain ⟨A, c, rfl, _, _, hrd⟩ := h.rd
  refine ⟨A, c, by rw [hr.1], fun k l hl => ?_⟩
  obtain ⟨r, hk⟩ : ∃ r, rows[k]? = some r := ⟨_, List.getElem?_eq_getElem (by rw [hr.1]; exact (List.getElem?_eq_some_iff.1 hl).1)⟩
  obtain ⟨b, rfl, hb, hc⟩ := hrd k r hk
  obtain ⟨A', c', rfl, h1, h2⟩ := hr.2 k r l hk hl
  exact ⟨b, 0, A', c', rfl, hb, by rw [Nat.zero_add]; exact hc, h1, h2⟩
theorem own_made (w : World) (base : Nat) (h : base ≤ w.heap.size) : OwnV (w.alloc (.cells #[] 41)) base 41 (.slice (some ⟨w.heap.size, 0, none⟩) 0 0) [] :=
  World.ownsRow_made w #[] 0 h (by simp [maxLen]) (by simp)
/-- what Go's remainder by a small positive number gives -/
theorem rem_small (x : Int) (m : Nat) (hm : 0 < m) : x.tmod (m : Int) < m ∧ -(m : Int) < x.tmod (m : Int) := by
  have h1 := Int.tmod_lt_of_pos x (show (0 : Int) < m by omega)
  have h2 := Int.lt_tmod_of_pos x (show (0 : Int) < m by omega)
  exact ⟨h1, h2⟩
end Go.Proofs.Ytonihcgjepfpkaa
