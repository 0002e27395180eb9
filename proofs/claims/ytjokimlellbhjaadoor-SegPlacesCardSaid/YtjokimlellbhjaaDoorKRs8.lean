/-
  The program's remade.
-/
import Derived.Test.YtjokimlellbhjaaDoorKRs6
import Derived.Deep.RegionLaw
import Derived.Deep.DeepMust
import Derived.Test.YtjokimlellbhjaaDoorKGf25
namespace Go.Proofs.YtjokimlellbhjaaDoor
open Go.RowKit

set_option maxRecDepth 20000
/-- append(v, xs...) at a step of a region that draws its order: cells -/
theorem step_app_many {w : World} {ops : Array Oper} {K : Act → World → Prop} {E : Prop} {o : Oper} {a : Act} {Q : Exit → Act → World → Prop} (hgd : o.guard = none) (s x : Operand) (t e : TypeId)
    (ho : o.op = .call { callee := .builtin .append, args := #[s, x], argTypes := #[t, t] })
    (hu : Tryd.prog.underlying t = some (.slice e)) (z : Value) (bytes : Nat) (hi : (Tryd.prog.info? e).map (fun i => (i.zero, i.size, i.bytes)) = some (some z, 1, bytes)) (hzc : z.cells.size = 1)
    (base : Nat) (v : Value) (xs : List Value) (hs : a.eval s = v) (hown : OwnV w base e v xs)
    (ad : Addr) (m c : Nat) (us : List Value) (hx : a.eval x = .slice (some ad) m c) (hm : m = us.length) (hc : ∀ j u, us[j]? = some u → w.cell? (ad.add j) = some u) (h1 : ∀ u ∈ us, u.oneCell' = true)
    (hlen : xs.length + us.length ≤ 140737488355327) (hbytes : (xs.length + us.length) * bytes ≤ 140737488355328) (hbase : base ≤ w.heap.size)
    (h : ∀ v' w', OwnV w' base e v' (xs ++ us) → w.grownBy w' v.ownBlock → (v'.ownBlock = v.ownBlock ∨ v'.ownBlock = some w.heap.size) → K (a.put o.dst v') w') :
    if Region.wanted o (yielded ops a.tmps) = true then Oper.wp Tryd.prog o a w K Q else E := by
  subst hm
  have hw : Region.wanted o (yielded ops a.tmps) = true := by simp [Region.wanted, hgd]
  rw [if_pos hw]
  obtain ⟨v', w', hrun, h2, h3, h5⟩ := app_cells_run (w := w) t o.type e hu z bytes hi hzc base v xs hown ad c us hc h1 hlen hbytes hbase
  unfold Oper.wp execOp
  simp only [ho, resolve, invoke, builtin, Sem.run_bind, Sem.run_pure, Result.andThen_ok, List.map_toArray, List.map_cons, List.map_nil, hs, hx]
  rw [show (Builtin.append_ #[t, t] o.type #[v, .slice (some ad) us.length c]).run Tryd.prog w = .ok v' w' from hrun]
  exact h v' w' h2 h3 h5
/-- a matrix of the call's own: its header cells; they read as its rows, also behind an append to its header, or to what lies lower -/
theorem mat_both {w : World} {lo hi g n c : Nat} {M : Mtx} (h : MatO w lo hi (.slice (some ⟨g, 0, none⟩) n c) M) : ∃ rows, OwnV w lo 25 (.slice (some ⟨g, 0, none⟩) n c) rows ∧ RowsV w rows M ∧
    (∀ (i : Nat) (r : Value), rows[i]? = some r → w.cell? ⟨g, i, none⟩ = some r) ∧ ∀ (w' : World) (x : Nat), w.grownBy w' (some x) → (x = g ∨ x < lo) → RowsV w' rows M := by
  have h' := h
  obtain ⟨rows, a, _, b, d, _⟩ := h
  obtain ⟨A, c', e, _, _, hrd⟩ := a.rd
  have hcell : ∀ (i : Nat) (r : Value), rows[i]? = some r → w.cell? ⟨g, i, none⟩ = some r := fun i r hr => by
    obtain ⟨b9, e9, h8, h9⟩ := hrd i r hr
    have e1 := (Value.slice.inj e).1
    rw [e9] at e1
    cases e1
    exact h9
  have key : ∀ (i : Nat) (r : Value) (l : List UInt8), rows[i]? = some r → M[i]? = some l → ∃ b9 c9, r = .slice (some ⟨b9, 0, none⟩) l.length c9 ∧ RowAt w lo hi g i b9 c9 l := fun i r l hr hl => by
    obtain ⟨b9, c9, hrow, _⟩ := h'.row hl
    have := hcell i r hr
    rw [hrow.head] at this
    exact ⟨b9, c9, (Option.some.inj this).symm, hrow⟩
  refine ⟨rows, a, ⟨b, fun i r l hr hl => ?_⟩, hcell, fun w' x hg hx => ⟨b, fun i r l hr hl => ?_⟩⟩
  · obtain ⟨b9, c9, rfl, hrow⟩ := key i r l hr hl
    exact ⟨_, c9, rfl, fun j y hy => ⟨_, rfl, hrow.lt, by rw [add_flat, Nat.zero_add]; exact hrow.cells j y hy⟩, hrow.cap⟩
  · obtain ⟨b9, c9, rfl, hrow⟩ := key i r l hr hl
    have hne : some b9 ≠ some x := fun e9 => by
      have e8 := Option.some.inj e9
      have := hrow.ne
      have := hrow.low
      omega
    exact ⟨_, c9, rfl, fun j y hy => ⟨_, rfl, Nat.lt_of_lt_of_le hrow.lt hg.size, by
      rw [add_flat, Nat.zero_add]
      exact (World.cell?_of_block (w := w) (hg.block b9 hrow.lt (fun e9 => hne e9))).trans (hrow.cells j y hy)⟩, hrow.cap⟩
/-- the shards of these numbers -/
def headers (w : World) (b o : Nat) (f : List Int) : List Value := f.map fun x => (w.cell? ⟨b, o + x.toNat, none⟩).getD undef
structure SrcAt (w w0 : World) (g b o : Nat) (f : List Int) (i : Nat) (wr : World) : Prop where
  head : Cells wr g 25 ((headers w b o f).take i ++ List.replicate (f.length - i) (.slice none 0 0))
  bel : Below w0.heap.size w0 wr
theorem SrcAt.step {w w0 wr : World} {g b o i : Nat} {f : List Int} {x : Int} {u : Value} (h : SrcAt w w0 g b o f i wr) (hg : w0.heap.size ≤ g) (hx : f[i]? = some x) (hu : w.cell? ⟨b, o + x.toNat, none⟩ = some u) :
    wr.cell? ⟨g, i, none⟩ = some (.slice none 0 0) ∧ wr.frozen? ⟨g, i, none⟩ = false ∧ SrcAt w w0 g b o f (i + 1) (wr.setCell ⟨g, i, none⟩ u) := by
  have hi := (List.getElem?_eq_some_iff.1 hx).1
  have hhl : (headers w b o f).length = f.length := List.length_map _
  have hhi : (headers w b o f)[i]? = some u := by
    unfold headers
    rw [List.getElem?_map, hx]
    simp [hu]
  have hl : ((headers w b o f).take i).length = i := by rw [List.length_take, hhl]; omega
  obtain ⟨m, hm⟩ : ∃ m, f.length - i = m + 1 := ⟨f.length - i - 1, by omega⟩
  refine ⟨h.head.cell ?_, h.head.frozen i, ?_, h.bel.setCell (p := ⟨g, i, none⟩) hg _⟩
  · rw [List.getElem?_append_right (by omega), hl, Nat.sub_self, hm]; rfl
  · have := h.head.set i u
    rw [List.set_append_right _ _ (by omega), hl, Nat.sub_self, hm, List.replicate_succ, List.set_cons_zero] at this
    rw [List.take_succ_eq_append_getElem (by rw [hhl]; exact hi), (List.getElem?_eq_some_iff.1 hhi).2, show f.length - (i + 1) = m by omega]
    simpa using this
theorem SrcAt.done {w w0 wr : World} {g b o : Nat} {f : List Int} {S : Mtx} (h : SrcAt w w0 g b o f f.length wr) (hw : Below w.heap.size w w0) (hS : RM w w.heap.size (some ⟨b, o, none⟩) S) (hf : ∀ x ∈ f, 0 ≤ x ∧ x < (S.length : Int)) : RM wr wr.heap.size (some ⟨g, 0, none⟩) (pick S f) := fun i l hl => by
  have hhl : (headers w b o f).length = f.length := List.length_map _
  have hi : i < f.length := by have := (List.getElem?_eq_some_iff.1 hl).1; simpa [pick] using this
  obtain ⟨x, hx⟩ : ∃ x, f[i]? = some x := ⟨_, List.getElem?_eq_getElem hi⟩
  have hxb := hf x (List.mem_of_getElem? hx)
  have e : l = S.getD x.toNat [] := by
    unfold pick at hl
    rw [List.getElem?_map, hx] at hl
    exact (Option.some.inj hl).symm
  obtain ⟨y, hy⟩ : ∃ y, S[x.toNat]? = some y := ⟨_, List.getElem?_eq_getElem (by omega)⟩
  rw [getD_of hy] at e
  subst e
  obtain ⟨A', c', hc, hr, hcap⟩ := hS.row hy
  have hlt := h.head.lt
  have hw2 : Below w.heap.size w wr := hw.trans (h.bel.mono hw.size)
  refine ⟨g, 0, A', c', rfl, hlt, ?_, (hr.below hw2).wide hw2.size, hcap⟩
  rw [Nat.zero_add]
  refine h.head.cell ?_
  rw [Nat.sub_self, List.replicate_zero, List.append_nil, List.take_of_length_le (by omega)]
  unfold headers
  rw [List.getElem?_map, hx]
  simp [hc]
end Go.Proofs.YtjokimlellbhjaaDoor

/-
  The program's remade, walked.
-/
namespace Go.Proofs.YtjokimlellbhjaaDoor
open Go.RowKit

set_option maxRecDepth 20000
/-- a list of lists that was told alone -/
def TellsL (w : World) (L : Mtx) (e : Ending) (w' : World) : Prop :=
  ∃ A c, e = .returned (.slice A L.length c) ∧ MatO w' w.heap.size w'.heap.size (.slice A L.length c) L ∧ Below w.heap.size w w'
theorem pick_dim {k : Nat} {f : List Int} (hf : ∀ x ∈ f, 0 ≤ x ∧ x < (k : Int) + 2) : ∀ (t : Nat) (l : List UInt8), (pick (allM k) f)[t]? = some l → l.length = k := fun t l hl => by
  unfold pick at hl
  rw [List.getElem?_map] at hl
  obtain ⟨x, hx, rfl⟩ := Option.map_eq_some_iff.1 hl
  have := hf x (List.mem_of_getElem? hx)
  have hlt : x.toNat < (allM k).length := by rw [allM_length]; omega
  rw [getD_of (List.getElem?_eq_getElem hlt)]
  exact allM_row k x.toNat _ (List.getElem?_eq_getElem hlt)
theorem pick_length (M : Mtx) (f : List Int) : (pick M f).length = f.length := List.length_map _
theorem allM_right {k : Nat} (h1 : 1 ≤ k) (h2 : k ≤ 253) : rightB (allM k) = true := by
  have h0 : (allM k)[0]? = some ((allM k).headD []) := head_get (by rw [allM_length]; omega)
  have hk := allM_row k 0 _ h0
  refine decide_eq_true ⟨by rw [allM_length]; omega, by rw [allM_length]; omega, by omega, by omega, fun l hl => ?_⟩
  obtain ⟨j, hj⟩ := List.getElem?_of_mem hl
  rw [hk]
  exact allM_row k j l hj
theorem pick_rowsB {k : Nat} {f : List Int} (h1 : 1 ≤ k) (h2 : k ≤ 253) (hl : 1 ≤ f.length ∧ f.length ≤ 255) (hf : ∀ x ∈ f, 0 ≤ x ∧ x < (k : Int) + 2) : rowsB (allM k) f = true := by
  unfold rowsB
  rw [allM_right h1 h2, decide_eq_true ⟨hl.1, hl.2, fun x hx => ⟨(hf x hx).1, by have := (hf x hx).2; rw [allM_length]; omega⟩⟩]
  rfl
theorem right_of {M : Mtx} {n : Nat} (h1 : 1 ≤ M.length) (h2 : M.length ≤ 255) (h3 : 1 ≤ n) (h4 : n ≤ 255) (hr : ∀ (t : Nat) (l : List UInt8), M[t]? = some l → l.length = n) : rightB M = true ∧ (M.headD []).length = n := by
  have hh := hr 0 _ (head_get (by omega))
  refine ⟨decide_eq_true ⟨h1, h2, by omega, by omega, fun l hl => ?_⟩, hh⟩
  obtain ⟨j, hj⟩ := List.getElem?_of_mem hl
  rw [hh]
  exact hr j l hj
theorem right_dim' {P : Mtx} {k : Nat} (hd : Dim P k) (h1 : 1 ≤ k) (h2 : k ≤ 255) : rightB P = true := (right_of (by rw [hd.1]; exact h1) (by rw [hd.1]; exact h2) h1 h2 hd.2).1
theorem sq_dim' {P : Mtx} {k : Nat} (hd : Dim P k) (h1 : 1 ≤ k) (h2 : k ≤ 255) : sqB P = true := by
  unfold sqB
  rw [right_dim' hd h1 h2, decide_eq_true]
  · rfl
  · rw [hd.1, hd.2 0 _ (head_get (by rw [hd.1]; omega))]
theorem timesM_length (M O : Mtx) : (timesM M O).length = M.length := by simp [timesM, turnedM]
theorem timesM_row {M O : Mtx} {t : Nat} {l : List UInt8} (h : (timesM M O)[t]? = some l) : l.length = (O.headD []).length := by
  unfold timesM at h
  have := turned_row _ _ t l h
  rw [this, List.length_map]
  simp [turnedM]
theorem mat_head_lt {w : World} {lo hi g n c : Nat} {M : Mtx} (h : MatO w lo hi (.slice (some ⟨g, 0, none⟩) n c) M) (h0 : 0 < M.length) : g < w.heap.size := by
  obtain ⟨g', c', e, _, _, _, hlt, _⟩ := h.head h0
  cases e
  exact hlt
/-- the rows that make the missing -/
def wayM (k : Nat) (m : List Int) (V : Mtx) : Mtx := timesM (pick (allM k) m) V
def remL (k : Nat) (S : Mtx) (f m : List Int) (V : Mtx) (n : Nat) : Mtx := if m.length = 0 then [] else linM (wayM k m V) (pick S f) n
end Go.Proofs.YtjokimlellbhjaaDoor

/-
  A header whose rows are laid one by one, each the call's own or nil.
-/
namespace Go.Proofs.YtjokimlellbhjaaDoor
open Go.RowKit

set_option maxRecDepth 20000
structure AllAt (w : World) (g N : Nat) (vs : List Value) (M : Mtx) (wr : World) : Prop where
  head : Cells wr g 25 vs
  len : vs.length = N
  mlen : M.length = N
  rows : ∀ (i : Nat) (v : Value) (l : List UInt8), vs[i]? = some v → M[i]? = some l → Own wr w.heap.size v l
  apart : ∀ (i j : Nat) (vi vj : Value) (x : Nat), i ≠ j → vs[i]? = some vi → vs[j]? = some vj → vi.ownBlock = some x → vj.ownBlock ≠ some x
  other : ∀ (i : Nat) (v : Value), vs[i]? = some v → v.ownBlock ≠ some g
  high : w.heap.size ≤ g
  bel : Below w.heap.size w wr
theorem AllAt.start (w w0 : World) (N : Nat) (h : Below w.heap.size w w0) {cs : Array Value} (hc : cs = (List.replicate N (.slice none 0 0)).toArray) :
    AllAt w w0.heap.size N (List.replicate N (.slice none 0 0)) (List.replicate N []) (w0.alloc (.cells cs 25)) := by
  have hr : ∀ (i : Nat) (v : Value), (List.replicate N (Value.slice none 0 0))[i]? = some v → v = .slice none 0 0 := fun i v hv => by
    rw [List.getElem?_replicate] at hv
    split at hv
    · exact (Option.some.inj hv).symm
    · cases hv
  refine ⟨?_, by simp, by simp, fun i v l hv hl => ?_, fun i j vi vj x _ hi _ hx => ?_, fun i v hv => ?_, h.size, h.alloc h.size _⟩
  · have := Cells.new w0 cs 25
    rw [hc] at this ⊢
    exact this
  · rw [hr i v hv]
    have : l = [] := by
      rw [List.getElem?_replicate] at hl
      split at hl
      · exact (Option.some.inj hl).symm
      · cases hl
    rw [this]
    exact Own.nil _ _
  · rw [hr i vi hi] at hx; cases hx
  · rw [hr i v hv]; intro e; cases e
/-- somebody else's step -/
theorem AllAt.below {w wr w1 : World} {g N : Nat} {vs : List Value} {M : Mtx} (h : AllAt w g N vs M wr) (hb : Below wr.heap.size wr w1) : AllAt w g N vs M w1 :=
  ⟨h.head.move (hb.block g h.head.lt), h.len, h.mlen, fun i v l hv hl => (h.rows i v l hv hl).below hb, h.apart, h.other, h.high, h.bel.trans (hb.mono h.bel.size)⟩
theorem AllAt.drewN {w wr : World} {g N : Nat} {vs : List Value} {M : Mtx} (h : AllAt w g N vs M wr) (q : Nat) : AllAt w g N vs M (wr.drewN q) := ⟨h.head, h.len, h.mlen, h.rows, h.apart, h.other, h.high, drewN_below h.bel q⟩
/-- one row is laid -/
theorem AllAt.put {w wr : World} {g N i : Nat} {vs : List Value} {M : Mtx} {v : Value} {l : List UInt8} (h : AllAt w g N vs M wr) (hi : i < N) (ho : Own wr w.heap.size v l)
    (hg : v.ownBlock ≠ some g) (ha : ∀ (j : Nat) (u : Value) (x : Nat), vs[j]? = some u → u.ownBlock = some x → v.ownBlock ≠ some x) :
    (∃ u, wr.cell? ⟨g, i, none⟩ = some u) ∧ wr.frozen? ⟨g, i, none⟩ = false ∧ AllAt w g N (vs.set i v) (M.set i l) (wr.setCell ⟨g, i, none⟩ v) := by
  have far : ∀ b, b ≠ g → (wr.setCell ⟨g, i, none⟩ v).heap[b]? = wr.heap[b]? := fun b hb => Below.heap_setCell _ _ _ _ hb
  have hil : i < vs.length := by rw [h.len]; exact hi
  refine ⟨⟨_, h.head.cell (List.getElem?_eq_getElem hil)⟩, h.head.frozen i, h.head.set i v, by rw [List.length_set]; exact h.len, by rw [List.length_set]; exact h.mlen, fun j u x hu hx => ?_, fun j j' u u' x hjj hu hu' hxu hxu' => ?_, fun j u hu => ?_, h.high, h.bel.setCell (p := ⟨g, i, none⟩) h.high _⟩
  · by_cases e : j = i
    · subst e
      rw [List.getElem?_set_self hil] at hu
      rw [List.getElem?_set_self (by rw [h.mlen]; exact hi)] at hx
      cases hu
      cases hx
      exact ho.move fun b hb => far b fun e => hg (by rw [← e]; exact hb)
    · rw [List.getElem?_set_ne (fun e' => e e'.symm)] at hu hx
      exact (h.rows j u x hu hx).move fun b hb => far b fun e => h.other j u hu (by rw [← e]; exact hb)
  · by_cases e : j = i
    · subst e
      rw [List.getElem?_set_self hil] at hu
      rw [List.getElem?_set_ne hjj] at hu'
      cases hu
      exact ha j' u' x hu' hxu' hxu
    · rw [List.getElem?_set_ne (fun e' => e e'.symm)] at hu
      by_cases e2 : j' = i
      · subst e2
        rw [List.getElem?_set_self hil] at hu'
        cases hu'
        exact ha j u x hu hxu hxu'
      · rw [List.getElem?_set_ne (fun e' => e2 e'.symm)] at hu'
        exact h.apart j j' u u' x hjj hu hu' hxu hxu'
  · by_cases e : j = i
    · subst e
      rw [List.getElem?_set_self hil] at hu
      cases hu
      exact hg
    · rw [List.getElem?_set_ne (fun e' => e e'.symm)] at hu
      exact h.other j u hu
/-- it reads as M -/
theorem AllAt.rm {w wr : World} {g N : Nat} {vs : List Value} {M : Mtx} (h : AllAt w g N vs M wr) : RM wr wr.heap.size (some ⟨g, 0, none⟩) M := fun i l hl => by
  obtain ⟨v, hv⟩ : ∃ v, vs[i]? = some v := ⟨_, List.getElem?_eq_getElem (by rw [h.len, ← h.mlen]; exact (List.getElem?_eq_some_iff.1 hl).1)⟩
  obtain ⟨A', c', rfl, h1, h2, _⟩ := (h.rows i v l hv hl).rb
  exact ⟨g, 0, A', c', rfl, h.head.lt, by rw [Nat.zero_add]; exact h.head.cell hv, h2, h1⟩
theorem AllAt.done {w wr : World} {g N : Nat} {vs : List Value} {M : Mtx} (h : AllAt w g N vs M wr) (hN : N ≤ 4096) (hM : ∀ (i : Nat) (l : List UInt8), M[i]? = some l → 0 < l.length) : MatO wr w.heap.size wr.heap.size (.slice (some ⟨g, 0, none⟩) N N) M := by
  refine ⟨vs, ?_, fun x hx => by cases hx; exact h.head.lt, by rw [h.len, h.mlen], fun i v l hv hl => ⟨hM i l hl, h.rows i v l hv hl, fun x hx => ((h.rows i v l hv hl).lt x hx).2⟩, h.apart⟩
  have := OwnV.mk (base := w.heap.size) (e := 25) (xs := vs) (cap := N) h.high h.head (by rw [h.len]; exact Nat.le_refl _) (by simp only [maxLen]; omega) h.len (List.take_of_length_le (by rw [h.len]; exact Nat.le_refl _))
  rw [h.len] at this
  exact this
/-- a clone's block is unlike a header's -/
theorem own_ne {w : World} {lo g : Nat} {v : Value} {l : List UInt8} {cs : List Value} (h : Own w lo v l) (hc : Cells w g 25 cs) : v.ownBlock ≠ some g := by
  intro e
  rcases h.toV.form with ⟨hv, _⟩ | ⟨g', cap, cur, hv, _, hc', _⟩
  · rw [hv] at e; cases e
  · rw [hv] at e
    cases e
    exact absurd (hc.type hc').1 (by decide)
/-- those of the first i numbers -/
def someK (S : Mtx) (t : List Int) (i : Nat) : Mtx := (List.range S.length).map fun (j : Nat) => if (j : Int) ∈ t.take i then S.getD j [] else []
theorem someK_length (S : Mtx) (t : List Int) (i : Nat) : (someK S t i).length = S.length := by simp [someK]
theorem someK_zero (S : Mtx) (t : List Int) : someK S t 0 = List.replicate S.length [] := by
  unfold someK
  apply List.ext_getElem?
  intro j
  rw [List.getElem?_map, List.getElem?_replicate]
  by_cases h : j < S.length
  · rw [List.getElem?_range h, if_pos h]; simp
  · rw [List.getElem?_eq_none (by simp; omega), if_neg h]; rfl
theorem someK_step {S : Mtx} {t : List Int} {i n : Nat} {l : List UInt8} (ht : t[i]? = some (n : Int)) (hl : S[n]? = some l) : (someK S t i).set n l = someK S t (i + 1) := by
  have hn := (List.getElem?_eq_some_iff.1 hl).1
  have hi := (List.getElem?_eq_some_iff.1 ht).1
  have e := (List.getElem?_eq_some_iff.1 ht).2
  apply List.ext_getElem?
  intro j
  rw [List.getElem?_set]
  unfold someK
  by_cases hj : j < S.length
  · rw [List.getElem?_map, List.getElem?_map, List.getElem?_range hj, List.take_succ_eq_append_getElem hi, e]
    by_cases hnj : n = j
    · subst hnj
      rw [if_pos rfl, if_pos (by simpa using hn)]
      simp [hl]
    · rw [if_neg hnj]
      simp only [Option.map_some, List.mem_append, List.mem_singleton]
      congr 1
      have : ¬ ((j : Int) = (n : Int)) := by omega
      simp only [this, or_false]
  · rw [List.getElem?_eq_none (by simp; omega), List.getElem?_eq_none (by simp; omega)]
    split
    · rw [if_neg (by simp; omega)]
    · rfl
/-- the numbers of those that are there -/
theorem mem_there {S : Mtx} {x : Int} : ∀ i, x ∈ thereK S i ↔ ∃ n : Nat, x = (n : Int) ∧ n < i ∧ (S.getD n []).length ≠ 0
  | 0 => ⟨(by intro h; cases h), (by rintro ⟨n, _, h, _⟩; omega)⟩
  | i + 1 => by
    have ih := mem_there (S := S) (x := x) i
    unfold thereK
    by_cases h0 : (S.getD i []).length = 0
    · rw [if_pos h0, ih]
      constructor
      · rintro ⟨n, h1, h2, h3⟩; exact ⟨n, h1, by omega, h3⟩
      · rintro ⟨n, h1, h2, h3⟩
        by_cases e : n = i
        · subst e; exact absurd h0 h3
        · exact ⟨n, h1, by omega, h3⟩
    · rw [if_neg h0, List.mem_append, List.mem_singleton, ih]
      constructor
      · rintro (⟨n, h1, h2, h3⟩ | rfl)
        · exact ⟨n, h1, by omega, h3⟩
        · exact ⟨i, rfl, by omega, h0⟩
      · rintro ⟨n, h1, h2, h3⟩
        by_cases e : n = i
        · subst e; exact .inr h1
        · exact .inl ⟨n, h1, by omega, h3⟩
theorem mem_miss {S : Mtx} {x : Int} : ∀ i, x ∈ missK S i ↔ ∃ n : Nat, x = (n : Int) ∧ n < i ∧ (S.getD n []).length = 0
  | 0 => ⟨(by intro h; cases h), (by rintro ⟨n, _, h, _⟩; omega)⟩
  | i + 1 => by
    have ih := mem_miss (S := S) (x := x) i
    unfold missK
    by_cases h0 : (S.getD i []).length = 0
    · rw [if_pos h0, List.mem_append, List.mem_singleton, ih]
      constructor
      · rintro (⟨n, h1, h2, h3⟩ | rfl)
        · exact ⟨n, h1, by omega, h3⟩
        · exact ⟨i, rfl, by omega, h0⟩
      · rintro ⟨n, h1, h2, h3⟩
        by_cases e : n = i
        · subst e; exact .inr h1
        · exact .inl ⟨n, h1, by omega, h3⟩
    · rw [if_neg h0, ih]
      constructor
      · rintro ⟨n, h1, h2, h3⟩; exact ⟨n, h1, by omega, h3⟩
      · rintro ⟨n, h1, h2, h3⟩
        by_cases e : n = i
        · subst e; exact absurd h3 h0
        · exact ⟨n, h1, by omega, h3⟩
theorem someK_done (S : Mtx) : someK S (thereL S) (thereL S).length = S := by
  apply List.ext_getElem?
  intro j
  unfold someK
  by_cases hj : j < S.length
  · rw [List.getElem?_map, List.getElem?_range hj, List.take_length, List.getElem?_eq_getElem hj]
    have hg := getD_of (List.getElem?_eq_getElem hj)
    show some (if (j : Int) ∈ thereL S then S.getD j [] else []) = _
    congr 1
    by_cases h : (j : Int) ∈ thereL S
    · rw [if_pos h, hg]
    · rw [if_neg h]
      by_cases h0 : (S.getD j []).length = 0
      · rw [hg] at h0
        exact (List.eq_nil_of_length_eq_zero h0).symm
      · exact absurd ((mem_there S.length).2 ⟨j, rfl, hj, h0⟩) h
  · rw [List.getElem?_eq_none (by simp; omega), List.getElem?_eq_none (by omega)]
end Go.Proofs.YtjokimlellbhjaaDoor

/-
  The first k that are there: their rows have an inverse.
-/
namespace Go.Proofs.YtjokimlellbhjaaDoor
open Go.RowKit

set_option maxRecDepth 20000
theorem thereK_succ (S : Mtx) (i : Nat) : thereK S (i + 1) = if (S.getD i []).length = 0 then thereK S i else thereK S i ++ [(i : Int)] := rfl
theorem there_prefix (S : Mtx) (p : Nat) : ∀ i, p ≤ i → (thereK S i).take (thereK S p).length = thereK S p := fun i hi => by
  obtain ⟨d, rfl⟩ : ∃ d, i = p + d := ⟨i - p, by omega⟩
  clear hi
  induction d with
  | zero => exact List.take_length
  | succ d ih =>
    have hle : (thereK S p).length ≤ (thereK S (p + d)).length := by
      have := congrArg List.length ih
      rw [List.length_take] at this
      omega
    show (if (S.getD (p + d) []).length = 0 then thereK S (p + d) else thereK S (p + d) ++ [((p + d : Nat) : Int)]).take _ = _
    split
    · exact ih
    · rw [List.take_append_of_le_length hle]; exact ih
theorem there_reach (S : Mtx) (k : Nat) : ∀ i, k ≤ (thereK S i).length → ∃ p, p ≤ i ∧ (thereK S p).length = k
  | 0, h => ⟨0, Nat.le_refl _, by have : (thereK S 0).length = 0 := rfl; omega⟩
  | i + 1, h => by
    by_cases hk : k ≤ (thereK S i).length
    · obtain ⟨p, h1, h2⟩ := there_reach S k i hk
      exact ⟨p, by omega, h2⟩
    · refine ⟨i + 1, Nat.le_refl _, ?_⟩
      have : (thereK S (i + 1)).length ≤ (thereK S i).length + 1 := by
        rw [thereK_succ]
        split
        · omega
        · rw [List.length_append, List.length_singleton]; exact Nat.le_refl _
      omega
/-- the same, all from p on struck -/
def struck (S : Mtx) (p N : Nat) : Mtx := (List.range N).map fun (j : Nat) => if j < p then S.getD j [] else []
theorem struck_get (S : Mtx) (p N j : Nat) (h : j < N) : (struck S p N).getD j [] = if j < p then S.getD j [] else [] := by
  unfold struck
  rw [List.getD_eq_getElem?_getD, List.getElem?_map, List.getElem?_range h]; rfl
theorem struck_there (S : Mtx) (p N : Nat) : ∀ i, i ≤ N → thereK (struck S p N) i = thereK S (min i p)
  | 0, _ => by rw [Nat.zero_min]; rfl
  | i + 1, h => by
    have ih := struck_there S p N i (by omega)
    rw [thereK_succ, struck_get S p N i (by omega)]
    by_cases hp : i < p
    · rw [if_pos hp, show min (i + 1) p = i + 1 by omega, ih, show min i p = i by omega, thereK_succ]
    · rw [if_neg hp, if_pos List.length_nil, ih, show min i p = p by omega, show min (i + 1) p = p by omega]
theorem miss_lt {S : Mtx} {i : Nat} {x : Int} (h : x ∈ missK S i) : x < (i : Int) := by
  obtain ⟨n, rfl, h1, _⟩ := (mem_miss i).1 h
  omega
theorem miss_nodup (S : Mtx) : ∀ i, (missK S i).Nodup
  | 0 => List.nodup_nil
  | i + 1 => by
    unfold missK
    split
    · rw [List.nodup_append]
      refine ⟨miss_nodup S i, by simp, fun x hx y hy e => ?_⟩
      rw [List.mem_singleton] at hy
      subst hy
      subst e
      have := miss_lt hx
      omega
    · exact miss_nodup S i
theorem there_keep {S : Mtx} {a b N : Nat} (h : ∀ j : Nat, j < N → ((S.getD j []).length = 0 ↔ j = a ∨ j = b)) : ∀ i, i ≤ N → thereK S i = keep a b i
  | 0, _ => rfl
  | i + 1, hi => by
    have ih := there_keep h i (by omega)
    have hj := h i (by omega)
    rw [thereK_succ]
    by_cases e : (S.getD i []).length = 0
    · rw [if_pos e, ih, keep_no (hj.1 e)]
    · rw [if_neg e, ih, keep_yes (fun q => e (hj.2 (.inl q))) (fun q => e (hj.2 (.inr q)))]
/-- the first k of those that are there are all but two -/
theorem first_keep {S : Mtx} {k : Nat} (hS : S.length = k + 2) (hm : (missL S).length ≤ 2) : ∃ a b, a ≠ b ∧ a < k + 2 ∧ b < k + 2 ∧ (thereL S).take k = keep a b (k + 2) := by
  have hp := part_length S S.length
  have hk : k ≤ (thereK S (k + 2)).length := by
    unfold missL at hm
    rw [hS] at hp hm
    omega
  obtain ⟨p, hpl, hpk⟩ := there_reach S k (k + 2) hk
  have e1 : (thereL S).take k = thereK S p := by
    unfold thereL
    rw [hS]
    have := there_prefix S p (k + 2) hpl
    rw [hpk] at this
    exact this
  have e2 : thereK (struck S p (k + 2)) (k + 2) = thereK S p := by
    rw [struck_there S p (k + 2) (k + 2) (Nat.le_refl _), show min (k + 2) p = p by omega]
  have hq := part_length (struck S p (k + 2)) (k + 2)
  rw [e2, hpk] at hq
  have hnd := miss_nodup (struck S p (k + 2)) (k + 2)
  rcases hl : missK (struck S p (k + 2)) (k + 2) with _ | ⟨x, _ | ⟨y, _ | ⟨z, t⟩⟩⟩
  · rw [hl] at hq; simp at hq
  · rw [hl] at hq; simp at hq
  · obtain ⟨a, ha, ha1, _⟩ := (mem_miss (S := struck S p (k + 2)) (x := x) (k + 2)).1 (by rw [hl]; simp)
    obtain ⟨b, hb, hb1, _⟩ := (mem_miss (S := struck S p (k + 2)) (x := y) (k + 2)).1 (by rw [hl]; simp)
    rw [hl] at hnd
    have hne : x ≠ y := by simpa using hnd
    refine ⟨a, b, fun e => hne (by rw [ha, hb, e]), ha1, hb1, ?_⟩
    rw [e1, ← e2]
    refine there_keep (N := k + 2) (fun j hj => ?_) (k + 2) (Nat.le_refl _)
    have := mem_miss (S := struck S p (k + 2)) (x := (j : Int)) (k + 2)
    rw [hl] at this
    simp only [List.mem_cons, List.not_mem_nil, or_false] at this
    constructor
    · intro h0
      rcases this.2 ⟨j, rfl, hj, h0⟩ with h | h
      · exact .inl (by omega)
      · exact .inr (by omega)
    · rintro (rfl | rfl)
      · obtain ⟨n, h1, _, h3⟩ := this.1 (.inl ha.symm)
        rw [show n = j by omega] at h3
        exact h3
      · obtain ⟨n, h1, _, h3⟩ := this.1 (.inr hb.symm)
        rw [show n = j by omega] at h3
        exact h3
  · rw [hl] at hq
    simp only [List.length_cons] at hq
    omega
theorem first_inv {S : Mtx} {k : Nat} (hk : k ≤ 253) (hS : S.length = k + 2) (hm : (missL S).length ≤ 2) : ∃ V, invK k (pick (allM k) ((thereL S).take k)) k = some V := by
  obtain ⟨a, b, h1, h2, h3, e⟩ := first_keep hS hm
  rw [e]
  exact kept_inv hk h1 h2 h3
end Go.Proofs.YtjokimlellbhjaaDoor

/-
  The program's Rebuild, its closure.
-/
namespace Go.Proofs.YtjokimlellbhjaaDoor
open Go.RowKit

set_option maxRecDepth 20000
/-- the missing ones laid in -/
def setK (S : Mtx) (m : List Int) (R : Mtx) : Nat → Mtx
  | 0 => S
  | i + 1 => (setK S m R i).set (m.getD i 0).toNat (R.getD i [])
theorem setK_length (S : Mtx) (m : List Int) (R : Mtx) : ∀ i, (setK S m R i).length = S.length
  | 0 => rfl
  | i + 1 => by
    show ((setK S m R i).set _ _).length = _
    rw [List.length_set]; exact setK_length S m R i
/-- how long those are that are there -/
def lenS (S : Mtx) : Nat := (fitS 0 S).getD 0
def madeL (k : Nat) (S : Mtx) : Mtx := match invK k (pick (allM k) ((thereL S).take k)) k with
  | none => []
  | some V => remL k S ((thereL S).take k) (missL S) V.2 (lenS S)
/-- what Rebuild tells -/
def rebB (k : Nat) (S : Mtx) : Bool := fitB ((k : Int) + 2) S && decide ((missL S).length ≤ 2)
def rebL (k : Nat) (S : Mtx) : Mtx := if rebB k S then setK S (missL S) (madeL k S) (missL S).length else []
def rebE (k : Nat) (S : Mtx) : Int := if fitB ((k : Int) + 2) S then (if (missL S).length ≤ 2 then 0 else 7) else 1
theorem lens_of {k : Nat} {S : Mtx} (h : rebB k S = true) (hk : 1 ≤ k) : S.length = k + 2 ∧ (missL S).length ≤ 2 ∧ 1 ≤ lenS S ∧ (∀ (i : Nat) (l : List UInt8), S[i]? = some l → l.length = 0 ∨ l.length = lenS S) ∧ k ≤ (thereL S).length := by
  unfold rebB fitB at h
  rw [Bool.and_eq_true, Bool.and_eq_true, decide_eq_true_eq, decide_eq_true_eq] at h
  obtain ⟨⟨h1, h2⟩, h3⟩ := h
  obtain ⟨m, hm⟩ := Option.isSome_iff_exists.1 h2
  obtain ⟨_, f2, _, f4⟩ := fitS_some S 0 m hm
  have e : lenS S = m := by unfold lenS; rw [hm]; rfl
  have hp := part_length S S.length
  have hl : k ≤ (thereL S).length := by
    unfold missL at h3
    unfold thereL
    omega
  have hS : S.length = k + 2 := by omega
  obtain ⟨x, hx⟩ : ∃ x, (thereL S)[0]? = some x := ⟨_, List.getElem?_eq_getElem (by omega)⟩
  obtain ⟨n, rfl, hn, hn0⟩ := (mem_there S.length).1 (List.mem_of_getElem? hx)
  have hgn := f2 (S.getD n []) (by rw [getD_of (List.getElem?_eq_getElem hn)]; exact List.getElem_mem hn)
  exact ⟨hS, h3, by omega, fun i l hl' => by rw [e]; exact f2 l (List.mem_of_getElem? hl'), hl⟩
theorem setK_other {S : Mtx} {m : List Int} {R : Mtx} {j : Nat} : ∀ i, (∀ t, t < i → (m.getD t 0).toNat ≠ j) → (setK S m R i)[j]? = S[j]?
  | 0, _ => rfl
  | i + 1, h => by
    show ((setK S m R i).set _ _)[j]? = _
    rw [List.getElem?_set_ne (h i (by omega))]
    exact setK_other i fun t ht => h t (by omega)
theorem setK_at {S : Mtx} {m : List Int} {R : Mtx} {j t : Nat} (hj : j < S.length) (htj : (m.getD t 0).toNat = j) : ∀ i, t < i → (∀ s, s < i → s ≠ t → (m.getD s 0).toNat ≠ j) → (setK S m R i)[j]? = some (R.getD t [])
  | 0, h, _ => by omega
  | i + 1, h, hd => by
    show ((setK S m R i).set _ _)[j]? = _
    by_cases e : t = i
    · subst e
      rw [htj, List.getElem?_set_self (by rw [setK_length]; exact hj)]
    · rw [List.getElem?_set_ne (hd i (by omega) (fun q => e q.symm))]
      exact setK_at hj htj i (by omega) fun s hs => hd s (by omega)
/-- the second loop's relation: i of the made are laid -/
structure LaidAt (w w5 : World) (lo g N : Nat) (rows : List Value) (S : Mtx) (m : List Int) (R : Mtx) (i : Nat) (wr : World) : Prop where
  st : ∃ vs, AllAt w g N vs (setK S m R i) wr ∧ ∀ (j : Nat) (v : Value) (x : Nat), vs[j]? = some v → v.ownBlock = some x → x < lo ∨ ∃ t r, t < i ∧ rows[t]? = some r ∧ r.ownBlock = some x
  keep : Kept (fun b => b ≠ g) w5 wr
theorem LaidAt.start {w w4 w5 : World} {g N : Nat} {vs rows : List Value} {S R : Mtx} {m : List Int} (h : AllAt w g N vs S w4) (hb : Below w4.heap.size w4 w5) : LaidAt w w5 w4.heap.size g N rows S m R 0 w5 :=
  ⟨⟨vs, h.below hb, fun j v x hv hx => by
    obtain ⟨l, hl⟩ : ∃ l, S[j]? = some l := ⟨_, List.getElem?_eq_getElem (by rw [h.mlen, ← h.len]; exact (List.getElem?_eq_some_iff.1 hv).1)⟩
    exact .inl ((h.rows j v l hv hl).lt x hx).2⟩, Kept.refl _ _⟩
/-- the made: a matrix in blocks from lo on -/
structure MadeAt (w5 : World) (lo g : Nat) (rows : List Value) (R : Mtx) : Prop where
  len : rows.length = R.length
  own : ∀ (i : Nat) (r : Value) (l : List UInt8), rows[i]? = some r → R[i]? = some l → Own w5 lo r l
  apart : ∀ (i j : Nat) (ri rj : Value) (x : Nat), i ≠ j → rows[i]? = some ri → rows[j]? = some rj → ri.ownBlock = some x → rj.ownBlock ≠ some x
  head : ∃ cs, Cells w5 g 25 cs
theorem LaidAt.step {w w5 wr : World} {lo g N i mi : Nat} {rows : List Value} {S R : Mtx} {m : List Int} {r : Value} (h : LaidAt w w5 lo g N rows S m R i wr) (hR : MadeAt w5 lo g rows R) (hlo : w.heap.size ≤ lo) (hr : rows[i]? = some r) (hm : m[i]? = some (mi : Int)) (hmi : mi < N) :
    (∃ u, wr.cell? ⟨g, mi, none⟩ = some u) ∧ wr.frozen? ⟨g, mi, none⟩ = false ∧ LaidAt w w5 lo g N rows S m R (i + 1) (wr.setCell ⟨g, mi, none⟩ r) := by
  obtain ⟨vs, h1, h2⟩ := h.st
  obtain ⟨cs, hcs⟩ := hR.head
  obtain ⟨l, hl⟩ : ∃ l, R[i]? = some l := ⟨_, List.getElem?_eq_getElem (by rw [← hR.len]; exact (List.getElem?_eq_some_iff.1 hr).1)⟩
  have ho := hR.own i r l hr hl
  have hg := own_ne ho hcs
  have ho2 : Own wr w.heap.size r l := (ho.move fun x hx => h.keep.block x (ho.lt x hx).2 fun e => hg (by rw [← e]; exact hx)).wide hlo
  obtain ⟨p1, p2, p3⟩ := h1.put hmi ho2 hg (fun j u x hu hx hrx => by
    rcases h2 j u x hu hx with q | ⟨t, rt, ht, hrt, hrtx⟩
    · have := (ho.lt x hrx).1
      omega
    · exact hR.apart t i rt r x (by omega) hrt hr hrtx hrx)
  refine ⟨p1, p2, ⟨vs.set mi r, ?_, fun j v x hv hx => ?_⟩, h.keep.setCell (p := ⟨g, mi, none⟩) (fun e => e rfl) _⟩
  · show AllAt w g N _ ((setK S m R i).set (m.getD i 0).toNat (R.getD i [])) _
    rw [getD_of hl, show (m.getD i 0).toNat = mi by rw [List.getD_eq_getElem?_getD, hm]; rfl]
    exact p3
  · by_cases e : mi = j
    · subst e
      rw [List.getElem?_set_self (by rw [h1.len]; exact hmi)] at hv
      cases hv
      exact .inr ⟨i, r, by omega, hr, hx⟩
    · rw [List.getElem?_set_ne e] at hv
      rcases h2 j v x hv hx with q | ⟨t, rt, ht, q1, q2⟩
      · exact .inl q
      · exact .inr ⟨t, rt, by omega, q1, q2⟩
theorem madeL_length {k : Nat} {S : Mtx} (h : rebB k S = true) (hk1 : 1 ≤ k) (hk2 : k ≤ 253) : (madeL k S).length = (missL S).length := by
  obtain ⟨h1, h2, _⟩ := lens_of h hk1
  obtain ⟨V, hV⟩ := first_inv hk2 h1 h2
  unfold madeL remL
  rw [hV]
  show (if (missL S).length = 0 then [] else _).length = _
  split
  · simp; omega
  · unfold wayM
    rw [linM_length, timesM_length, pick_length]
theorem lin_length {r : List UInt8} {L : Mtx} {n : Nat} (hr : r.length ≤ L.length) (hL : ∀ (k : Nat) (l : List UInt8), L[k]? = some l → l.length = n) : (lin r L n).length = n := linK_length r L n hL _ hr
theorem first_dim {k : Nat} {S : Mtx} (h1 : S.length = k + 2) (h5 : k ≤ (thereL S).length) : Dim (pick (allM k) ((thereL S).take k)) k := ⟨by rw [pick_length, List.length_take]; omega, pick_dim fun x hx => by
    obtain ⟨n, rfl, hn, _⟩ := (mem_there S.length).1 (List.mem_of_mem_take hx)
    omega⟩
theorem first_len {k : Nat} {S : Mtx} (h4 : ∀ (i : Nat) (l : List UInt8), S[i]? = some l → l.length = 0 ∨ l.length = lenS S) : ∀ (t : Nat) (l : List UInt8), (pick S ((thereL S).take k))[t]? = some l → l.length = lenS S := fun t l hl => by
  unfold pick at hl
  rw [List.getElem?_map] at hl
  obtain ⟨x, hx, rfl⟩ := Option.map_eq_some_iff.1 hl
  obtain ⟨n, rfl, hn, hn0⟩ := (mem_there S.length).1 (List.mem_of_mem_take (List.mem_of_getElem? hx))
  rw [Int.toNat_natCast]
  have h9 := h4 n _ (List.getElem?_eq_getElem hn)
  rw [getD_of (List.getElem?_eq_getElem hn)] at hn0 ⊢
  omega
theorem made_row {k : Nat} {S : Mtx} (h : rebB k S = true) (hk1 : 1 ≤ k) (hk2 : k ≤ 253) {t : Nat} {l : List UInt8} (hl : (madeL k S)[t]? = some l) : l.length = lenS S := by
  obtain ⟨h1, h2, _, h4, h5⟩ := lens_of h hk1
  obtain ⟨V, hV⟩ := first_inv hk2 h1 h2
  have hd := first_dim h1 h5
  have hdV : Dim V.2 k := (invK_good hd k V (Nat.le_refl _) hV).d2
  unfold madeL remL at hl
  rw [hV] at hl
  change (if (missL S).length = 0 then [] else _)[t]? = some l at hl
  by_cases h0 : (missL S).length = 0
  · rw [if_pos h0] at hl; simp at hl
  · rw [if_neg h0] at hl
    unfold linM at hl
    rw [List.getElem?_map] at hl
    obtain ⟨r, hr, rfl⟩ := Option.map_eq_some_iff.1 hl
    have hrk : r.length = k := by
      unfold wayM at hr
      rw [timesM_row hr]
      exact hdV.2 0 _ (head_get (by rw [hdV.1]; omega))
    exact lin_length (by rw [hrk, pick_length, List.length_take]; omega) (first_len h4)
theorem reb_row {k : Nat} {S : Mtx} (h : rebB k S = true) (hk1 : 1 ≤ k) (hk2 : k ≤ 253) {j : Nat} {l : List UInt8} (hl : (setK S (missL S) (madeL k S) (missL S).length)[j]? = some l) : l.length = lenS S := by
  obtain ⟨h1, h2, _, h4, h5⟩ := lens_of h hk1
  have hj : j < S.length := by rw [← setK_length S (missL S) (madeL k S) (missL S).length]; exact (List.getElem?_eq_some_iff.1 hl).1
  have hnd : (missL S).Nodup := miss_nodup S S.length
  by_cases h0 : (S.getD j []).length = 0
  · obtain ⟨t, ht⟩ := List.getElem?_of_mem ((mem_miss (S := S) (x := (j : Int)) S.length).2 ⟨j, rfl, hj, h0⟩)
    have htl : t < (missL S).length := (List.getElem?_eq_some_iff.1 ht).1
    have e : ((missL S).getD t 0).toNat = j := by
      rw [List.getD_eq_getElem?_getD, show (missL S)[t]? = some (j : Int) from ht]; rfl
    have := setK_at (S := S) (m := missL S) (R := madeL k S) hj e (missL S).length htl (fun s hs hst q => by
      have e1 : (missL S)[s]? = some (missL S)[s] := List.getElem?_eq_getElem hs
      obtain ⟨n, hn, _⟩ := (mem_miss (S := S) S.length).1 (List.getElem_mem hs)
      rw [List.getD_eq_getElem?_getD, e1] at q
      have q2 : (missL S)[s].toNat = j := q
      have q3 : (missL S)[s] = (missL S)[t] := by
        have e2 := (List.getElem?_eq_some_iff.1 ht).2
        have e3 : (missL S)[t] = (j : Int) := e2
        rw [e3]
        have e4 : (missL S)[s] = (n : Int) := hn
        rw [e4] at q2 ⊢
        omega
      exact hst ((List.getElem_inj hnd).1 q3))
    rw [this] at hl
    cases hl
    exact made_row h hk1 hk2 (t := t) (by rw [getD_of (List.getElem?_eq_getElem (by rw [madeL_length h hk1 hk2]; exact htl))]; exact List.getElem?_eq_getElem _)
  · rw [setK_other _ (fun t ht q => by
      have e1 : (missL S)[t]? = some (missL S)[t] := List.getElem?_eq_getElem ht
      obtain ⟨n, hn, hn1, hn2⟩ := (mem_miss (S := S) S.length).1 (List.getElem_mem ht)
      rw [List.getD_eq_getElem?_getD, e1] at q
      have q2 : (missL S)[t].toNat = j := q
      have e4 : (missL S)[t] = (n : Int) := hn
      rw [e4] at q2
      have : n = j := by omega
      subst this
      exact h0 hn2)] at hl
    rw [getD_of hl] at h0
    have := h4 j l hl
    omega
end Go.Proofs.YtjokimlellbhjaaDoor

/-
  The program's Rebuild, New, K; the laws' few, known.
-/
namespace Go.Proofs.YtjokimlellbhjaaDoor
open Go.RowKit

set_option maxRecDepth 20000
/-- New, K -/
theorem new_yes (k : Nat) (w : World) (h1 : 1 ≤ k) (h2 : k ≤ 32) :
    Calls Tryd.prog 44 #[.int .i64 (k : Int)] w fun e w' => e = .returned (.tuple #[.pointer (some ⟨w.heap.size, 0, none⟩), .int .i64 0]) ∧ w' = w.alloc (.cells #[.int .i64 (k : Int)] 106) := by
  have a1 : ¬ (k : Int) < 1 := by omega
  have a2 : ¬ (32 : Int) < (k : Int) := by omega
  have a3 : (1 : Int) ≤ (k : Int) := by omega
  have a4 : (k : Int) ≤ 32 := by omega
  clear h1 h2
  go_enter Tryd.func44, Tryd.ntmps44
  go_wp2_with fail
  go_ret2
  exact ⟨rfl, rfl⟩
theorem new_no (n : Int) (w : World) (h : n < 1 ∨ 32 < n) :
    Calls Tryd.prog 44 #[.int .i64 n] w fun e w' => e = .returned (.tuple #[.pointer none, .int .i64 1]) ∧ w' = w := by
  rcases h with h | h
  · go_enter Tryd.func44, Tryd.ntmps44
    go_wp2_with fail
    go_ret2
    exact ⟨rfl, rfl⟩
  · have a1 : ¬ n < 1 := by omega
    have a2 : decide (n < 1) = false := by simp; omega
    go_enter Tryd.func44, Tryd.ntmps44
    go_wp2_with fail
    go_ret2
    exact ⟨rfl, rfl⟩
/-- how many bytes there are -/
def sumS (S : Mtx) : Nat := (S.map fun l => l.length).sum
def fewS (S : Mtx) : Bool := decide (S.length ≤ 40) && decide (sumS S ≤ 4000)
theorem sumS_take (M : Mtx) (k : Nat) (l : List UInt8) (h : M[k]? = some l) : sumS (M.take (k + 1)) = sumS (M.take k) + l.length := by
  have hk := (List.getElem?_eq_some_iff.1 h).1
  have hx := (List.getElem?_eq_some_iff.1 h).2
  unfold sumS
  rw [List.take_succ_eq_append_getElem hk, hx]
  simp
theorem sumS_le {S : Mtx} {k : Nat} {l : List UInt8} (h : S[k]? = some l) : l.length ≤ sumS S := by
  have : l ∈ S := List.mem_of_getElem? h
  unfold sumS
  clear h
  induction S with
  | nil => cases this
  | cons a t ih =>
    simp only [List.map_cons, List.sum_cons]
    rcases List.mem_cons.1 this with rfl | h2
    · omega
    · have := ih h2
      omega
theorem few_facts {S : Mtx} (h : fewS S = true) : S.length ≤ 40 ∧ sumS S ≤ 4000 := by
  unfold fewS at h
  rw [Bool.and_eq_true, decide_eq_true_eq, decide_eq_true_eq] at h
  exact h
/-- equally long, and so many -/
theorem par_yes {k n : Nat} {S : Mtx} (hS : S.length = k) (hn : 1 ≤ n) (h : ∀ (i : Nat) (l : List UInt8), S[i]? = some l → l.length = n) : parB k S = true := by
  have hf : (fitS 0 S).isSome = true := by
    rcases hq : fitS 0 S with _ | m
    · exact absurd (fun l hl => by
        obtain ⟨i, hi⟩ := List.getElem?_of_mem hl
        exact .inr (h i l hi)) (fitS_none S 0 hq n (.inl rfl))
    · rfl
  have hm : ∀ i, i ≤ S.length → missK S i = [] := fun i => by
    induction i with
    | zero => intro _; rfl
    | succ i ih =>
      intro hi
      have e := List.getElem?_eq_getElem (show i < S.length by omega)
      show (if (S.getD i []).length = 0 then missK S i ++ [(i : Int)] else missK S i) = []
      rw [if_neg (by rw [getD_of e, h i _ e]; omega)]
      exact ih (by omega)
  unfold parB fitB missL
  rw [decide_eq_true (by rw [hS]), hf, hm _ (Nat.le_refl _)]
  rfl
end Go.Proofs.YtjokimlellbhjaaDoor
