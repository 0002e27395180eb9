/-
  The program's remade.
-/
import Derived.Test.YtlficcdbnmheeaaDoorKRs6
import Derived.Deep.RegionLaw
import Derived.Deep.DeepMust
import Derived.Test.YtlficcdbnmheeaaDoorKGf25
namespace Go.Proofs.YtlficcdbnmheeaaDoor
open Go.RowKit

set_option maxRecDepth 20000
/-- append(v, xs...) at a step of a region that draws its order: cells -/
theorem step_app_many {w : World} {ops : Array Oper} {K : Act → World → Prop} {E : Prop} {o : Oper} {a : Act} {Q : Exit → Act → World → Prop} (hgd : o.guard = none) (s x : Operand) (t e : TypeId)
    (ho : o.op = .call { callee := .builtin .append, args := #[s, x], argTypes := #[t, t] })
    (hu : Tryd.prog.underlying t = some (.slice e)) (z : Value) (bytes : Nat) (hi : (Tryd.prog.info? e).map (fun i => (i.zero, i.size, i.bytes)) = some (some z, 1, bytes)) (hzc : z.cells.size = 1)
    (base : Nat) (v : Value) (xs : List Value) (hs : a.eval s = v) (hown : OwnV w base e v xs)
    (ad : Addr) (m c : Nat) (us : List Value) (hx : a.eval x = .slice (some ad) m c) (hm : m = us.length) (hc : ∀ j u, us[j]? = some u → w.cell? (ad.add j) = some u) (h1 : ∀ u ∈ us, u.oneCell' = true)
    (hlen : xs.length + us.length ≤ 140737488355327) (hbytes : (xs.length + us.length) * bytes ≤ 140737488355328) (hbase : base ≤ w.heap.size)
    (h : ∀ v' w', OwnV w' base e v' (xs ++ us) → w.grownBy w' v.ownBlock → (v'.ownBlock = v.ownBlock ∨ v'.ownBlock = some w.heap.size) → K (a.put o.dst v') w') :
    if Region.wanted o (yielded ops a.tmps) = true then Oper.wp Tryd.prog o a w K Q else E := by
  subst hm
  have hw : Region.wanted o (yielded ops a.tmps) = true := by simp [Region.wanted, hgd]
  rw [if_pos hw]
  obtain ⟨v', w', hrun, h2, h3, h5⟩ := app_cells_run (w := w) t o.type e hu z bytes hi hzc base v xs hown ad c us hc h1 hlen hbytes hbase
  unfold Oper.wp execOp
  simp only [ho, resolve, invoke, builtin, Sem.run_bind, Sem.run_pure, Result.andThen_ok, List.map_toArray, List.map_cons, List.map_nil, hs, hx]
  rw [show (Builtin.append_ #[t, t] o.type #[v, .slice (some ad) us.length c]).run Tryd.prog w = .ok v' w' from hrun]
  exact h v' w' h2 h3 h5
/-- a matrix of the call's own: its header cells; they read as its rows, also behind an append to its header, or to what lies lower -/
theorem mat_both {w : World} {lo hi g n c : Nat} {M : Mtx} (h : MatO w lo hi (.slice (some ⟨g, 0, none⟩) n c) M) : ∃ rows, OwnV w lo 25 (.slice (some ⟨g, 0, none⟩) n c) rows ∧ RowsV w rows M ∧
    (∀ (i : Nat) (r : Value), rows[i]? = some r → w.cell? ⟨g, i, none⟩ = some r) ∧ ∀ (w' : World) (x : Nat), w.grownBy w' (some x) → (x = g ∨ x < lo) → RowsV w' rows M := by
  have h' := h
  obtain ⟨rows, a, _, b, d, _⟩ := h
  obtain ⟨A, c', e, _, _, hrd⟩ := a.rd
  have hcell : ∀ (i : Nat) (r : Value), rows[i]? = some r → w.cell? ⟨g, i, none⟩ = some r := fun i r hr => by
    obtain ⟨b9, e9, h8, h9⟩ := hrd i r hr
    have e1 := (Value.slice.inj e).1
    rw [e9] at e1
    cases e1
    exact h9
  have key : ∀ (i : Nat) (r : Value) (l : List UInt8), rows[i]? = some r → M[i]? = some l → ∃ b9 c9, r = .slice (some ⟨b9, 0, none⟩) l.length c9 ∧ RowAt w lo hi g i b9 c9 l := fun i r l hr hl => by
    obtain ⟨b9, c9, hrow, _⟩ := h'.row hl
    have := hcell i r hr
    rw [hrow.head] at this
    exact ⟨b9, c9, (Option.some.inj this).symm, hrow⟩
  refine ⟨rows, a, ⟨b, fun i r l hr hl => ?_⟩, hcell, fun w' x hg hx => ⟨b, fun i r l hr hl => ?_⟩⟩
  · obtain ⟨b9, c9, rfl, hrow⟩ := key i r l hr hl
    exact ⟨_, c9, rfl, fun j y hy => ⟨_, rfl, hrow.lt, by rw [add_flat, Nat.zero_add]; exact hrow.cells j y hy⟩, hrow.cap⟩
  · obtain ⟨b9, c9, rfl, hrow⟩ := key i r l hr hl
    have hne : some b9 ≠ some x := fun e9 => by
      have e8 := Option.some.inj e9
      have := hrow.ne
      have := hrow.low
      omega
    exact ⟨_, c9, rfl, fun j y hy => ⟨_, rfl, Nat.lt_of_lt_of_le hrow.lt hg.size, by
      rw [add_flat, Nat.zero_add]
      exact (World.cell?_of_block (w := w) (hg.block b9 hrow.lt (fun e9 => hne e9))).trans (hrow.cells j y hy)⟩, hrow.cap⟩
/-- the shards of these numbers -/
def headers (w : World) (b o : Nat) (f : List Int) : List Value := f.map fun x => (w.cell? ⟨b, o + x.toNat, none⟩).getD undef
structure SrcAt (w w0 : World) (g b o : Nat) (f : List Int) (i : Nat) (wr : World) : Prop where
  head : Cells wr g 25 ((headers w b o f).take i ++ List.replicate (f.length - i) (.slice none 0 0))
  bel : Below w0.heap.size w0 wr
theorem SrcAt.step {w w0 wr : World} {g b o i : Nat} {f : List Int} {x : Int} {u : Value} (h : SrcAt w w0 g b o f i wr) (hg : w0.heap.size ≤ g) (hx : f[i]? = some x) (hu : w.cell? ⟨b, o + x.toNat, none⟩ = some u) :
    wr.cell? ⟨g, i, none⟩ = some (.slice none 0 0) ∧ wr.frozen? ⟨g, i, none⟩ = false ∧ SrcAt w w0 g b o f (i + 1) (wr.setCell ⟨g, i, none⟩ u) := by
  have hi := (List.getElem?_eq_some_iff.1 hx).1
  have hhl : (headers w b o f).length = f.length := List.length_map _
  have hhi : (headers w b o f)[i]? = some u := by
    unfold headers
    rw [List.getElem?_map, hx]
    simp [hu]
  have hl : ((headers w b o f).take i).length = i := by rw [List.length_take, hhl]; omega
  obtain ⟨m, hm⟩ : ∃ m, f.length - i = m + 1 := ⟨f.length - i - 1, by omega⟩
  refine ⟨h.head.cell ?_, h.head.frozen i, ?_, h.bel.setCell (p := ⟨g, i, none⟩) hg _⟩
  · rw [List.getElem?_append_right (by omega), hl, Nat.sub_self, hm]; rfl
  · have := h.head.set i u
    rw [List.set_append_right _ _ (by omega), hl, Nat.sub_self, hm, List.replicate_succ, List.set_cons_zero] at this
    rw [List.take_succ_eq_append_getElem (by rw [hhl]; exact hi), (List.getElem?_eq_some_iff.1 hhi).2, show f.length - (i + 1) = m by omega]
    simpa using this
theorem SrcAt.done {w w0 wr : World} {g b o : Nat} {f : List Int} {S : Mtx} (h : SrcAt w w0 g b o f f.length wr) (hw : Below w.heap.size w w0) (hS : RM w w.heap.size (some ⟨b, o, none⟩) S) (hf : ∀ x ∈ f, 0 ≤ x ∧ x < (S.length : Int)) : RM wr wr.heap.size (some ⟨g, 0, none⟩) (pick S f) := fun i l hl => by
  have hhl : (headers w b o f).length = f.length := List.length_map _
  have hi : i < f.length := by have := (List.getElem?_eq_some_iff.1 hl).1; simpa [pick] using this
  obtain ⟨x, hx⟩ : ∃ x, f[i]? = some x := ⟨_, List.getElem?_eq_getElem hi⟩
  have hxb := hf x (List.mem_of_getElem? hx)
  have e : l = S.getD x.toNat [] := by
    unfold pick at hl
    rw [List.getElem?_map, hx] at hl
    exact (Option.some.inj hl).symm
  obtain ⟨y, hy⟩ : ∃ y, S[x.toNat]? = some y := ⟨_, List.getElem?_eq_getElem (by omega)⟩
  rw [getD_of hy] at e
  subst e
  obtain ⟨A', c', hc, hr, hcap⟩ := hS.row hy
  have hlt := h.head.lt
  have hw2 : Below w.heap.size w wr := hw.trans (h.bel.mono hw.size)
  refine ⟨g, 0, A', c', rfl, hlt, ?_, (hr.below hw2).wide hw2.size, hcap⟩
  rw [Nat.zero_add]
  refine h.head.cell ?_
  rw [Nat.sub_self, List.replicate_zero, List.append_nil, List.take_of_length_le (by omega)]
  unfold headers
  rw [List.getElem?_map, hx]
  simp [hc]
end Go.Proofs.YtlficcdbnmheeaaDoor

/-
  The program's remade, walked.
-/
namespace Go.Proofs.YtlficcdbnmheeaaDoor
open Go.RowKit

set_option maxRecDepth 20000
/-- a list of lists that was told alone -/
def TellsL (w : World) (L : Mtx) (e : Ending) (w' : World) : Prop :=
  ∃ A c, e = .returned (.slice A L.length c) ∧ MatO w' w.heap.size w'.heap.size (.slice A L.length c) L ∧ Below w.heap.size w w'
theorem pick_dim {k : Nat} {f : List Int} (hf : ∀ x ∈ f, 0 ≤ x ∧ x < (k : Int) + 2) : ∀ (t : Nat) (l : List UInt8), (pick (allM k) f)[t]? = some l → l.length = k := fun t l hl => by
  unfold pick at hl
  rw [List.getElem?_map] at hl
  obtain ⟨x, hx, rfl⟩ := Option.map_eq_some_iff.1 hl
  have := hf x (List.mem_of_getElem? hx)
  have hlt : x.toNat < (allM k).length := by rw [allM_length]; omega
  rw [getD_of (List.getElem?_eq_getElem hlt)]
  exact allM_row k x.toNat _ (List.getElem?_eq_getElem hlt)
theorem pick_length (M : Mtx) (f : List Int) : (pick M f).length = f.length := List.length_map _
theorem allM_right {k : Nat} (h1 : 1 ≤ k) (h2 : k ≤ 253) : rightB (allM k) = true := by
  have h0 : (allM k)[0]? = some ((allM k).headD []) := head_get (by rw [allM_length]; omega)
  have hk := allM_row k 0 _ h0
  refine decide_eq_true ⟨by rw [allM_length]; omega, by rw [allM_length]; omega, by omega, by omega, fun l hl => ?_⟩
  obtain ⟨j, hj⟩ := List.getElem?_of_mem hl
  rw [hk]
  exact allM_row k j l hj
theorem pick_rowsB {k : Nat} {f : List Int} (h1 : 1 ≤ k) (h2 : k ≤ 253) (hl : 1 ≤ f.length ∧ f.length ≤ 255) (hf : ∀ x ∈ f, 0 ≤ x ∧ x < (k : Int) + 2) : rowsB (allM k) f = true := by
  unfold rowsB
  rw [allM_right h1 h2, decide_eq_true ⟨hl.1, hl.2, fun x hx => ⟨(hf x hx).1, by have := (hf x hx).2; rw [allM_length]; omega⟩⟩]
  rfl
theorem right_of {M : Mtx} {n : Nat} (h1 : 1 ≤ M.length) (h2 : M.length ≤ 255) (h3 : 1 ≤ n) (h4 : n ≤ 255) (hr : ∀ (t : Nat) (l : List UInt8), M[t]? = some l → l.length = n) : rightB M = true ∧ (M.headD []).length = n := by
  have hh := hr 0 _ (head_get (by omega))
  refine ⟨decide_eq_true ⟨h1, h2, by omega, by omega, fun l hl => ?_⟩, hh⟩
  obtain ⟨j, hj⟩ := List.getElem?_of_mem hl
  rw [hh]
  exact hr j l hj
theorem right_dim' {P : Mtx} {k : Nat} (hd : Dim P k) (h1 : 1 ≤ k) (h2 : k ≤ 255) : rightB P = true := (right_of (by rw [hd.1]; exact h1) (by rw [hd.1]; exact h2) h1 h2 hd.2).1
theorem sq_dim' {P : Mtx} {k : Nat} (hd : Dim P k) (h1 : 1 ≤ k) (h2 : k ≤ 255) : sqB P = true := by
  unfold sqB
  rw [right_dim' hd h1 h2, decide_eq_true]
  · rfl
  · rw [hd.1, hd.2 0 _ (head_get (by rw [hd.1]; omega))]
theorem timesM_length (M O : Mtx) : (timesM M O).length = M.length := by simp [timesM, turnedM]
theorem timesM_row {M O : Mtx} {t : Nat} {l : List UInt8} (h : (timesM M O)[t]? = some l) : l.length = (O.headD []).length := by
  unfold timesM at h
  have := turned_row _ _ t l h
  rw [this, List.length_map]
  simp [turnedM]
theorem mat_head_lt {w : World} {lo hi g n c : Nat} {M : Mtx} (h : MatO w lo hi (.slice (some ⟨g, 0, none⟩) n c) M) (h0 : 0 < M.length) : g < w.heap.size := by
  obtain ⟨g', c', e, _, _, _, hlt, _⟩ := h.head h0
  cases e
  exact hlt
/-- the rows that make the missing -/
def wayM (k : Nat) (m : List Int) (V : Mtx) : Mtx := timesM (pick (allM k) m) V
def remL (k : Nat) (S : Mtx) (f m : List Int) (V : Mtx) (n : Nat) : Mtx := if m.length = 0 then [] else linM (wayM k m V) (pick S f) n
set_option maxHeartbeats 4000000 in
theorem remade_any (bc k b o c N n : Nat) (S : Mtx) (A1 : Option Addr) (c1 : Nat) (f : List Int) (A2 : Option Addr) (c2 ml : Nat) (m : List Int) (V : Mtx × Mtx) (w : World) (hc : w.cell? ⟨bc, 0, none⟩ = some (.int .i64 (k : Int)))
    (hS : RM w w.heap.size (some ⟨b, o, none⟩) S) (hN : N = S.length) (hNk : N = k + 2) (h1 : RI w w.heap.size A1 f) (hf1 : f.length = k) (h2 : RI w w.heap.size A2 m) (hm1 : ml = m.length) (hm2 : ml ≤ 2) (hk1 : 1 ≤ k) (hk2 : k ≤ 253)
    (hf : ∀ x ∈ f, 0 ≤ x ∧ x < (k : Int) + 2) (hm : ∀ x ∈ m, 0 ≤ x ∧ x < (k : Int) + 2) (hn : ∀ x ∈ f, (S.getD x.toNat []).length = n) (hn1 : 1 ≤ n) (hn2 : n ≤ 1048576) (hV : invK k (pick (allM k) f) k = some V) :
    Calls Tryd.prog 118 #[.pointer (some ⟨bc, 0, none⟩), .slice (some ⟨b, o, none⟩) N c, .slice A1 k c1, .slice A2 ml c2] w (TellsL w (remL k S f m V.2 n)) := by
  by_cases h0 : ml = 0
  · have Hr : Hid (remL k S f m V.2 n = []) := if_pos (by omega)
    subst h0
    clear hc hS hN hNk h1 hf1 h2 hm1 hm2 hk1 hk2 hf hm hn hn1 hn2 hV
    go_enter Tryd.func118, Tryd.ntmps118
    go_wp2_with fail
    go_ret
    rw [Hr.out]
    exact ⟨none, 0, rfl, MatO.nought _ _ _, Below.refl _ _⟩
  have hb0 : ((ml : Int) == 0) = false := by simp; omega
  have hdf : Dim (pick (allM k) f) k := ⟨by rw [pick_length, hf1], pick_dim hf⟩
  have hdV : Dim V.2 k := (invK_good hdf k V (Nat.le_refl _) hV).d2
  have Hr : Hid (remL k S f m V.2 n = linM (wayM k m V.2) (pick S f) n) := if_neg (by omega)
  have Hf : Hid (rowsL (allM k) f = pick (allM k) f ∧ rowsE (allM k) f = 0) := by
    have := pick_rowsB hk1 hk2 ⟨by omega, by omega⟩ hf
    unfold rowsL rowsE
    rw [if_pos this, if_pos this]
    exact ⟨rfl, rfl⟩
  have Hm : Hid (rowsL (allM k) m = pick (allM k) m ∧ rowsE (allM k) m = 0) := by
    have := pick_rowsB hk1 hk2 ⟨by omega, by omega⟩ hm
    unfold rowsL rowsE
    rw [if_pos this, if_pos this]
    exact ⟨rfl, rfl⟩
  have Hi : Hid (invL (pick (allM k) f) = V.2 ∧ invC (pick (allM k) f) = 0) := by
    have hsq := sq_dim' hdf hk1 (by omega)
    unfold invL invC
    rw [if_pos hsq, if_pos hsq, hdf.1, hV]
    exact ⟨rfl, rfl⟩
  have Ht : Hid (timesL (pick (allM k) m) V.2 = wayM k m V.2 ∧ timesE (pick (allM k) m) V.2 = 0) := by
    obtain ⟨g1, g2⟩ := right_of (M := pick (allM k) m) (n := k) (by rw [pick_length]; omega) (by rw [pick_length]; omega) hk1 (by omega) (pick_dim hm)
    have hbb : timesB (pick (allM k) m) V.2 = true := by
      unfold timesB
      rw [g1, right_dim' hdV hk1 (by omega), decide_eq_true (by rw [g2, hdV.1])]; rfl
    unfold timesL timesE
    rw [if_pos hbb, if_pos hbb]
    exact ⟨rfl, rfl⟩
  have Hb : Hid (1 ≤ k ∧ k ≤ 253 ∧ 1 ≤ ml ∧ ml ≤ 2 ∧ 1 ≤ n ∧ n ≤ 1048576 ∧ f.length = k ∧ ml = m.length ∧ N = S.length ∧ N = k + 2) := ⟨hk1, hk2, by omega, hm2, hn1, hn2, hf1, hm1, hN, hNk⟩
  have Hff : Hid ((∀ x ∈ f, 0 ≤ x ∧ x < (k : Int) + 2) ∧ ∀ x ∈ f, (S.getD x.toNat []).length = n) := ⟨hf, hn⟩
  have Hmm := Lib.hid hm
  have HdV := Lib.hid hdV
  have HS := Lib.hid hS
  have H1 := Lib.hid h1
  have H2 := Lib.hid h2
  have Hcs : Hid (∀ W, Below w.heap.size w W → W.cell? ⟨bc, 0, none⟩ = some (.int .i64 (k : Int))) := fun W hb => (hb.cell (p := ⟨bc, 0, none⟩) (World.block_lt_of_cell? _ _ hc)).trans hc
  have hk2' : (k : Int) ≤ 253 := by omega
  clear hS hN hNk h1 hf1 h2 hm1 hm2 hk1 hk2 hf hm hn hn1 hn2 hV hdf hdV h0
  generalize V.2 = V2 at *
  go_enter Tryd.func118, Tryd.ntmps118
  go_wp2_with fail
  go_region_held3 (fun W => W.cell? ⟨bc, 0, none⟩ = some (.int .i64 (k : Int))) (first | exact hc | exact hS5 | exact hS6 | exact hS7)
    (first
      | (go_at_call 119; refine (unit_any k _ Hb.out.1 (by have := Hb.out; omega)).mono ?_; rintro e w5 ⟨gu, rfl, mu, bu⟩; have Hb5 : Hid (Below w.heap.size w w5) := (drewN_below (Below.refl _ w) 1).trans bu; have hS5 := Hcs.out w5 Hb5.out; have Hu5 : Hid (MatO w5 w.heap.size w5.heap.size (.slice (some ⟨gu, 0, none⟩) k k) (unitM k) ∧ gu < w5.heap.size) := ⟨mu, (mat_head_lt mu (by simp [unitM]; have := Hb.out; omega))⟩; clear mu bu)
      | (go_at_call 78; refine (pairs_any k _ Hb.out.1 (by have := Hb.out; omega)).mono ?_; rintro e w6 ⟨gc, rfl, mc, bc6⟩; have Hb6 : Hid (Below w.heap.size w w6) := Hb5.out.trans (bc6.mono Hb5.out.size); have hS6 := Hcs.out w6 Hb6.out; obtain ⟨ru, ou, vu, _, gru⟩ := mat_both (Hu5.out.1.below bc6); obtain ⟨rc, _, vc, hcc, grc⟩ := mat_both mc; have Hu6 : Hid (OwnV w6 w.heap.size 25 (.slice (some ⟨gu, 0, none⟩) k k) ru ∧ (∀ w', w6.grownBy w' (some gu) → RowsV w' (ru ++ rc) (allM k)) ∧ ru.length = k) := ⟨ou, fun w' hg => (gru w' gu hg (.inl rfl)).append (grc w' gu hg (.inr Hu5.out.2)), by rw [vu.1]; simp [unitM]⟩; have Hc6 : Hid ((∀ u ∈ rc, u.oneCell' = true) ∧ rc.length = 2 ∧ ∀ (j : Nat) (u : Value), rc[j]? = some u → w6.cell? ⟨gc, j, none⟩ = some u) := ⟨vc.one, by rw [vc.1]; simp [pairsM], hcc⟩; clear mc bc6 vc hcc ou vu gru grc)
      | (go_at_call 77; refine (mustM_ok _ _ _ _).mono ?_; rintro e w9 ⟨rfl, rfl⟩)
      | (skip; (refine step_app_many rfl (.tmp 25) (.tmp 33) 140 25 rfl Tryd.underlying140 (.slice none 0 0) 24 info_row rfl w.heap.size _ ru rfl Hu6.out.1 ⟨gc, 0, none⟩ 2 2 rc rfl Hc6.out.2.1.symm (fun j u hj => by rw [add_flat, Nat.zero_add]; exact Hc6.out.2.2 j u hj) Hc6.out.1 (by have := Hu6.out.2.2; have := Hc6.out.2.1; have := Hb.out; omega) (by have := Hu6.out.2.2; have := Hc6.out.2.1; have := Hb.out; omega) Hb6.out.size ?_); intro v7 w7 hown hg _; have Hb7 : Hid (Below w.heap.size w w7) := Hb6.out.grown hg Hb6.out.size (fun g hg => (Hu6.out.1.ge g hg).1); have hS7 := Hcs.out w7 Hb7.out; obtain ⟨Aa, ca, ea, ra⟩ := rm_of (M := allM k) hown (Hu6.out.2.1 w7 hg); rw [allM_length] at ea; subst ea; have Hra : Hid (RM w7 w7.heap.size Aa (allM k)) := ra; clear hown hg ra))
  have HR1 : Hid (Calls Tryd.prog 120 #[.slice Aa (k + 2) ca, .slice A1 k c1] w7 fun e w' => ∃ A6 c6, e = .returned (.tuple #[.slice A6 k c6, .int .i64 0]) ∧ RM w' w'.heap.size A6 (pick (allM k) f) ∧ Below w7.heap.size w7 w') := by
    have := rows_any Aa ca (allM k) A1 c1 f w7 Hra.out (by rw [allM_length]; have := Hb.out; omega) (fun t l ht => by rw [allM_row k t l ht]; have := Hb.out; omega) ((H1.out.below Hb7.out).move (fun _ _ => rfl) Hb7.out.size) (by have := Hb.out; omega)
    rw [Hf.out.1, Hf.out.2, allM_length, Hb.out.2.2.2.2.2.2.1] at this
    refine this.mono fun e w' hx => ?_
    obtain ⟨A6, c6, h1, h2, _, h3⟩ := hx.rm
    rw [pick_length, Hb.out.2.2.2.2.2.2.1] at h1
    exact ⟨A6, c6, h1, h2, h3⟩
  have HR2 : Hid (∀ W, Below w7.heap.size w7 W → Calls Tryd.prog 120 #[.slice Aa (k + 2) ca, .slice A2 ml c2] W fun e w' => ∃ A6 c6, e = .returned (.tuple #[.slice A6 ml c6, .int .i64 0]) ∧ RM w' w'.heap.size A6 (pick (allM k) m) ∧ Below W.heap.size W w') := fun W hW => by
    have hw := Hb7.out.trans (hW.mono Hb7.out.size)
    have := rows_any Aa ca (allM k) A2 c2 m W ((Hra.out.below hW).wide hW.size) (by rw [allM_length]; have := Hb.out; omega) (fun t l ht => by rw [allM_row k t l ht]; have := Hb.out; omega) ((H2.out.below hw).move (fun _ _ => rfl) hw.size) (by have := Hb.out; omega)
    rw [Hm.out.1, Hm.out.2, allM_length, ← Hb.out.2.2.2.2.2.2.2.1] at this
    refine this.mono fun e w' hx => ?_
    obtain ⟨A6, c6, h1, h2, _, h3⟩ := hx.rm
    rw [pick_length, ← Hb.out.2.2.2.2.2.2.2.1] at h1
    exact ⟨A6, c6, h1, h2, h3⟩
  have HI : Hid (∀ (A6 : Option Addr) (c6 : Nat) W, RM W W.heap.size A6 (pick (allM k) f) → Calls Tryd.prog 121 #[.slice A6 k c6] W fun e w' => ∃ A7 c7, e = .returned (.tuple #[.slice A7 k c7, .int .i64 0]) ∧ RM w' w'.heap.size A7 V2 ∧ Below W.heap.size W w') := fun A6 c6 W hr => by
    have := inverse_any A6 c6 _ W hr (by rw [pick_length]; have := Hb.out; omega) (fun t l ht => by rw [pick_dim Hff.out.1 t l ht]; have := Hb.out; omega)
    rw [Hi.out.1, Hi.out.2, pick_length, Hb.out.2.2.2.2.2.2.1] at this
    refine this.mono fun e w' hx => ?_
    obtain ⟨A7, c7, h1, h2, _, h3⟩ := hx.rm
    rw [HdV.out.1] at h1
    exact ⟨A7, c7, h1, h2, h3⟩
  have HT : Hid (∀ (A6 : Option Addr) (c6 : Nat) (A7 : Option Addr) (c7 : Nat) W, RM W W.heap.size A6 (pick (allM k) m) → RM W W.heap.size A7 V2 → Calls Tryd.prog 122 #[.slice A6 ml c6, .slice A7 k c7] W fun e w' => ∃ A8 c8, e = .returned (.tuple #[.slice A8 ml c8, .int .i64 0]) ∧ RM w' w'.heap.size A8 (wayM k m V2) ∧ Below W.heap.size W w') := fun A6 c6 A7 c7 W hr hr2 => by
    have := times_any A6 c6 _ A7 c7 V2 W hr (by rw [pick_length]; have := Hb.out; omega) (fun t l ht => by rw [pick_dim Hmm.out t l ht]; have := Hb.out; omega) hr2 (by rw [HdV.out.1]; have := Hb.out; omega) (fun t l ht => by rw [HdV.out.2 t l ht]; have := Hb.out; omega)
    rw [Ht.out.1, Ht.out.2, pick_length, HdV.out.1, ← Hb.out.2.2.2.2.2.2.2.1] at this
    refine this.mono fun e w' hx => ?_
    obtain ⟨A8, c8, h1, h2, _, h3⟩ := hx.rm
    rw [show (wayM k m V2).length = ml by unfold wayM; rw [timesM_length, pick_length, Hb.out.2.2.2.2.2.2.2.1]] at h1
    exact ⟨A8, c8, h1, h2, h3⟩
  have HMu : Hid (∀ (A : Option Addr) (n c : Nat) (w : World), Calls Tryd.prog 77 #[.slice A n c, .int .i64 0] w fun e w' => e = .returned (.slice A n c) ∧ w = w') := mustM_ok
  clear hS5 hS6 Hu5 Hu6 Hc6
  go_wp2_with fail
  refine HR1.out.mono ?_
  rintro e w8 ⟨A8, c8, rfl, r8, b8⟩
  have H8 : Hid (RM w8 w8.heap.size A8 (pick (allM k) f) ∧ Below w7.heap.size w7 w8) := ⟨r8, b8⟩
  clear r8 b8 HR1
  go_wp2_with (go_at_call 77; refine (HMu.out _ _ _ _).mono ?_; rintro e w9 ⟨rfl, rfl⟩)
  refine (HI.out A8 c8 w8 H8.out.1).mono ?_
  rintro e w9 ⟨A9, c9, rfl, r9, b9⟩
  have H9 : Hid (RM w9 w9.heap.size A9 V2 ∧ Below w7.heap.size w7 w9) := ⟨r9, H8.out.2.trans (b9.mono H8.out.2.size)⟩
  clear r9 b9 HI H8
  go_wp2_with (go_at_call 77; refine (HMu.out _ _ _ _).mono ?_; rintro e w9 ⟨rfl, rfl⟩)
  refine (HR2.out w9 H9.out.2).mono ?_
  rintro e w10 ⟨A10, c10, rfl, r10, b10⟩
  have H10 : Hid (RM w10 w10.heap.size A10 (pick (allM k) m) ∧ RM w10 w10.heap.size A9 V2 ∧ Below w7.heap.size w7 w10) := ⟨r10, (H9.out.1.below b10).wide b10.size, H9.out.2.trans (b10.mono H9.out.2.size)⟩
  clear r10 b10 HR2 H9
  go_wp2_with (go_at_call 77; refine (HMu.out _ _ _ _).mono ?_; rintro e w9 ⟨rfl, rfl⟩)
  refine (HT.out A10 c10 A9 c9 w10 H10.out.1 H10.out.2.1).mono ?_
  rintro e w11 ⟨A11, c11, rfl, r11, b11⟩
  have H11 : Hid (RM w11 w11.heap.size A11 (wayM k m V2) ∧ Below w.heap.size w w11) := ⟨r11, Hb7.out.trans ((H10.out.2.2.trans (b11.mono H10.out.2.2.size)).mono Hb7.out.size)⟩
  have hc11 := Hcs.out w11 H11.out.2
  obtain ⟨cs, Hcsn, hmk⟩ := make_lists k (by have := Hb.out; omega)
  have Hst : Hid (SrcAt w w11 w11.heap.size b o f 0 (w11.alloc (.cells cs 25))) := by
    refine ⟨?_, (Below.refl _ _).alloc (Nat.le_refl _) _⟩
    have := Cells.new w11 cs 25
    rw [Hcsn.out] at this ⊢
    rw [Hb.out.2.2.2.2.2.2.1]
    simpa using this
  clear r11 b11 HT H10 hc hS7 Hb5 Hb6 Hb7 Hra Hcs Hcsn
  go_wp2_with (go_at_call 77; refine (HMu.out _ _ _ _).mono ?_; rintro e w9 ⟨rfl, rfl⟩)
  obtain ⟨g, hg⟩ : ∃ g, g = w11.heap.size := ⟨_, rfl⟩
  have HG := Lib.hid hg
  rw [← hg] at Hst ⊢
  clear hg hc11 hmk
  go_loopw [13, 14, 63] (fun _ _ iv wr => ∃ i : Nat, iv = .int .i64 (i : Int) ∧ i ≤ k ∧ Hid (SrcAt w w11 g b o f i wr)) (fun _ _ iv _ => k - (intOf iv).toNat)
  case atStart => exact ⟨0, rfl, Nat.zero_le _, Hst.out⟩
  case round =>
    obtain ⟨i, rfl, hi, hrel⟩ := hrel
    by_cases hlt : i < k
    · have hlt' : (i : Int) < (k : Int) := by omega
      obtain ⟨x, hx⟩ : ∃ x, f[i]? = some x := ⟨_, List.getElem?_eq_getElem (by have := Hb.out; omega)⟩
      have hxb := Hff.out.1 x (List.mem_of_getElem? hx)
      obtain ⟨xn, rfl⟩ : ∃ xn : Nat, x = (xn : Int) := ⟨x.toNat, by omega⟩
      obtain ⟨y, hy⟩ : ∃ y, S[xn]? = some y := ⟨_, List.getElem?_eq_getElem (by have := Hb.out; omega)⟩
      obtain ⟨A', c', hcell, _, _⟩ := HS.out.row hy
      have hbw : b < w.heap.size := World.block_lt_of_cell? _ _ hcell
      have hw2 : Below w.heap.size w wr := H11.out.2.trans (hrel.out.bel.mono H11.out.2.size)
      obtain ⟨b1, o1, rfl, hb1⟩ := H1.out.flat (by have := Hb.out; omega)
      have k1 : wr.cell? ⟨b1, o1 + i, none⟩ = some (.int .i64 (xn : Int)) := by
        obtain ⟨ad, e, _, hcx⟩ := H1.out i _ hx
        cases e
        rw [add_flat] at hcx
        exact (hw2.cell (p := ⟨b1, o1 + i, none⟩) hb1).trans hcx
      have k2 : wr.cell? ⟨b, o + xn, none⟩ = some (.slice A' y.length c') := (hw2.cell (p := ⟨b, o + xn, none⟩) hbw).trans hcell
      obtain ⟨k3, k4, k5⟩ := hrel.out.step (by rw [HG.out]; exact Nat.le_refl _) hx (u := .slice A' y.length c') (by rw [Int.toNat_natCast]; exact hcell)
      have Hn := Lib.hid k5
      have hxn : (xn : Int) < (N : Int) := by have := Hb.out; omega
      generalize y.length = yl at *
      clear hx hxb hy hcell hbw hw2 hb1 k5 hrel hlt
      go_wp2_with fail
      go_roundw
      case rel => exact ⟨i + 1, by go_num, by omega, Hn.out⟩
      case measure => simp [intOf]; omega
    · obtain rfl : i = k := by omega
      have hbe := hrel.out.bel
      have hsrc : RM wr wr.heap.size (some ⟨g, 0, none⟩) (pick S f) := (show SrcAt w w11 g b o f f.length wr by rw [Hb.out.2.2.2.2.2.2.1]; exact hrel.out).done H11.out.2 HS.out (fun x hx => by have := Hff.out.1 x hx; have := Hb.out; omega)
      have hwl : (wayM i m V2).length = ml := by unfold wayM; rw [timesM_length, pick_length, Hb.out.2.2.2.2.2.2.2.1]
      have HF := times_any' A11 c11 (wayM i m V2) (some ⟨g, 0, none⟩) i i n (pick S f) wr ((H11.out.1.below hbe).wide hbe.size) hsrc (by have := Hb.out; omega) (by have := Hb.out; omega) (by rw [pick_length, Hb.out.2.2.2.2.2.2.1]) (by have := Hb.out; omega) (by have := Hb.out; omega)
        (fun t l ht => by unfold wayM at ht; rw [timesM_row ht]; exact HdV.out.2 0 _ (head_get (by rw [HdV.out.1]; have := Hb.out; omega)))
        (fun t l ht => by
          unfold pick at ht
          rw [List.getElem?_map] at ht
          obtain ⟨x, hx, rfl⟩ := Option.map_eq_some_iff.1 ht
          exact Hff.out.2 x (List.mem_of_getElem? hx)) (by have := Hb.out; omega) (by have := Hb.out; omega)
      rw [hwl] at HF
      have HF2 : Hid (Calls Tryd.prog 76 #[.slice A11 ml c11, .slice (some ⟨g, 0, none⟩) i i] wr fun e w' => e = .returned (.slice (some ⟨wr.heap.size, 0, none⟩) ml ml) ∧ MatO w' wr.heap.size w'.heap.size (.slice (some ⟨wr.heap.size, 0, none⟩) ml ml) (linM (wayM i m V2) (pick S f) n) ∧ Below wr.heap.size wr w') := HF
      have Hw2 : Hid (Below w.heap.size w wr ∧ (linM (wayM i m V2) (pick S f) n).length = ml) := ⟨H11.out.2.trans (hbe.mono H11.out.2.size), by rw [linM_length, hwl]⟩
      clear hlt hbe hsrc hwl HF hrel
      go_wp2_with fail
      refine HF2.out.mono ?_
      rintro e w12 ⟨rfl, m12, b12⟩
      have Hd : Hid (MatO w12 w.heap.size w12.heap.size (.slice (some ⟨wr.heap.size, 0, none⟩) ml ml) (linM (wayM i m V2) (pick S f) n) ∧ Below w.heap.size w w12) := ⟨m12.wide Hw2.out.1.size (Nat.le_refl _), Hw2.out.1.trans (b12.mono Hw2.out.1.size)⟩
      clear m12 b12 HF2
      go_wp2_with fail
      go_ret
      rw [Hr.out]
      exact ⟨some ⟨wr.heap.size, 0, none⟩, ml, by rw [Hw2.out.2]; rfl, by rw [Hw2.out.2]; exact Hd.out.1, Hd.out.2⟩
end Go.Proofs.YtlficcdbnmheeaaDoor

/-
  A header whose rows are laid one by one, each the call's own or nil.
-/
namespace Go.Proofs.YtlficcdbnmheeaaDoor
open Go.RowKit

set_option maxRecDepth 20000
structure AllAt (w : World) (g N : Nat) (vs : List Value) (M : Mtx) (wr : World) : Prop where
  head : Cells wr g 25 vs
  len : vs.length = N
  mlen : M.length = N
  rows : ∀ (i : Nat) (v : Value) (l : List UInt8), vs[i]? = some v → M[i]? = some l → Own wr w.heap.size v l
  apart : ∀ (i j : Nat) (vi vj : Value) (x : Nat), i ≠ j → vs[i]? = some vi → vs[j]? = some vj → vi.ownBlock = some x → vj.ownBlock ≠ some x
  other : ∀ (i : Nat) (v : Value), vs[i]? = some v → v.ownBlock ≠ some g
  high : w.heap.size ≤ g
  bel : Below w.heap.size w wr
theorem AllAt.start (w w0 : World) (N : Nat) (h : Below w.heap.size w w0) {cs : Array Value} (hc : cs = (List.replicate N (.slice none 0 0)).toArray) :
    AllAt w w0.heap.size N (List.replicate N (.slice none 0 0)) (List.replicate N []) (w0.alloc (.cells cs 25)) := by
  have hr : ∀ (i : Nat) (v : Value), (List.replicate N (Value.slice none 0 0))[i]? = some v → v = .slice none 0 0 := fun i v hv => by
    rw [List.getElem?_replicate] at hv
    split at hv
    · exact (Option.some.inj hv).symm
    · cases hv
  refine ⟨?_, by simp, by simp, fun i v l hv hl => ?_, fun i j vi vj x _ hi _ hx => ?_, fun i v hv => ?_, h.size, h.alloc h.size _⟩
  · have := Cells.new w0 cs 25
    rw [hc] at this ⊢
    exact this
  · rw [hr i v hv]
    have : l = [] := by
      rw [List.getElem?_replicate] at hl
      split at hl
      · exact (Option.some.inj hl).symm
      · cases hl
    rw [this]
    exact Own.nil _ _
  · rw [hr i vi hi] at hx; cases hx
  · rw [hr i v hv]; intro e; cases e
/-- somebody else's step -/
theorem AllAt.below {w wr w1 : World} {g N : Nat} {vs : List Value} {M : Mtx} (h : AllAt w g N vs M wr) (hb : Below wr.heap.size wr w1) : AllAt w g N vs M w1 :=
  ⟨h.head.move (hb.block g h.head.lt), h.len, h.mlen, fun i v l hv hl => (h.rows i v l hv hl).below hb, h.apart, h.other, h.high, h.bel.trans (hb.mono h.bel.size)⟩
theorem AllAt.drewN {w wr : World} {g N : Nat} {vs : List Value} {M : Mtx} (h : AllAt w g N vs M wr) (q : Nat) : AllAt w g N vs M (wr.drewN q) := ⟨h.head, h.len, h.mlen, h.rows, h.apart, h.other, h.high, drewN_below h.bel q⟩
/-- one row is laid -/
theorem AllAt.put {w wr : World} {g N i : Nat} {vs : List Value} {M : Mtx} {v : Value} {l : List UInt8} (h : AllAt w g N vs M wr) (hi : i < N) (ho : Own wr w.heap.size v l)
    (hg : v.ownBlock ≠ some g) (ha : ∀ (j : Nat) (u : Value) (x : Nat), vs[j]? = some u → u.ownBlock = some x → v.ownBlock ≠ some x) :
    (∃ u, wr.cell? ⟨g, i, none⟩ = some u) ∧ wr.frozen? ⟨g, i, none⟩ = false ∧ AllAt w g N (vs.set i v) (M.set i l) (wr.setCell ⟨g, i, none⟩ v) := by
  have far : ∀ b, b ≠ g → (wr.setCell ⟨g, i, none⟩ v).heap[b]? = wr.heap[b]? := fun b hb => Below.heap_setCell _ _ _ _ hb
  have hil : i < vs.length := by rw [h.len]; exact hi
  refine ⟨⟨_, h.head.cell (List.getElem?_eq_getElem hil)⟩, h.head.frozen i, h.head.set i v, by rw [List.length_set]; exact h.len, by rw [List.length_set]; exact h.mlen, fun j u x hu hx => ?_, fun j j' u u' x hjj hu hu' hxu hxu' => ?_, fun j u hu => ?_, h.high, h.bel.setCell (p := ⟨g, i, none⟩) h.high _⟩
  · by_cases e : j = i
    · subst e
      rw [List.getElem?_set_self hil] at hu
      rw [List.getElem?_set_self (by rw [h.mlen]; exact hi)] at hx
      cases hu
      cases hx
      exact ho.move fun b hb => far b fun e => hg (by rw [← e]; exact hb)
    · rw [List.getElem?_set_ne (fun e' => e e'.symm)] at hu hx
      exact (h.rows j u x hu hx).move fun b hb => far b fun e => h.other j u hu (by rw [← e]; exact hb)
  · by_cases e : j = i
    · subst e
      rw [List.getElem?_set_self hil] at hu
      rw [List.getElem?_set_ne hjj] at hu'
      cases hu
      exact ha j' u' x hu' hxu' hxu
    · rw [List.getElem?_set_ne (fun e' => e e'.symm)] at hu
      by_cases e2 : j' = i
      · subst e2
        rw [List.getElem?_set_self hil] at hu'
        cases hu'
        exact ha j u x hu hxu hxu'
      · rw [List.getElem?_set_ne (fun e' => e2 e'.symm)] at hu'
        exact h.apart j j' u u' x hjj hu hu' hxu hxu'
  · by_cases e : j = i
    · subst e
      rw [List.getElem?_set_self hil] at hu
      cases hu
      exact hg
    · rw [List.getElem?_set_ne (fun e' => e e'.symm)] at hu
      exact h.other j u hu
/-- it reads as M -/
theorem AllAt.rm {w wr : World} {g N : Nat} {vs : List Value} {M : Mtx} (h : AllAt w g N vs M wr) : RM wr wr.heap.size (some ⟨g, 0, none⟩) M := fun i l hl => by
  obtain ⟨v, hv⟩ : ∃ v, vs[i]? = some v := ⟨_, List.getElem?_eq_getElem (by rw [h.len, ← h.mlen]; exact (List.getElem?_eq_some_iff.1 hl).1)⟩
  obtain ⟨A', c', rfl, h1, h2, _⟩ := (h.rows i v l hv hl).rb
  exact ⟨g, 0, A', c', rfl, h.head.lt, by rw [Nat.zero_add]; exact h.head.cell hv, h2, h1⟩
theorem AllAt.done {w wr : World} {g N : Nat} {vs : List Value} {M : Mtx} (h : AllAt w g N vs M wr) (hN : N ≤ 4096) (hM : ∀ (i : Nat) (l : List UInt8), M[i]? = some l → 0 < l.length) : MatO wr w.heap.size wr.heap.size (.slice (some ⟨g, 0, none⟩) N N) M := by
  refine ⟨vs, ?_, fun x hx => by cases hx; exact h.head.lt, by rw [h.len, h.mlen], fun i v l hv hl => ⟨hM i l hl, h.rows i v l hv hl, fun x hx => ((h.rows i v l hv hl).lt x hx).2⟩, h.apart⟩
  have := OwnV.mk (base := w.heap.size) (e := 25) (xs := vs) (cap := N) h.high h.head (by rw [h.len]; exact Nat.le_refl _) (by simp only [maxLen]; omega) h.len (List.take_of_length_le (by rw [h.len]; exact Nat.le_refl _))
  rw [h.len] at this
  exact this
/-- a clone's block is unlike a header's -/
theorem own_ne {w : World} {lo g : Nat} {v : Value} {l : List UInt8} {cs : List Value} (h : Own w lo v l) (hc : Cells w g 25 cs) : v.ownBlock ≠ some g := by
  intro e
  rcases h.toV.form with ⟨hv, _⟩ | ⟨g', cap, cur, hv, _, hc', _⟩
  · rw [hv] at e; cases e
  · rw [hv] at e
    cases e
    exact absurd (hc.type hc').1 (by decide)
/-- those of the first i numbers -/
def someK (S : Mtx) (t : List Int) (i : Nat) : Mtx := (List.range S.length).map fun (j : Nat) => if (j : Int) ∈ t.take i then S.getD j [] else []
theorem someK_length (S : Mtx) (t : List Int) (i : Nat) : (someK S t i).length = S.length := by simp [someK]
theorem someK_zero (S : Mtx) (t : List Int) : someK S t 0 = List.replicate S.length [] := by
  unfold someK
  apply List.ext_getElem?
  intro j
  rw [List.getElem?_map, List.getElem?_replicate]
  by_cases h : j < S.length
  · rw [List.getElem?_range h, if_pos h]; simp
  · rw [List.getElem?_eq_none (by simp; omega), if_neg h]; rfl
theorem someK_step {S : Mtx} {t : List Int} {i n : Nat} {l : List UInt8} (ht : t[i]? = some (n : Int)) (hl : S[n]? = some l) : (someK S t i).set n l = someK S t (i + 1) := by
  have hn := (List.getElem?_eq_some_iff.1 hl).1
  have hi := (List.getElem?_eq_some_iff.1 ht).1
  have e := (List.getElem?_eq_some_iff.1 ht).2
  apply List.ext_getElem?
  intro j
  rw [List.getElem?_set]
  unfold someK
  by_cases hj : j < S.length
  · rw [List.getElem?_map, List.getElem?_map, List.getElem?_range hj, List.take_succ_eq_append_getElem hi, e]
    by_cases hnj : n = j
    · subst hnj
      rw [if_pos rfl, if_pos (by simpa using hn)]
      simp [hl]
    · rw [if_neg hnj]
      simp only [Option.map_some, List.mem_append, List.mem_singleton]
      congr 1
      have : ¬ ((j : Int) = (n : Int)) := by omega
      simp only [this, or_false]
  · rw [List.getElem?_eq_none (by simp; omega), List.getElem?_eq_none (by simp; omega)]
    split
    · rw [if_neg (by simp; omega)]
    · rfl
/-- the numbers of those that are there -/
theorem mem_there {S : Mtx} {x : Int} : ∀ i, x ∈ thereK S i ↔ ∃ n : Nat, x = (n : Int) ∧ n < i ∧ (S.getD n []).length ≠ 0
  | 0 => ⟨(by intro h; cases h), (by rintro ⟨n, _, h, _⟩; omega)⟩
  | i + 1 => by
    have ih := mem_there (S := S) (x := x) i
    unfold thereK
    by_cases h0 : (S.getD i []).length = 0
    · rw [if_pos h0, ih]
      constructor
      · rintro ⟨n, h1, h2, h3⟩; exact ⟨n, h1, by omega, h3⟩
      · rintro ⟨n, h1, h2, h3⟩
        by_cases e : n = i
        · subst e; exact absurd h0 h3
        · exact ⟨n, h1, by omega, h3⟩
    · rw [if_neg h0, List.mem_append, List.mem_singleton, ih]
      constructor
      · rintro (⟨n, h1, h2, h3⟩ | rfl)
        · exact ⟨n, h1, by omega, h3⟩
        · exact ⟨i, rfl, by omega, h0⟩
      · rintro ⟨n, h1, h2, h3⟩
        by_cases e : n = i
        · subst e; exact .inr h1
        · exact .inl ⟨n, h1, by omega, h3⟩
theorem mem_miss {S : Mtx} {x : Int} : ∀ i, x ∈ missK S i ↔ ∃ n : Nat, x = (n : Int) ∧ n < i ∧ (S.getD n []).length = 0
  | 0 => ⟨(by intro h; cases h), (by rintro ⟨n, _, h, _⟩; omega)⟩
  | i + 1 => by
    have ih := mem_miss (S := S) (x := x) i
    unfold missK
    by_cases h0 : (S.getD i []).length = 0
    · rw [if_pos h0, List.mem_append, List.mem_singleton, ih]
      constructor
      · rintro (⟨n, h1, h2, h3⟩ | rfl)
        · exact ⟨n, h1, by omega, h3⟩
        · exact ⟨i, rfl, by omega, h0⟩
      · rintro ⟨n, h1, h2, h3⟩
        by_cases e : n = i
        · subst e; exact .inr h1
        · exact .inl ⟨n, h1, by omega, h3⟩
    · rw [if_neg h0, ih]
      constructor
      · rintro ⟨n, h1, h2, h3⟩; exact ⟨n, h1, by omega, h3⟩
      · rintro ⟨n, h1, h2, h3⟩
        by_cases e : n = i
        · subst e; exact absurd h3 h0
        · exact ⟨n, h1, by omega, h3⟩
theorem someK_done (S : Mtx) : someK S (thereL S) (thereL S).length = S := by
  apply List.ext_getElem?
  intro j
  unfold someK
  by_cases hj : j < S.length
  · rw [List.getElem?_map, List.getElem?_range hj, List.take_length, List.getElem?_eq_getElem hj]
    have hg := getD_of (List.getElem?_eq_getElem hj)
    show some (if (j : Int) ∈ thereL S then S.getD j [] else []) = _
    congr 1
    by_cases h : (j : Int) ∈ thereL S
    · rw [if_pos h, hg]
    · rw [if_neg h]
      by_cases h0 : (S.getD j []).length = 0
      · rw [hg] at h0
        exact (List.eq_nil_of_length_eq_zero h0).symm
      · exact absurd ((mem_there S.length).2 ⟨j, rfl, hj, h0⟩) h
  · rw [List.getElem?_eq_none (by simp; omega), List.getElem?_eq_none (by omega)]
end Go.Proofs.YtlficcdbnmheeaaDoor

/-
  The first k that are there: their rows have an inverse.
-/
namespace Go.Proofs.YtlficcdbnmheeaaDoor
open Go.RowKit

set_option maxRecDepth 20000
theorem thereK_succ (S : Mtx) (i : Nat) : thereK S (i + 1) = if (S.getD i []).length = 0 then thereK S i else thereK S i ++ [(i : Int)] := rfl
theorem there_prefix (S : Mtx) (p : Nat) : ∀ i, p ≤ i → (thereK S i).take (thereK S p).length = thereK S p := fun i hi => by
  obtain ⟨d, rfl⟩ : ∃ d, i = p + d := ⟨i - p, by omega⟩
  clear hi
  induction d with
  | zero => exact List.take_length
  | succ d ih =>
    have hle : (thereK S p).length ≤ (thereK S (p + d)).length := by
      have := congrArg List.length ih
      rw [List.length_take] at this
      omega
    show (if (S.getD (p + d) []).length = 0 then thereK S (p + d) else thereK S (p + d) ++ [((p + d : Nat) : Int)]).take _ = _
    split
    · exact ih
    · rw [List.take_append_of_le_length hle]; exact ih
theorem there_reach (S : Mtx) (k : Nat) : ∀ i, k ≤ (thereK S i).length → ∃ p, p ≤ i ∧ (thereK S p).length = k
  | 0, h => ⟨0, Nat.le_refl _, by have : (thereK S 0).length = 0 := rfl; omega⟩
  | i + 1, h => by
    by_cases hk : k ≤ (thereK S i).length
    · obtain ⟨p, h1, h2⟩ := there_reach S k i hk
      exact ⟨p, by omega, h2⟩
    · refine ⟨i + 1, Nat.le_refl _, ?_⟩
      have : (thereK S (i + 1)).length ≤ (thereK S i).length + 1 := by
        rw [thereK_succ]
        split
        · omega
        · rw [List.length_append, List.length_singleton]; exact Nat.le_refl _
      omega
/-- the same, all from p on struck -/
def struck (S : Mtx) (p N : Nat) : Mtx := (List.range N).map fun (j : Nat) => if j < p then S.getD j [] else []
theorem struck_get (S : Mtx) (p N j : Nat) (h : j < N) : (struck S p N).getD j [] = if j < p then S.getD j [] else [] := by
  unfold struck
  rw [List.getD_eq_getElem?_getD, List.getElem?_map, List.getElem?_range h]; rfl
theorem struck_there (S : Mtx) (p N : Nat) : ∀ i, i ≤ N → thereK (struck S p N) i = thereK S (min i p)
  | 0, _ => by rw [Nat.zero_min]; rfl
  | i + 1, h => by
    have ih := struck_there S p N i (by omega)
    rw [thereK_succ, struck_get S p N i (by omega)]
    by_cases hp : i < p
    · rw [if_pos hp, show min (i + 1) p = i + 1 by omega, ih, show min i p = i by omega, thereK_succ]
    · rw [if_neg hp, if_pos List.length_nil, ih, show min i p = p by omega, show min (i + 1) p = p by omega]
theorem miss_lt {S : Mtx} {i : Nat} {x : Int} (h : x ∈ missK S i) : x < (i : Int) := by
  obtain ⟨n, rfl, h1, _⟩ := (mem_miss i).1 h
  omega
theorem miss_nodup (S : Mtx) : ∀ i, (missK S i).Nodup
  | 0 => List.nodup_nil
  | i + 1 => by
    unfold missK
    split
    · rw [List.nodup_append]
      refine ⟨miss_nodup S i, by simp, fun x hx y hy e => ?_⟩
      rw [List.mem_singleton] at hy
      subst hy
      subst e
      have := miss_lt hx
      omega
    · exact miss_nodup S i
theorem there_keep {S : Mtx} {a b N : Nat} (h : ∀ j : Nat, j < N → ((S.getD j []).length = 0 ↔ j = a ∨ j = b)) : ∀ i, i ≤ N → thereK S i = keep a b i
  | 0, _ => rfl
  | i + 1, hi => by
    have ih := there_keep h i (by omega)
    have hj := h i (by omega)
    rw [thereK_succ]
    by_cases e : (S.getD i []).length = 0
    · rw [if_pos e, ih, keep_no (hj.1 e)]
    · rw [if_neg e, ih, keep_yes (fun q => e (hj.2 (.inl q))) (fun q => e (hj.2 (.inr q)))]
/-- the first k of those that are there are all but two -/
theorem first_keep {S : Mtx} {k : Nat} (hS : S.length = k + 2) (hm : (missL S).length ≤ 2) : ∃ a b, a ≠ b ∧ a < k + 2 ∧ b < k + 2 ∧ (thereL S).take k = keep a b (k + 2) := by
  have hp := part_length S S.length
  have hk : k ≤ (thereK S (k + 2)).length := by
    unfold missL at hm
    rw [hS] at hp hm
    omega
  obtain ⟨p, hpl, hpk⟩ := there_reach S k (k + 2) hk
  have e1 : (thereL S).take k = thereK S p := by
    unfold thereL
    rw [hS]
    have := there_prefix S p (k + 2) hpl
    rw [hpk] at this
    exact this
  have e2 : thereK (struck S p (k + 2)) (k + 2) = thereK S p := by
    rw [struck_there S p (k + 2) (k + 2) (Nat.le_refl _), show min (k + 2) p = p by omega]
  have hq := part_length (struck S p (k + 2)) (k + 2)
  rw [e2, hpk] at hq
  have hnd := miss_nodup (struck S p (k + 2)) (k + 2)
  rcases hl : missK (struck S p (k + 2)) (k + 2) with _ | ⟨x, _ | ⟨y, _ | ⟨z, t⟩⟩⟩
  · rw [hl] at hq; simp at hq
  · rw [hl] at hq; simp at hq
  · obtain ⟨a, ha, ha1, _⟩ := (mem_miss (S := struck S p (k + 2)) (x := x) (k + 2)).1 (by rw [hl]; simp)
    obtain ⟨b, hb, hb1, _⟩ := (mem_miss (S := struck S p (k + 2)) (x := y) (k + 2)).1 (by rw [hl]; simp)
    rw [hl] at hnd
    have hne : x ≠ y := by simpa using hnd
    refine ⟨a, b, fun e => hne (by rw [ha, hb, e]), ha1, hb1, ?_⟩
    rw [e1, ← e2]
    refine there_keep (N := k + 2) (fun j hj => ?_) (k + 2) (Nat.le_refl _)
    have := mem_miss (S := struck S p (k + 2)) (x := (j : Int)) (k + 2)
    rw [hl] at this
    simp only [List.mem_cons, List.not_mem_nil, or_false] at this
    constructor
    · intro h0
      rcases this.2 ⟨j, rfl, hj, h0⟩ with h | h
      · exact .inl (by omega)
      · exact .inr (by omega)
    · rintro (rfl | rfl)
      · obtain ⟨n, h1, _, h3⟩ := this.1 (.inl ha.symm)
        rw [show n = j by omega] at h3
        exact h3
      · obtain ⟨n, h1, _, h3⟩ := this.1 (.inr hb.symm)
        rw [show n = j by omega] at h3
        exact h3
  · rw [hl] at hq
    simp only [List.length_cons] at hq
    omega
theorem first_inv {S : Mtx} {k : Nat} (hk : k ≤ 253) (hS : S.length = k + 2) (hm : (missL S).length ≤ 2) : ∃ V, invK k (pick (allM k) ((thereL S).take k)) k = some V := by
  obtain ⟨a, b, h1, h2, h3, e⟩ := first_keep hS hm
  rw [e]
  exact kept_inv hk h1 h2 h3
end Go.Proofs.YtlficcdbnmheeaaDoor

/-
  The program's Rebuild, its closure.
-/
namespace Go.Proofs.YtlficcdbnmheeaaDoor
open Go.RowKit

set_option maxRecDepth 20000
/-- the missing ones laid in -/
def setK (S : Mtx) (m : List Int) (R : Mtx) : Nat → Mtx
  | 0 => S
  | i + 1 => (setK S m R i).set (m.getD i 0).toNat (R.getD i [])
theorem setK_length (S : Mtx) (m : List Int) (R : Mtx) : ∀ i, (setK S m R i).length = S.length
  | 0 => rfl
  | i + 1 => by
    show ((setK S m R i).set _ _).length = _
    rw [List.length_set]; exact setK_length S m R i
/-- how long those are that are there -/
def lenS (S : Mtx) : Nat := (fitS 0 S).getD 0
def madeL (k : Nat) (S : Mtx) : Mtx := match invK k (pick (allM k) ((thereL S).take k)) k with
  | none => []
  | some V => remL k S ((thereL S).take k) (missL S) V.2 (lenS S)
/-- what Rebuild tells -/
def rebB (k : Nat) (S : Mtx) : Bool := fitB ((k : Int) + 2) S && decide ((missL S).length ≤ 2)
def rebL (k : Nat) (S : Mtx) : Mtx := if rebB k S then setK S (missL S) (madeL k S) (missL S).length else []
def rebE (k : Nat) (S : Mtx) : Int := if fitB ((k : Int) + 2) S then (if (missL S).length ≤ 2 then 0 else 7) else 1
theorem lens_of {k : Nat} {S : Mtx} (h : rebB k S = true) (hk : 1 ≤ k) : S.length = k + 2 ∧ (missL S).length ≤ 2 ∧ 1 ≤ lenS S ∧ (∀ (i : Nat) (l : List UInt8), S[i]? = some l → l.length = 0 ∨ l.length = lenS S) ∧ k ≤ (thereL S).length := by
  unfold rebB fitB at h
  rw [Bool.and_eq_true, Bool.and_eq_true, decide_eq_true_eq, decide_eq_true_eq] at h
  obtain ⟨⟨h1, h2⟩, h3⟩ := h
  obtain ⟨m, hm⟩ := Option.isSome_iff_exists.1 h2
  obtain ⟨_, f2, _, f4⟩ := fitS_some S 0 m hm
  have e : lenS S = m := by unfold lenS; rw [hm]; rfl
  have hp := part_length S S.length
  have hl : k ≤ (thereL S).length := by
    unfold missL at h3
    unfold thereL
    omega
  have hS : S.length = k + 2 := by omega
  obtain ⟨x, hx⟩ : ∃ x, (thereL S)[0]? = some x := ⟨_, List.getElem?_eq_getElem (by omega)⟩
  obtain ⟨n, rfl, hn, hn0⟩ := (mem_there S.length).1 (List.mem_of_getElem? hx)
  have hgn := f2 (S.getD n []) (by rw [getD_of (List.getElem?_eq_getElem hn)]; exact List.getElem_mem hn)
  exact ⟨hS, h3, by omega, fun i l hl' => by rw [e]; exact f2 l (List.mem_of_getElem? hl'), hl⟩
theorem setK_other {S : Mtx} {m : List Int} {R : Mtx} {j : Nat} : ∀ i, (∀ t, t < i → (m.getD t 0).toNat ≠ j) → (setK S m R i)[j]? = S[j]?
  | 0, _ => rfl
  | i + 1, h => by
    show ((setK S m R i).set _ _)[j]? = _
    rw [List.getElem?_set_ne (h i (by omega))]
    exact setK_other i fun t ht => h t (by omega)
theorem setK_at {S : Mtx} {m : List Int} {R : Mtx} {j t : Nat} (hj : j < S.length) (htj : (m.getD t 0).toNat = j) : ∀ i, t < i → (∀ s, s < i → s ≠ t → (m.getD s 0).toNat ≠ j) → (setK S m R i)[j]? = some (R.getD t [])
  | 0, h, _ => by omega
  | i + 1, h, hd => by
    show ((setK S m R i).set _ _)[j]? = _
    by_cases e : t = i
    · subst e
      rw [htj, List.getElem?_set_self (by rw [setK_length]; exact hj)]
    · rw [List.getElem?_set_ne (hd i (by omega) (fun q => e q.symm))]
      exact setK_at hj htj i (by omega) fun s hs => hd s (by omega)
/-- the second loop's relation: i of the made are laid -/
structure LaidAt (w w5 : World) (lo g N : Nat) (rows : List Value) (S : Mtx) (m : List Int) (R : Mtx) (i : Nat) (wr : World) : Prop where
  st : ∃ vs, AllAt w g N vs (setK S m R i) wr ∧ ∀ (j : Nat) (v : Value) (x : Nat), vs[j]? = some v → v.ownBlock = some x → x < lo ∨ ∃ t r, t < i ∧ rows[t]? = some r ∧ r.ownBlock = some x
  keep : Kept (fun b => b ≠ g) w5 wr
theorem LaidAt.start {w w4 w5 : World} {g N : Nat} {vs rows : List Value} {S R : Mtx} {m : List Int} (h : AllAt w g N vs S w4) (hb : Below w4.heap.size w4 w5) : LaidAt w w5 w4.heap.size g N rows S m R 0 w5 :=
  ⟨⟨vs, h.below hb, fun j v x hv hx => by
    obtain ⟨l, hl⟩ : ∃ l, S[j]? = some l := ⟨_, List.getElem?_eq_getElem (by rw [h.mlen, ← h.len]; exact (List.getElem?_eq_some_iff.1 hv).1)⟩
    exact .inl ((h.rows j v l hv hl).lt x hx).2⟩, Kept.refl _ _⟩
/-- the made: a matrix in blocks from lo on -/
structure MadeAt (w5 : World) (lo g : Nat) (rows : List Value) (R : Mtx) : Prop where
  len : rows.length = R.length
  own : ∀ (i : Nat) (r : Value) (l : List UInt8), rows[i]? = some r → R[i]? = some l → Own w5 lo r l
  apart : ∀ (i j : Nat) (ri rj : Value) (x : Nat), i ≠ j → rows[i]? = some ri → rows[j]? = some rj → ri.ownBlock = some x → rj.ownBlock ≠ some x
  head : ∃ cs, Cells w5 g 25 cs
theorem LaidAt.step {w w5 wr : World} {lo g N i mi : Nat} {rows : List Value} {S R : Mtx} {m : List Int} {r : Value} (h : LaidAt w w5 lo g N rows S m R i wr) (hR : MadeAt w5 lo g rows R) (hlo : w.heap.size ≤ lo) (hr : rows[i]? = some r) (hm : m[i]? = some (mi : Int)) (hmi : mi < N) :
    (∃ u, wr.cell? ⟨g, mi, none⟩ = some u) ∧ wr.frozen? ⟨g, mi, none⟩ = false ∧ LaidAt w w5 lo g N rows S m R (i + 1) (wr.setCell ⟨g, mi, none⟩ r) := by
  obtain ⟨vs, h1, h2⟩ := h.st
  obtain ⟨cs, hcs⟩ := hR.head
  obtain ⟨l, hl⟩ : ∃ l, R[i]? = some l := ⟨_, List.getElem?_eq_getElem (by rw [← hR.len]; exact (List.getElem?_eq_some_iff.1 hr).1)⟩
  have ho := hR.own i r l hr hl
  have hg := own_ne ho hcs
  have ho2 : Own wr w.heap.size r l := (ho.move fun x hx => h.keep.block x (ho.lt x hx).2 fun e => hg (by rw [← e]; exact hx)).wide hlo
  obtain ⟨p1, p2, p3⟩ := h1.put hmi ho2 hg (fun j u x hu hx hrx => by
    rcases h2 j u x hu hx with q | ⟨t, rt, ht, hrt, hrtx⟩
    · have := (ho.lt x hrx).1
      omega
    · exact hR.apart t i rt r x (by omega) hrt hr hrtx hrx)
  refine ⟨p1, p2, ⟨vs.set mi r, ?_, fun j v x hv hx => ?_⟩, h.keep.setCell (p := ⟨g, mi, none⟩) (fun e => e rfl) _⟩
  · show AllAt w g N _ ((setK S m R i).set (m.getD i 0).toNat (R.getD i [])) _
    rw [getD_of hl, show (m.getD i 0).toNat = mi by rw [List.getD_eq_getElem?_getD, hm]; rfl]
    exact p3
  · by_cases e : mi = j
    · subst e
      rw [List.getElem?_set_self (by rw [h1.len]; exact hmi)] at hv
      cases hv
      exact .inr ⟨i, r, by omega, hr, hx⟩
    · rw [List.getElem?_set_ne e] at hv
      rcases h2 j v x hv hx with q | ⟨t, rt, ht, q1, q2⟩
      · exact .inl q
      · exact .inr ⟨t, rt, by omega, q1, q2⟩
theorem madeL_length {k : Nat} {S : Mtx} (h : rebB k S = true) (hk1 : 1 ≤ k) (hk2 : k ≤ 253) : (madeL k S).length = (missL S).length := by
  obtain ⟨h1, h2, _⟩ := lens_of h hk1
  obtain ⟨V, hV⟩ := first_inv hk2 h1 h2
  unfold madeL remL
  rw [hV]
  show (if (missL S).length = 0 then [] else _).length = _
  split
  · simp; omega
  · unfold wayM
    rw [linM_length, timesM_length, pick_length]
theorem lin_length {r : List UInt8} {L : Mtx} {n : Nat} (hr : r.length ≤ L.length) (hL : ∀ (k : Nat) (l : List UInt8), L[k]? = some l → l.length = n) : (lin r L n).length = n := linK_length r L n hL _ hr
theorem first_dim {k : Nat} {S : Mtx} (h1 : S.length = k + 2) (h5 : k ≤ (thereL S).length) : Dim (pick (allM k) ((thereL S).take k)) k := ⟨by rw [pick_length, List.length_take]; omega, pick_dim fun x hx => by
    obtain ⟨n, rfl, hn, _⟩ := (mem_there S.length).1 (List.mem_of_mem_take hx)
    omega⟩
theorem first_len {k : Nat} {S : Mtx} (h4 : ∀ (i : Nat) (l : List UInt8), S[i]? = some l → l.length = 0 ∨ l.length = lenS S) : ∀ (t : Nat) (l : List UInt8), (pick S ((thereL S).take k))[t]? = some l → l.length = lenS S := fun t l hl => by
  unfold pick at hl
  rw [List.getElem?_map] at hl
  obtain ⟨x, hx, rfl⟩ := Option.map_eq_some_iff.1 hl
  obtain ⟨n, rfl, hn, hn0⟩ := (mem_there S.length).1 (List.mem_of_mem_take (List.mem_of_getElem? hx))
  rw [Int.toNat_natCast]
  have h9 := h4 n _ (List.getElem?_eq_getElem hn)
  rw [getD_of (List.getElem?_eq_getElem hn)] at hn0 ⊢
  omega
theorem made_row {k : Nat} {S : Mtx} (h : rebB k S = true) (hk1 : 1 ≤ k) (hk2 : k ≤ 253) {t : Nat} {l : List UInt8} (hl : (madeL k S)[t]? = some l) : l.length = lenS S := by
  obtain ⟨h1, h2, _, h4, h5⟩ := lens_of h hk1
  obtain ⟨V, hV⟩ := first_inv hk2 h1 h2
  have hd := first_dim h1 h5
  have hdV : Dim V.2 k := (invK_good hd k V (Nat.le_refl _) hV).d2
  unfold madeL remL at hl
  rw [hV] at hl
  change (if (missL S).length = 0 then [] else _)[t]? = some l at hl
  by_cases h0 : (missL S).length = 0
  · rw [if_pos h0] at hl; simp at hl
  · rw [if_neg h0] at hl
    unfold linM at hl
    rw [List.getElem?_map] at hl
    obtain ⟨r, hr, rfl⟩ := Option.map_eq_some_iff.1 hl
    have hrk : r.length = k := by
      unfold wayM at hr
      rw [timesM_row hr]
      exact hdV.2 0 _ (head_get (by rw [hdV.1]; omega))
    exact lin_length (by rw [hrk, pick_length, List.length_take]; omega) (first_len h4)
theorem reb_row {k : Nat} {S : Mtx} (h : rebB k S = true) (hk1 : 1 ≤ k) (hk2 : k ≤ 253) {j : Nat} {l : List UInt8} (hl : (setK S (missL S) (madeL k S) (missL S).length)[j]? = some l) : l.length = lenS S := by
  obtain ⟨h1, h2, _, h4, h5⟩ := lens_of h hk1
  have hj : j < S.length := by rw [← setK_length S (missL S) (madeL k S) (missL S).length]; exact (List.getElem?_eq_some_iff.1 hl).1
  have hnd : (missL S).Nodup := miss_nodup S S.length
  by_cases h0 : (S.getD j []).length = 0
  · obtain ⟨t, ht⟩ := List.getElem?_of_mem ((mem_miss (S := S) (x := (j : Int)) S.length).2 ⟨j, rfl, hj, h0⟩)
    have htl : t < (missL S).length := (List.getElem?_eq_some_iff.1 ht).1
    have e : ((missL S).getD t 0).toNat = j := by
      rw [List.getD_eq_getElem?_getD, show (missL S)[t]? = some (j : Int) from ht]; rfl
    have := setK_at (S := S) (m := missL S) (R := madeL k S) hj e (missL S).length htl (fun s hs hst q => by
      have e1 : (missL S)[s]? = some (missL S)[s] := List.getElem?_eq_getElem hs
      obtain ⟨n, hn, _⟩ := (mem_miss (S := S) S.length).1 (List.getElem_mem hs)
      rw [List.getD_eq_getElem?_getD, e1] at q
      have q2 : (missL S)[s].toNat = j := q
      have q3 : (missL S)[s] = (missL S)[t] := by
        have e2 := (List.getElem?_eq_some_iff.1 ht).2
        have e3 : (missL S)[t] = (j : Int) := e2
        rw [e3]
        have e4 : (missL S)[s] = (n : Int) := hn
        rw [e4] at q2 ⊢
        omega
      exact hst ((List.getElem_inj hnd).1 q3))
    rw [this] at hl
    cases hl
    exact made_row h hk1 hk2 (t := t) (by rw [getD_of (List.getElem?_eq_getElem (by rw [madeL_length h hk1 hk2]; exact htl))]; exact List.getElem?_eq_getElem _)
  · rw [setK_other _ (fun t ht q => by
      have e1 : (missL S)[t]? = some (missL S)[t] := List.getElem?_eq_getElem ht
      obtain ⟨n, hn, hn1, hn2⟩ := (mem_miss (S := S) S.length).1 (List.getElem_mem ht)
      rw [List.getD_eq_getElem?_getD, e1] at q
      have q2 : (missL S)[t].toNat = j := q
      have e4 : (missL S)[t] = (n : Int) := hn
      rw [e4] at q2
      have : n = j := by omega
      subst this
      exact h0 hn2)] at hl
    rw [getD_of hl] at h0
    have := h4 j l hl
    omega
set_option maxHeartbeats 4000000 in
theorem rebuild_body (c0 c1 bc k N c : Nat) (A : Option Addr) (S : Mtx) (w : World) (he : EnvAt c0 c1 bc k (.slice A N c) w) (h : RM w w.heap.size A S) (hN : N = S.length) (hN2 : N ≤ 255) (hk1 : 1 ≤ k) (hk2 : k ≤ 253) (hl : ∀ (k : Nat) (l : List UInt8), S[k]? = some l → l.length ≤ 1048576) :
    Calls Tryd.prog 117 #[.pointer (some ⟨c0, 0, none⟩), .pointer (some ⟨c1, 0, none⟩)] w (DoPost w (fun v w' => rebB k S = true ∧ ∃ g, v = .slice (some ⟨g, 0, none⟩) N N ∧ MatO w' w.heap.size w'.heap.size v (rebL k S)) (fun x => rebB k S = false ∧ x = rebE k S)) := by
  have Hb : Hid (N = S.length ∧ N ≤ 255 ∧ 1 ≤ k ∧ k ≤ 253) := ⟨hN, hN2, hk1, hk2⟩
  have Hh := Lib.hid h
  have He := Lib.hid he
  have Hl := Lib.hid hl
  have HF := Lib.hid (mustFit_any ((k : Int) + 2) A c N S w.drew _ (h.drewN 1) hN (by omega) hl)
  have HP := Lib.hid (parted_any A c N S w.drew (h.drewN 1) hN (by omega))
  have hk2' : (k : Int) ≤ 253 := by omega
  have hN2' : (N : Int) ≤ 255 := by omega
  obtain ⟨q1, q2, q3⟩ := he
  clear h hN hN2 hk1 hk2 hl
  go_enter Tryd.func117, Tryd.ntmps117
  go_wp2_with fail
  refine wp_region_still_tail 6 (by kernel_rfl) (by kernel_rfl) ?_
  simp only [List.take_succ_cons, List.take_zero, List.drop_succ_cons, List.drop_zero]
  repeat still_step
  try refine wpStill_nil ?_
  change wpList _ _ _ _ _ w.drew
  go_wp2_with fail
  rcases hf : fitB ((k : Int) + 2) S with _ | _
  · rw [hf] at HF
    refine HF.out.mono ?_
    rintro e w1 ⟨rfl, rfl⟩
    change bodyPost _ _ _ (Exit.panic _) _ _
    exact ⟨rfl, drewN_below (Below.refl _ _) 1, .inr ⟨1, ⟨by unfold rebB; rw [hf]; rfl, by unfold rebE; rw [hf]; rfl⟩, rfl⟩⟩
  rw [hf] at HF
  have HF2 : Hid (Calls Tryd.prog 74 #[.int .i64 ((k : Int) + 2), .slice A N c] w.drew fun e w' => e = .returned (.tuple #[]) ∧ w.drew = w') := HF.out
  have Hf := Lib.hid hf
  clear hf HF
  refine HF2.out.mono ?_
  rintro e w1 ⟨rfl, rfl⟩
  go_wp2_with fail
  refine HP.out.mono ?_
  rintro e w2 ⟨v2, v3, rfl, hp⟩
  obtain ⟨A2, cc2, A3, cc3, rfl, rfl, hc2, hc3, r2, r3⟩ := hp.shape
  have hb2 : Below w.heap.size w w2 := (drewN_below (Below.refl _ w) 1).trans hp.bel
  have hN3 := part_length S S.length
  have ht2 : (thereL S).length ≤ 255 := by have := Hb.out; unfold thereL; omega
  have hm2 : (missL S).length ≤ 255 := by have := Hb.out; unfold missL; omega
  by_cases hm : (missL S).length ≤ 2
  case neg =>
    have hgt : (2 : Int) < ((missL S).length : Int) := by omega
    have Hr : Hid (rebB k S = false ∧ (7 : Int) = rebE k S) := ⟨by unfold rebB; rw [decide_eq_false hm, Bool.and_false], by unfold rebE; rw [if_pos Hf.out, if_neg hm]⟩
    have Hb2 := Lib.hid hb2
    generalize (missL S).length = mn at *
    generalize (thereL S).length = tn at *
    clear hp r2 r3 hb2 hN3 hm HF2 HP
    go_wp2_with fail
    exact ⟨rfl, Hb2.out, .inr ⟨7, ⟨Hr.out.1, Hr.out.2⟩, rfl⟩⟩
  have hle : ((missL S).length : Int) ≤ 2 := by omega
  have hrB : rebB k S = true := by unfold rebB; rw [Hf.out, decide_eq_true hm]; rfl
  obtain ⟨s1, s2, s3, s4, s5⟩ := lens_of hrB Hb.out.2.2.1
  obtain ⟨V, hV⟩ := first_inv (by have := Hb.out; omega) s1 hm
  have HS : Hid (∀ W, Below w.heap.size w W → W.cell? ⟨c0, 0, none⟩ = some (.pointer (some ⟨bc, 0, none⟩)) ∧ W.cell? ⟨bc, 0, none⟩ = some (.int .i64 (k : Int)) ∧ W.cell? ⟨c1, 0, none⟩ = some (.slice A N c)) := fun W hb => ⟨(He.out.below hb).code, (He.out.below hb).num, (He.out.below hb).shards⟩
  have HR : Hid (rebB k S = true ∧ S.length = k + 2 ∧ (missL S).length ≤ 2 ∧ 1 ≤ lenS S ∧ lenS S ≤ 1048576 ∧ (∀ (i : Nat) (l : List UInt8), S[i]? = some l → l.length = 0 ∨ l.length = lenS S) ∧ k ≤ (thereL S).length) := ⟨hrB, s1, s2, s3, by
    obtain ⟨x, hx⟩ : ∃ x, (thereL S)[0]? = some x := ⟨_, List.getElem?_eq_getElem (by have := Hb.out; omega)⟩
    obtain ⟨n, rfl, hn, hn0⟩ := (mem_there S.length).1 (List.mem_of_getElem? hx)
    have e1 := s4 n _ (List.getElem?_eq_getElem hn)
    have e2 := Hl.out n _ (List.getElem?_eq_getElem hn)
    rw [getD_of (List.getElem?_eq_getElem hn)] at hn0
    omega, s4, s5⟩
  have HV := Lib.hid hV
  have Hp : Hid (RI w2 w2.heap.size A2 (thereL S) ∧ RI w2 w2.heap.size A3 (missL S) ∧ Below w.heap.size w w2 ∧ (thereL S).length ≤ cc2) := ⟨r2, r3, hb2, hc2⟩
  obtain ⟨z1, z2, z3⟩ := HS.out w2 hb2
  obtain ⟨cs, Hcs, hmk⟩ := make_lists N (by have := Hb.out; omega)
  have Hst : Hid (AllAt w w2.heap.size N (List.replicate N (.slice none 0 0)) (someK S (thereL S) 0) (w2.alloc (.cells cs 25)) ∧ Below w2.heap.size w2 (w2.alloc (.cells cs 25))) := ⟨by rw [someK_zero, ← Hb.out.1]; exact AllAt.start w w2 N hb2 Hcs.out, (Below.refl _ _).alloc (Nat.le_refl _) _⟩
  have HT : Hid (∀ t, t = (thereL S).length → True) := fun _ _ => trivial
  obtain ⟨tn, htn⟩ : ∃ tn, tn = (thereL S).length := ⟨_, rfl⟩
  obtain ⟨mn, hmn⟩ : ∃ mn, mn = (missL S).length := ⟨_, rfl⟩
  have Hn : Hid (tn = (thereL S).length ∧ mn = (missL S).length ∧ tn ≤ 255 ∧ mn ≤ 2) := ⟨htn, hmn, by omega, by omega⟩
  have hktn : (k : Int) ≤ (cc2 : Int) := by omega
  have htn' : (tn : Int) ≤ 255 := by omega
  rw [← hmn] at hle hc3 ⊢
  rw [← htn] at hc2 ⊢
  clear hp r2 r3 hb2 hN3 hm HF2 HP s1 s2 s3 s4 s5 hrB hV Hcs ht2 hm2 htn hmn HT
  go_wp2_with fail
  obtain ⟨g, hg⟩ : ∃ g, g = w2.heap.size := ⟨_, rfl⟩
  have HG := Lib.hid hg
  rw [← hg] at Hst ⊢
  clear hg hmk z1 z2 z3
  go_loopw [7, 31] (fun _ iv wr => ∃ (i : Nat) (vs : List Value), iv = .int .i64 (i : Int) ∧ i ≤ tn ∧ Hid (AllAt w g N vs (someK S (thereL S) i) wr ∧ Below g w2 wr)) (fun _ iv _ => tn - (intOf iv).toNat)
  case atStart => exact ⟨0, _, rfl, Nat.zero_le _, Hst.out⟩
  case round =>
    obtain ⟨i, vs, rfl, hi, hrel⟩ := hrel
    by_cases hlt : i < tn
    · have hlt' : (i : Int) < (tn : Int) := by omega
      obtain ⟨x, hx⟩ : ∃ x, (thereL S)[i]? = some x := ⟨_, List.getElem?_eq_getElem (by have := Hn.out; omega)⟩
      obtain ⟨xn, rfl, hxn, hx0⟩ := (mem_there S.length).1 (List.mem_of_getElem? hx)
      obtain ⟨y, hy⟩ : ∃ y, S[xn]? = some y := ⟨_, List.getElem?_eq_getElem hxn⟩
      obtain ⟨bs, os, A', c', rfl, hbs, hcell, hrb, _⟩ := Hh.out xn y hy
      obtain ⟨b2, o2, rfl, hb2⟩ := Hp.out.1.flat (by have := Hn.out; omega)
      have hbel := hrel.out.1.bel
      have hbw : Below w2.heap.size w2 wr := by rw [← HG.out]; exact hrel.out.2
      obtain ⟨z1, z2, z3⟩ := HS.out wr hbel
      have k1 : wr.cell? ⟨b2, o2 + i, none⟩ = some (.int .i64 (xn : Int)) := by
        obtain ⟨ad, e, _, hcx⟩ := Hp.out.1 i _ hx
        cases e
        rw [add_flat] at hcx
        exact (hbw.cell (p := ⟨b2, o2 + i, none⟩) hb2).trans hcx
      have k2 : wr.cell? ⟨bs, os + xn, none⟩ = some (.slice A' y.length c') := (hbel.cell (p := ⟨bs, os + xn, none⟩) hbs).trans hcell
      have hxN : (xn : Int) < (N : Int) := by have := Hb.out; omega
      have HC : Hid (Calls Tryd.prog 82 #[.slice A' y.length c'] wr fun e w1 => ∃ A9 c9, e = .returned (.slice A9 y.length c9) ∧ Own w1 wr.heap.size (.slice A9 y.length c9) y ∧ Below wr.heap.size wr w1) :=
        (clone_any A' c' y wr _ ((hrb.below hbel).wide hbel.size) (Nat.le_refl _) (by have := Hl.out xn y hy; omega)).mono fun e w1 ⟨v, he, ho, hb⟩ => by
          obtain ⟨A9, c9, rfl, _⟩ := ho.rb
          exact ⟨A9, c9, he, ho, hb⟩
      have HN : Hid (∀ v w1, Own w1 wr.heap.size v y → Below wr.heap.size wr w1 → (∃ u, w1.cell? ⟨g, xn, none⟩ = some u) ∧ w1.frozen? ⟨g, xn, none⟩ = false ∧ AllAt w g N (vs.set xn v) (someK S (thereL S) (i + 1)) (w1.setCell ⟨g, xn, none⟩ v) ∧ Below g w2 (w1.setCell ⟨g, xn, none⟩ v)) := fun v w1 ho hb => by
        have h1 := hrel.out.1.below hb
        obtain ⟨p1, p2, p3⟩ := h1.put (i := xn) (by omega) (ho.wide hbel.size) (own_ne ho h1.head) (fun j u x hu hux hvx => by
          obtain ⟨l', hl'⟩ : ∃ l', (someK S (thereL S) i)[j]? = some l' := ⟨_, List.getElem?_eq_getElem (by rw [hrel.out.1.mlen, ← hrel.out.1.len]; exact (List.getElem?_eq_some_iff.1 hu).1)⟩
          have a1 := ((hrel.out.1.rows j u l' hu hl').lt x hux).2
          have a2 := (ho.lt x hvx).1
          omega)
        rw [someK_step hx hy] at p3
        exact ⟨p1, p2, p3, (hrel.out.2.trans (hb.mono (by rw [HG.out]; exact hbw.size))).setCell (p := ⟨g, xn, none⟩) (Nat.le_refl _) _⟩
      have hlt2 : i < tn := hlt
      generalize y.length = yl at *
      clear hx hxn hx0 hy hbs hcell hrb hb2 hbel hbw hrel hlt
      go_wp2_with fail
      refine HC.out.mono ?_
      rintro e w1 ⟨A9, c9, rfl, ho, hb1⟩
      obtain ⟨⟨u, p1⟩, p2, p3⟩ := HN.out _ w1 ho hb1
      have HN2 := Lib.hid p3
      clear ho hb1 p3 HN HC
      go_wp2_with fail
      go_roundw
      case rel => exact ⟨i + 1, _, by go_num, by omega, HN2.out⟩
      case measure => simp [intOf]; omega
    · obtain rfl : i = tn := by omega
      have hall : AllAt w g N vs S wr := by
        have := hrel.out.1
        rw [Hn.out.1, someK_done] at this
        exact this
      have hbw : Below w2.heap.size w2 wr := by rw [← HG.out]; exact hrel.out.2
      have hbel := hall.bel
      obtain ⟨z1, z2, z3⟩ := HS.out wr hbel
      have hmm : ∀ x ∈ missL S, 0 ≤ x ∧ x < (k : Int) + 2 := fun x hx => by
        obtain ⟨n, rfl, hn, _⟩ := (mem_miss S.length).1 hx
        have := HR.out.2.1
        omega
      have htm : ∀ x ∈ (thereL S).take k, 0 ≤ x ∧ x < (k : Int) + 2 := fun x hx => by
        obtain ⟨n, rfl, hn, _⟩ := (mem_there S.length).1 (List.mem_of_mem_take hx)
        have := HR.out.2.1
        omega
      have htn : ∀ x ∈ (thereL S).take k, (S.getD x.toNat []).length = lenS S := fun x hx => by
        obtain ⟨n, rfl, hn, hn0⟩ := (mem_there S.length).1 (List.mem_of_mem_take hx)
        rw [Int.toNat_natCast]
        have h9 := HR.out.2.2.2.2.2.1 n _ (List.getElem?_eq_getElem hn)
        rw [getD_of (List.getElem?_eq_getElem hn)] at hn0 ⊢
        omega
      have htl : ((thereL S).take k).length = k := by rw [List.length_take]; have := HR.out.2.2.2.2.2.2; omega
      have HM : Hid (Calls Tryd.prog 118 #[.pointer (some ⟨bc, 0, none⟩), .slice (some ⟨g, 0, none⟩) N N, .slice A2 k cc2, .slice A3 mn cc3] wr.drew (TellsL wr.drew (madeL k S))) := by
        have := remade_any bc k g 0 N N (lenS S) S A2 cc2 ((thereL S).take k) A3 cc3 mn (missL S) V wr.drew z2 (hall.rm.drewN 1) Hb.out.1 (by have := Hb.out; have := HR.out; omega) (fun j x hx => by
          rw [List.getElem?_take] at hx
          split at hx
          · exact ((Hp.out.1.below hbw).move (fun _ _ => rfl) hbw.size) j x hx
          · cases hx) htl ((Hp.out.2.1.below hbw).move (fun _ _ => rfl) hbw.size) Hn.out.2.1 Hn.out.2.2.2 Hb.out.2.2.1 Hb.out.2.2.2 htm hmm htn HR.out.2.2.2.1 HR.out.2.2.2.2.1 HV.out
        rw [show remL k S ((thereL S).take k) (missL S) V.2 (lenS S) = madeL k S by unfold madeL; rw [HV.out]] at this
        exact this
      have Hall : Hid (AllAt w g N vs S wr ∧ Below g w2 wr ∧ ∀ x ∈ missL S, 0 ≤ x ∧ x < (k : Int) + 2) := ⟨hall, hrel.out.2, hmm⟩
      clear hall hbw hbel z3 hmm htm htn htl hlt hrel
      go_wp2_with fail
      go_region_held3 (fun W => W.cell? ⟨c0, 0, none⟩ = some (.pointer (some ⟨bc, 0, none⟩)) ∧ W.cell? ⟨bc, 0, none⟩ = some (.int .i64 (k : Int))) (first | exact ⟨z1, z2⟩ | exact hS5)
        (first
          | (go_at_call 118; refine HM.out.mono ?_; rintro e w5 ⟨AR, cR, rfl, mR, bR⟩; have hb5 : Below w.heap.size w w5 := (drewN_below Hall.out.1.bel 1).trans (bR.mono Hall.out.1.bel.size); have hS5 : w5.cell? ⟨c0, 0, none⟩ = some (.pointer (some ⟨bc, 0, none⟩)) ∧ w5.cell? ⟨bc, 0, none⟩ = some (.int .i64 (k : Int)) := ⟨(HS.out w5 hb5).1, (HS.out w5 hb5).2.1⟩; have HmR : Hid (MatO w5 wr.heap.size w5.heap.size (.slice AR (madeL k S).length cR) (madeL k S) ∧ Below wr.heap.size wr w5) := ⟨mR, (drewN_below (Below.refl _ wr) 1).trans bR⟩; clear mR bR hb5))
      obtain ⟨rows, ra, _, rl, rd, re⟩ := HmR.out.1
      obtain ⟨A9, c9, e9, _, _, hrd⟩ := ra.rd
      have hgl : g < wr.heap.size := Hall.out.1.head.lt
      have hml : (madeL k S).length = mn := by
        unfold madeL remL
        rw [HV.out]
        show (if (missL S).length = 0 then [] else _).length = mn
        split
        · have := Hn.out; simp; omega
        · unfold wayM
          rw [linM_length, timesM_length, pick_length]; exact Hn.out.2.1.symm
      have eA : AR = A9 := (Value.slice.inj e9).1
      subst eA
      have Hmade : Hid (MadeAt w5 wr.heap.size g rows (madeL k S)) := ⟨rl, fun i r l hr hl => (rd i r l hr hl).2.1, re, ⟨_, (Hall.out.1.below HmR.out.2).head⟩⟩
      have Hrc : Hid (rows.length = mn ∧ w.heap.size ≤ wr.heap.size ∧ ∀ (i : Nat) (r : Value), rows[i]? = some r → ∃ b, AR = some ⟨b, 0, none⟩ ∧ b < w5.heap.size ∧ b ≠ g ∧ w5.cell? ⟨b, i, none⟩ = some r) := ⟨by rw [rl, hml], Hall.out.1.bel.size, fun i r hr => by
        obtain ⟨b, rfl, h1, h2⟩ := hrd i r hr
        have := (ra.ge b rfl).1
        exact ⟨b, rfl, h1, by omega, h2⟩⟩
      have Hst2 : Hid (LaidAt w w5 wr.heap.size g N rows S (missL S) (madeL k S) 0 w5) := LaidAt.start Hall.out.1 HmR.out.2
      have Hb5 : Hid (Below g w2 w5) := Hall.out.2.1.trans (HmR.out.2.mono (by omega))
      rw [hml]
      generalize wr.heap.size = lo at *
      clear ra rl rd re e9 hrd hgl hml hS5 z1 z2 HM HmR
      have hdec : decide ((2 : Int) < (mn : Int)) = false := by simp; omega
      go_wp2_with fail
      go_loopw [8, 9, 55] (fun _ _ iv wz => ∃ i : Nat, iv = .int .i64 (i : Int) ∧ i ≤ mn ∧ Hid (LaidAt w w5 lo g N rows S (missL S) (madeL k S) i wz)) (fun _ _ iv _ => mn - (intOf iv).toNat)
      case atStart => exact ⟨0, rfl, Nat.zero_le _, Hst2.out⟩
      case round =>
        obtain ⟨j, rfl, hj, hrel⟩ := hrel
        by_cases hlt : j < mn
        · have hlt' : (j : Int) < (mn : Int) := by omega
          obtain ⟨r, hr⟩ : ∃ r, rows[j]? = some r := ⟨_, List.getElem?_eq_getElem (by have := Hrc.out.1; omega)⟩
          obtain ⟨l, hl⟩ : ∃ l, (madeL k S)[j]? = some l := ⟨_, List.getElem?_eq_getElem (by rw [← Hmade.out.len]; have := Hrc.out.1; omega)⟩
          obtain ⟨Ar, cr, rfl, _, _, _⟩ := (Hmade.out.own j r l hr hl).rb
          obtain ⟨bR, rfl, hbR, hbg, hcR⟩ := Hrc.out.2.2 j _ hr
          obtain ⟨x, hx⟩ : ∃ x, (missL S)[j]? = some x := ⟨_, List.getElem?_eq_getElem (by have := Hn.out; omega)⟩
          have hxb := Hall.out.2.2 x (List.mem_of_getElem? hx)
          obtain ⟨xn, rfl⟩ : ∃ xn : Nat, x = (xn : Int) := ⟨x.toNat, by omega⟩
          have hxN : xn < N := by have := HR.out.2.1; have := Hb.out; omega
          obtain ⟨b3, o3, rfl, hb3⟩ := Hp.out.2.1.flat (by have := Hn.out; omega)
          have k1 : wr.cell? ⟨bR, j, none⟩ = some (.slice Ar l.length cr) := (World.cell?_of_block (w := w5) (hrel.out.keep.block bR hbR hbg)).trans hcR
          have k2 : wr.cell? ⟨b3, o3 + j, none⟩ = some (.int .i64 (xn : Int)) := by
            obtain ⟨ad, e, _, hcx⟩ := Hp.out.2.1 j _ hx
            cases e
            rw [add_flat] at hcx
            have h3 : b3 < g := by have := HG.out; omega
            have h4 := (Hb5.out.cell (p := ⟨b3, o3 + j, none⟩) h3).trans hcx
            have h5 := World.block_lt_of_cell? _ _ h4
            exact (World.cell?_of_block (w := w5) (hrel.out.keep.block b3 h5 (by omega))).trans h4
          obtain ⟨⟨u, p1⟩, p2, p3⟩ := hrel.out.step Hmade.out Hrc.out.2.1 hr hx hxN
          have Hnx := Lib.hid p3
          have hxN' : (xn : Int) < (N : Int) := by omega
          generalize l.length = ll at *
          clear hr hl hbR hbg hcR hx hxb hb3 p3 hrel hlt hxN
          go_wp2_with fail
          go_roundw
          case rel => exact ⟨j + 1, by go_num, by omega, Hnx.out⟩
          case measure => simp [intOf]; omega
        · obtain rfl : j = mn := by omega
          have Hd : Hid (MatO wr w.heap.size wr.heap.size (.slice (some ⟨g, 0, none⟩) N N) (rebL k S) ∧ Below w.heap.size w wr) := by
            obtain ⟨vs9, a9, _⟩ := hrel.out.st
            rw [Hn.out.2.1] at a9
            have e : rebL k S = setK S (missL S) (madeL k S) (missL S).length := by unfold rebL; rw [if_pos HR.out.1]
            rw [e]
            exact ⟨a9.done (by have := Hb.out; omega) fun t l ht => by rw [reb_row HR.out.1 Hb.out.2.2.1 Hb.out.2.2.2 ht]; exact HR.out.2.2.2.1, a9.bel⟩
          clear hlt hrel
          go_wp2_with fail
          go_ret
          exact ⟨Hd.out.2, .inl ⟨_, rfl, HR.out.1, g, rfl, Hd.out.1⟩⟩
end Go.Proofs.YtlficcdbnmheeaaDoor

/-
  The program's Rebuild, New, K; the laws' few, known.
-/
namespace Go.Proofs.YtlficcdbnmheeaaDoor
open Go.RowKit

set_option maxRecDepth 20000
set_option maxHeartbeats 1600000 in
theorem rebuild_any (bc k N c : Nat) (A : Option Addr) (S : Mtx) (w : World) (hc : w.cell? ⟨bc, 0, none⟩ = some (.int .i64 (k : Int))) (h : RM w w.heap.size A S) (hN : N = S.length) (hN2 : N ≤ 255) (hk1 : 1 ≤ k) (hk2 : k ≤ 253) (hl : ∀ (k : Nat) (l : List UInt8), S[k]? = some l → l.length ≤ 1048576) :
    Calls Tryd.prog 116 #[.pointer (some ⟨bc, 0, none⟩), .slice A N c] w (TellsO w (rebL k S) (rebE k S)) := by
  have hmf : ∀ (fn : Fn) (first cap : Array Value) (w : World), (Instr.makeFunc fn first cap).run Tryd.prog w = .ok (.func fn first cap) w := fun _ _ _ _ => rfl
  have hbel : Below w.heap.size w (((w.alloc (.cells #[.pointer (some ⟨bc, 0, none⟩)] 92)).alloc (.cells #[.slice A N c] 34)).alloc (.cells #[.int .i64 0] 30)) := (((Below.refl _ _).alloc (Nat.le_refl _) _).alloc (by simp) _).alloc (by simp; omega) _
  have HC := Lib.hid (caughtRebuild (.pointer (some ⟨w.heap.size, 0, none⟩), .pointer (some ⟨w.heap.size + 1, 0, none⟩)) _ _ _ (rebuild_body w.heap.size (w.heap.size + 1) bc k N c A S _ (env_new w bc k (.slice A N c) 92 34 hc) ((h.below hbel).wide hbel.size) hN hN2 hk1 hk2 hl))
  have Hb2 : Hid (Below w.heap.size w ((w.alloc (.cells #[.pointer (some ⟨bc, 0, none⟩)] 92)).alloc (.cells #[.slice A N c] 34))) := ((Below.refl _ _).alloc (Nat.le_refl _) _).alloc (by simp) _
  have HL : Hid (rebB k S = true → (rebL k S).length = N ∧ rebE k S = 0) := fun hb => by
    constructor
    · unfold rebL; rw [if_pos hb, setK_length, hN]
    · unfold rebB at hb
      rw [Bool.and_eq_true, decide_eq_true_eq] at hb
      unfold rebE
      rw [if_pos hb.1, if_pos hb.2]
  clear hc h hN hN2 hk1 hk2 hl hbel
  go_enter Tryd.func116, Tryd.ntmps116
  go_wp2_with fail
  refine HC.out.mono ?_
  rintro e w' ⟨hb, ⟨v, rfl, hp, g, rfl, hm⟩ | ⟨x, ⟨hp, hx⟩, rfl⟩⟩
  · have Hd : Hid (rebB k S = true ∧ MatO w' w.heap.size w'.heap.size (.slice (some ⟨g, 0, none⟩) N N) (rebL k S) ∧ Below w.heap.size w w') := ⟨hp, hm.wide (by simp; omega) (Nat.le_refl _), Hb2.out.trans (hb.mono Hb2.out.size)⟩
    clear hp hb hm HC
    go_wp2_with fail
    go_ret2
    obtain ⟨e1, e2⟩ := HL.out Hd.out.1
    exact ⟨some ⟨g, 0, none⟩, N, by rw [e1, e2]; rfl, by rw [e1]; exact Hd.out.2.1, Hd.out.2.2⟩
  · have Hd : Hid (rebB k S = false ∧ Below w.heap.size w w' ∧ x = rebE k S) := ⟨hp, Hb2.out.trans (hb.mono Hb2.out.size), hx⟩
    clear hp hb hx HC
    go_wp2_with fail
    go_ret2
    have e : rebL k S = [] := by unfold rebL; rw [Hd.out.1]; rfl
    rw [e]
    exact ⟨none, 0, by rw [Hd.out.2.2]; rfl, MatO.nought _ _ _, Hd.out.2.1⟩
/-- New, K -/
theorem new_yes (k : Nat) (w : World) (h1 : 1 ≤ k) (h2 : k ≤ 32) :
    Calls Tryd.prog 50 #[.int .i64 (k : Int)] w fun e w' => e = .returned (.tuple #[.pointer (some ⟨w.heap.size, 0, none⟩), .int .i64 0]) ∧ w' = w.alloc (.cells #[.int .i64 (k : Int)] 135) := by
  have a1 : ¬ (k : Int) < 1 := by omega
  have a2 : ¬ (32 : Int) < (k : Int) := by omega
  have a3 : (1 : Int) ≤ (k : Int) := by omega
  have a4 : (k : Int) ≤ 32 := by omega
  clear h1 h2
  go_enter Tryd.func50, Tryd.ntmps50
  go_wp2_with fail
  go_ret2
  exact ⟨rfl, rfl⟩
theorem new_no (n : Int) (w : World) (h : n < 1 ∨ 32 < n) :
    Calls Tryd.prog 50 #[.int .i64 n] w fun e w' => e = .returned (.tuple #[.pointer none, .int .i64 1]) ∧ w' = w := by
  rcases h with h | h
  · go_enter Tryd.func50, Tryd.ntmps50
    go_wp2_with fail
    go_ret2
    exact ⟨rfl, rfl⟩
  · have a1 : ¬ n < 1 := by omega
    have a2 : decide (n < 1) = false := by simp; omega
    go_enter Tryd.func50, Tryd.ntmps50
    go_wp2_with fail
    go_ret2
    exact ⟨rfl, rfl⟩
/-- how many bytes there are -/
def sumS (S : Mtx) : Nat := (S.map fun l => l.length).sum
def fewS (S : Mtx) : Bool := decide (S.length ≤ 40) && decide (sumS S ≤ 4000)
theorem sumS_take (M : Mtx) (k : Nat) (l : List UInt8) (h : M[k]? = some l) : sumS (M.take (k + 1)) = sumS (M.take k) + l.length := by
  have hk := (List.getElem?_eq_some_iff.1 h).1
  have hx := (List.getElem?_eq_some_iff.1 h).2
  unfold sumS
  rw [List.take_succ_eq_append_getElem hk, hx]
  simp
theorem sumS_le {S : Mtx} {k : Nat} {l : List UInt8} (h : S[k]? = some l) : l.length ≤ sumS S := by
  have : l ∈ S := List.mem_of_getElem? h
  unfold sumS
  clear h
  induction S with
  | nil => cases this
  | cons a t ih =>
    simp only [List.map_cons, List.sum_cons]
    rcases List.mem_cons.1 this with rfl | h2
    · omega
    · have := ih h2
      omega
theorem few_facts {S : Mtx} (h : fewS S = true) : S.length ≤ 40 ∧ sumS S ≤ 4000 := by
  unfold fewS at h
  rw [Bool.and_eq_true, decide_eq_true_eq, decide_eq_true_eq] at h
  exact h
/-- equally long, and so many -/
theorem par_yes {k n : Nat} {S : Mtx} (hS : S.length = k) (hn : 1 ≤ n) (h : ∀ (i : Nat) (l : List UInt8), S[i]? = some l → l.length = n) : parB k S = true := by
  have hf : (fitS 0 S).isSome = true := by
    rcases hq : fitS 0 S with _ | m
    · exact absurd (fun l hl => by
        obtain ⟨i, hi⟩ := List.getElem?_of_mem hl
        exact .inr (h i l hi)) (fitS_none S 0 hq n (.inl rfl))
    · rfl
  have hm : ∀ i, i ≤ S.length → missK S i = [] := fun i => by
    induction i with
    | zero => intro _; rfl
    | succ i ih =>
      intro hi
      have e := List.getElem?_eq_getElem (show i < S.length by omega)
      show (if (S.getD i []).length = 0 then missK S i ++ [(i : Int)] else missK S i) = []
      rw [if_neg (by rw [getD_of e, h i _ e]; omega)]
      exact ih (by omega)
  unfold parB fitB missL
  rw [decide_eq_true (by rw [hS]), hf, hm _ (Nat.le_refl _)]
  rfl
end Go.Proofs.YtlficcdbnmheeaaDoor

/-
  The laws' known.
-/
namespace Go.Proofs.YtlficcdbnmheeaaDoor
open Go.RowKit

set_option maxRecDepth 20000
theorem rm_new {w : World} {hs : Array Value} {S : Mtx} (h : RowsV w hs.toList S) : RM (w.alloc (.cells hs 25)) (w.alloc (.cells hs 25)).heap.size (some ⟨w.heap.size, 0, none⟩) S := fun i l hl => by
  obtain ⟨r, hr⟩ : ∃ r, hs.toList[i]? = some r := ⟨_, List.getElem?_eq_getElem (by rw [h.1]; exact (List.getElem?_eq_some_iff.1 hl).1)⟩
  obtain ⟨A', c', rfl, h1, h2⟩ := h.2 i r l hr hl
  have hb : Below w.heap.size w (w.alloc (.cells hs 25)) := (Below.refl _ _).alloc (Nat.le_refl _) _
  exact ⟨w.heap.size, 0, A', c', rfl, by simp, by rw [Nat.zero_add]; exact (Cells.new w hs 25).cell hr, (h1.below hb).wide hb.size, h2⟩
theorem rb_one (w : World) (x : UInt8) (v : Value) (hv : v = .int .u8 (x.toNat : Int)) : RB (w.alloc (.cells #[v] 5)) (w.alloc (.cells #[v] 5)).heap.size (some ⟨w.heap.size, 0, none⟩) [x] := by
  have := RB.new w #[v] 5 [x] (by rw [hv]; rfl)
  exact this.wide (by simp)
theorem par_known : parL 2 [[5], [6]] = [[3], [9]] ∧ parE 2 [[5], [6]] = 0 := by decide +kernel
theorem reb_known : rebL 2 [[], [], [], [9]] = [] ∧ rebE 2 [[], [], [], [9]] = 7 := by decide +kernel
theorem known_par (w : World) (bc : Nat) (hc : w.cell? ⟨bc, 0, none⟩ = some (.int .i64 2)) (W : World) (hW : W = ((w.alloc (.cells #[.int .u8 5] 5)).alloc (.cells #[.int .u8 6] 5)).alloc (.cells #[.slice (some ⟨w.heap.size, 0, none⟩) 1 1, .slice (some ⟨w.heap.size + 1, 0, none⟩) 1 1] 25)) :
    Calls Tryd.prog 51 #[.pointer (some ⟨bc, 0, none⟩), .slice (some ⟨w.heap.size + 1 + 1, 0, none⟩) 2 2] W (TellsO W [[3], [9]] 0) ∧ Below w.heap.size w W := by
  have hb : Below w.heap.size w W := by
    rw [hW]
    exact (((Below.refl _ _).alloc (Nat.le_refl _) _).alloc (by simp) _).alloc (by simp; omega) _
  have hr : RM W W.heap.size (some ⟨w.heap.size + 1 + 1, 0, none⟩) [[5], [6]] := by
    have h5 := rb_one w 5 (.int .u8 5) rfl
    have h6 := rb_one (w.alloc (.cells #[.int .u8 5] 5)) 6 (.int .u8 6) rfl
    have hb6 : Below (w.alloc (.cells #[.int .u8 5] 5)).heap.size (w.alloc (.cells #[.int .u8 5] 5)) ((w.alloc (.cells #[.int .u8 5] 5)).alloc (.cells #[.int .u8 6] 5)) := (Below.refl _ _).alloc (Nat.le_refl _) _
    have h5' := (h5.below hb6).wide hb6.size
    have := rm_new (w := (w.alloc (.cells #[.int .u8 5] 5)).alloc (.cells #[.int .u8 6] 5)) (hs := #[.slice (some ⟨w.heap.size, 0, none⟩) 1 1, .slice (some ⟨w.heap.size + 1, 0, none⟩) 1 1]) (S := [[5], [6]]) ⟨rfl, fun i r l hr hl => by
      match i with
      | 0 => cases hr; cases hl; exact ⟨_, 1, rfl, h5', Nat.le_refl _⟩
      | 1 => cases hr; cases hl; exact ⟨_, 1, rfl, (by simpa using h6), Nat.le_refl _⟩
      | i + 2 => simp at hl⟩
    rw [hW]
    simpa using this
  refine ⟨?_, hb⟩
  have := parity_any bc 2 2 2 (some ⟨w.heap.size + 1 + 1, 0, none⟩) [[5], [6]] W ((hb.cell (p := ⟨bc, 0, none⟩) (World.block_lt_of_cell? _ _ hc)).trans hc) hr rfl (by omega) (by omega) (by omega) (fun i l hl => by
    match i with
    | 0 => cases hl; simp
    | 1 => cases hl; simp
    | i + 2 => simp at hl)
  rw [par_known.1, par_known.2] at this
  exact this
theorem known_reb (w : World) (bc : Nat) (hc : w.cell? ⟨bc, 0, none⟩ = some (.int .i64 2)) (W : World) (hW : W = (w.alloc (.cells #[.int .u8 9] 5)).alloc (.cells #[.slice none 0 0, .slice none 0 0, .slice none 0 0, .slice (some ⟨w.heap.size, 0, none⟩) 1 1] 25)) :
    Calls Tryd.prog 116 #[.pointer (some ⟨bc, 0, none⟩), .slice (some ⟨w.heap.size + 1, 0, none⟩) 4 4] W (TellsO W [] 7) ∧ Below w.heap.size w W := by
  have hb : Below w.heap.size w W := by
    rw [hW]
    exact ((Below.refl _ _).alloc (Nat.le_refl _) _).alloc (by simp) _
  have hr : RM W W.heap.size (some ⟨w.heap.size + 1, 0, none⟩) [[], [], [], [9]] := by
    have h9 := rb_one w 9 (.int .u8 9) rfl
    have := rm_new (w := w.alloc (.cells #[.int .u8 9] 5)) (hs := #[.slice none 0 0, .slice none 0 0, .slice none 0 0, .slice (some ⟨w.heap.size, 0, none⟩) 1 1]) (S := [[], [], [], [9]]) ⟨rfl, fun i r l hr hl => by
      match i with
      | 0 => cases hr; cases hl; exact ⟨_, 0, rfl, RB.nil _ _ _, Nat.le_refl _⟩
      | 1 => cases hr; cases hl; exact ⟨_, 0, rfl, RB.nil _ _ _, Nat.le_refl _⟩
      | 2 => cases hr; cases hl; exact ⟨_, 0, rfl, RB.nil _ _ _, Nat.le_refl _⟩
      | 3 => cases hr; cases hl; exact ⟨_, 1, rfl, h9, Nat.le_refl _⟩
      | i + 4 => simp at hl⟩
    rw [hW]
    simpa using this
  refine ⟨?_, hb⟩
  have := rebuild_any bc 2 4 4 (some ⟨w.heap.size + 1, 0, none⟩) [[], [], [], [9]] W ((hb.cell (p := ⟨bc, 0, none⟩) (World.block_lt_of_cell? _ _ hc)).trans hc) hr rfl (by omega) (by omega) (by omega) (fun i l hl => by
    match i with
    | 0 => cases hl; simp
    | 1 => cases hl; simp
    | 2 => cases hl; simp
    | 3 => cases hl; simp
    | i + 4 => simp at hl)
  rw [reb_known.1, reb_known.2] at this
  exact this
end Go.Proofs.YtlficcdbnmheeaaDoor

/-
  Sums of multiplied lists, column by column.
-/
namespace Go.Proofs.YtlficcdbnmheeaaDoor
open Go.RowKit

set_option maxRecDepth 20000
/-- a column -/
def col (L : Mtx) (b : Nat) : List UInt8 := L.map fun l => l.getD b 0
theorem col_length (L : Mtx) (b : Nat) : (col L b).length = L.length := List.length_map _
theorem col_get {L : Mtx} {b j : Nat} {l : List UInt8} (h : L[j]? = some l) : (col L b).getD j 0 = l.getD b 0 := by
  unfold col
  rw [List.getD_eq_getElem?_getD, List.getElem?_map, h]; rfl
theorem linK_get {r : List UInt8} {L : Mtx} {n : Nat} (hL : ∀ (k : Nat) (l : List UInt8), L[k]? = some l → l.length = n) (b : Nat) (hb : b < n) : ∀ j, j ≤ L.length → (linK r L n j).getD b 0 = dotK r (col L b) j
  | 0, _ => by
    show (List.replicate n (0 : UInt8)).getD b 0 = 0
    rw [List.getD_eq_getElem?_getD, List.getElem?_replicate, if_pos hb]; rfl
  | j + 1, h => by
    have ih := linK_get (r := r) hL b hb j (by omega)
    have hl := List.getElem?_eq_getElem (show j < L.length by omega)
    show (addR (linK r L n j) (L.getD j []) (r.getD j 0)).getD b 0 = dotK r (col L b) j ^^^ bm (r.getD j 0) ((col L b).getD j 0)
    rw [add_get _ _ _ (by rw [linK_length r L n hL j (by omega), getD_of hl, hL j _ hl]), ih, getD_of hl, col_get hl, bm_comm]
theorem lin_get {r : List UInt8} {L : Mtx} {n : Nat} (hr : r.length ≤ L.length) (hL : ∀ (k : Nat) (l : List UInt8), L[k]? = some l → l.length = n) (b : Nat) (hb : b < n) : (lin r L n).getD b 0 = dot r (col L b) := linK_get hL b hb _ hr
theorem bytes_ext {x y : List UInt8} {n : Nat} (hx : x.length = n) (hy : y.length = n) (h : ∀ b, b < n → x.getD b 0 = y.getD b 0) : x = y := by
  apply List.ext_getElem?
  intro b
  by_cases hb : b < n
  · have := h b hb
    rw [List.getD_eq_getElem?_getD, List.getD_eq_getElem?_getD, List.getElem?_eq_getElem (by omega), List.getElem?_eq_getElem (by omega)] at this
    rw [List.getElem?_eq_getElem (by omega), List.getElem?_eq_getElem (by omega)]
    exact congrArg some this
  · rw [List.getElem?_eq_none (by omega), List.getElem?_eq_none (by omega)]
theorem lin_ext {r s : List UInt8} {L M : Mtx} {n : Nat} (hr : r.length ≤ L.length) (hs : s.length ≤ M.length) (hL : ∀ (k : Nat) (l : List UInt8), L[k]? = some l → l.length = n) (hM : ∀ (k : Nat) (l : List UInt8), M[k]? = some l → l.length = n)
    (h : ∀ b, b < n → dot r (col L b) = dot s (col M b)) : lin r L n = lin s M n :=
  bytes_ext (lin_length hr hL) (lin_length hs hM) fun b hb => by rw [lin_get hr hL b hb, lin_get hs hM b hb]; exact h b hb
/-- a column of products -/
theorem col_linM {M L : Mtx} {n : Nat} (hM : ∀ (k : Nat) (r : List UInt8), M[k]? = some r → r.length ≤ L.length) (hL : ∀ (k : Nat) (l : List UInt8), L[k]? = some l → l.length = n) (b : Nat) (hb : b < n) : col (linM M L n) b = applyL M (col L b) := by
  apply List.ext_getElem?
  intro j
  unfold col applyL linM
  rw [List.getElem?_map, List.getElem?_map, List.getElem?_map]
  rcases hj : M[j]? with _ | r
  · rfl
  · show some ((lin r L n).getD b 0) = some (dot r (col L b))
    rw [lin_get (hM j r hj) hL b hb]
/-! products of products -/
theorem dotK_zero (v : List UInt8) : ∀ k, dotK [] v k = 0
  | 0 => rfl
  | k + 1 => by
    show dotK [] v k ^^^ bm ([].getD k 0) (v.getD k 0) = 0
    rw [dotK_zero v k, show ([] : List UInt8).getD k 0 = 0 by simp, bm_zero]; rfl
theorem map_getD (f : List UInt8 → UInt8) {V : Mtx} {k : Nat} {l : List UInt8} (h : V[k]? = some l) : (V.map f).getD k 0 = f l := by
  rw [List.getD_eq_getElem?_getD, List.getElem?_map, h]; rfl
/-- a row times a matrix, times a vector -/
theorem dotK_times (r v : List UInt8) (V : Mtx) (n : Nat) (hV : ∀ (k : Nat) (l : List UInt8), V[k]? = some l → l.length = n) (k : Nat) (hk : k ≤ V.length) :
    ∀ j, j ≤ n → dotK ((List.range n).map fun a => dotK r (col V a) k) v j = dotK r (V.map fun l => dotK l v j) k
  | 0, _ => by
    show (0 : UInt8) = _
    have e0 : ∀ k, (V.map fun l => dotK l v 0).getD k 0 = 0 := fun k => by
      rw [List.getD_eq_getElem?_getD, List.getElem?_map]
      cases V[k]? <;> rfl
    have : ∀ k, dotK r (V.map fun l => dotK l v 0) k = 0 := fun k => by
      induction k with
      | zero => rfl
      | succ k ih =>
        show dotK r _ k ^^^ bm (r.getD k 0) ((V.map fun l => dotK l v 0).getD k 0) = 0
        rw [ih, e0, bm_zero']; rfl
    exact (this k).symm
  | j + 1, hj => by
    have ih := dotK_times r v V n hV k hk j (by omega)
    show dotK _ v j ^^^ bm (((List.range n).map fun a => dotK r (col V a) k).getD j 0) (v.getD j 0) = _
    rw [ih, List.getD_eq_getElem?_getD, List.getElem?_map, List.getElem?_range (by omega)]
    show dotK r (V.map fun l => dotK l v j) k ^^^ bm (dotK r (col V j) k) (v.getD j 0) = _
    have key : ∀ k, k ≤ V.length → dotK r (V.map fun l => dotK l v (j + 1)) k = dotK r (V.map fun l => dotK l v j) k ^^^ bm (dotK r (col V j) k) (v.getD j 0) := fun k => by
      induction k with
      | zero => intro _; show (0 : UInt8) = 0 ^^^ bm 0 _; rw [bm_zero]; rfl
      | succ k ihk =>
        intro hk'
        have hl := List.getElem?_eq_getElem (show k < V.length by omega)
        show dotK r _ k ^^^ bm (r.getD k 0) ((V.map fun l => dotK l v (j + 1)).getD k 0) = (dotK r _ k ^^^ bm (r.getD k 0) ((V.map fun l => dotK l v j).getD k 0)) ^^^ bm (dotK r (col V j) k ^^^ bm (r.getD k 0) ((col V j).getD k 0)) (v.getD j 0)
        rw [ihk (by omega), map_getD _ hl, map_getD _ hl, col_get hl]
        show _ ^^^ bm (r.getD k 0) (dotK V[k] v j ^^^ bm (V[k].getD j 0) (v.getD j 0)) = (_ ^^^ bm (r.getD k 0) (dotK V[k] v j)) ^^^ _
        rw [bm_add, bm_comm (r.getD k 0) (_ ^^^ _), bm_add, bm_comm (dotK V[k] v j), bm_comm (bm (V[k].getD j 0) (v.getD j 0)), bm_assoc, bx_swap]
    exact (key k hk).symm
theorem dot_times {r v : List UInt8} {V : Mtx} {n : Nat} (hr : r.length = V.length) (hV : ∀ (k : Nat) (l : List UInt8), V[k]? = some l → l.length = n) :
    dot ((List.range n).map fun a => dot r (col V a)) v = dot r (applyL V v) := by
  unfold dot
  rw [show ((List.range n).map fun a => dotK r (col V a) r.length).length = n by simp, dotK_times r v V n hV r.length (by omega) n (Nat.le_refl _)]
  congr 1
  unfold applyL dot
  apply List.ext_getElem?
  intro j
  rw [List.getElem?_map, List.getElem?_map]
  rcases hj : V[j]? with _ | l
  · rfl
  · show some (dotK l v n) = some (dotK l v l.length)
    rw [hV j l hj]
/-- a row of a product of matrices -/
theorem timesM_get {M O : Mtx} {t k : Nat} {r : List UInt8} (h : M[t]? = some r) (hd : Dim O k) (hk : 1 ≤ k) : (timesM M O)[t]? = some ((List.range k).map fun a => dot r (col O a)) := by
  have ht := (List.getElem?_eq_some_iff.1 h).1
  have hh : (O.headD []).length = k := hd.2 0 _ (head_get (by rw [hd.1]; omega))
  unfold timesM
  rw [hh]
  unfold turnedM
  rw [List.getElem?_map, List.getElem?_range (by omega)]
  show some (((((List.range k).map fun a => O.map fun r => r.getD a 0).map (applyL M))).map fun r => r.getD t 0) = _
  congr 1
  rw [List.map_map, List.map_map]
  apply List.map_congr_left
  intro a _
  show (applyL M (col O a)).getD t 0 = dot r (col O a)
  unfold applyL
  rw [List.getD_eq_getElem?_getD, List.getElem?_map, h]; rfl
/-- a missing one, made at once, is made of the inverse's products -/
theorem way_lin {k t j n : Nat} {m : List Int} {V src : Mtx} (hm : m[t]? = some (j : Int)) (hj : j < k + 2) (hV : Dim V k) (hk : 1 ≤ k) (hs : src.length = k) (hl : ∀ (i : Nat) (l : List UInt8), src[i]? = some l → l.length = n) :
    ∃ r, (wayM k m V)[t]? = some r ∧ r.length = k ∧ lin r src n = lin ((allM k).getD j []) (linM V src n) n := by
  have ha : (allM k)[j]? = some ((allM k).getD j []) := by
    have := List.getElem?_eq_getElem (show j < (allM k).length by rw [allM_length]; exact hj)
    rw [getD_of this]; exact this
  have hrow : (pick (allM k) m)[t]? = some ((allM k).getD j []) := by
    unfold pick
    rw [List.getElem?_map, hm]
    show some ((allM k).getD (Int.toNat (j : Int)) []) = _
    rw [Int.toNat_natCast]
  have hrl := allM_row k j _ ha
  refine ⟨_, timesM_get hrow hV hk, by simp, ?_⟩
  have hVs : ∀ (i : Nat) (r : List UInt8), V[i]? = some r → r.length ≤ src.length := fun i r hr => by rw [hV.2 i r hr, hs]; exact Nat.le_refl _
  refine lin_ext (by simp [hs]) (by rw [hrl, linM_length, hV.1]; exact Nat.le_refl _) hl (fun i l hi => ?_) fun b hb => ?_
  · unfold linM at hi
    rw [List.getElem?_map] at hi
    obtain ⟨r, hr, rfl⟩ := Option.map_eq_some_iff.1 hi
    exact lin_length (hVs i r hr) hl
  · rw [dot_times (by rw [hrl, hV.1]) hV.2, col_linM hVs hl b hb]
/-- what Rebuild tells, one by one -/
theorem reb_get {k : Nat} {S : Mtx} {V : Mtx × Mtx} (h : rebB k S = true) (hk1 : 1 ≤ k) (_hk2 : k ≤ 253) (hV : invK k (pick (allM k) ((thereL S).take k)) k = some V) {j : Nat} (hj : j < k + 2) :
    (rebL k S)[j]? = some (if (S.getD j []).length = 0 then lin ((allM k).getD j []) (linM V.2 (pick S ((thereL S).take k)) (lenS S)) (lenS S) else S.getD j []) := by
  obtain ⟨h1, h2, _, h4, h5⟩ := lens_of h hk1
  have hd := first_dim h1 h5
  have hdV : Dim V.2 k := (invK_good hd k V (Nat.le_refl _) hV).d2
  have hjS : j < S.length := by omega
  have hnd : (missL S).Nodup := miss_nodup S S.length
  unfold rebL
  rw [if_pos h]
  by_cases h0 : (S.getD j []).length = 0
  · rw [if_pos h0]
    obtain ⟨t, ht⟩ := List.getElem?_of_mem ((mem_miss (S := S) (x := (j : Int)) S.length).2 ⟨j, rfl, hjS, h0⟩)
    have htl : t < (missL S).length := (List.getElem?_eq_some_iff.1 ht).1
    have e : ((missL S).getD t 0).toNat = j := by
      rw [List.getD_eq_getElem?_getD, show (missL S)[t]? = some (j : Int) from ht]; rfl
    rw [setK_at (S := S) (m := missL S) (R := madeL k S) hjS e (missL S).length htl (fun s hs hst q => by
      have e1 : (missL S)[s]? = some (missL S)[s] := List.getElem?_eq_getElem hs
      obtain ⟨n, hn, _⟩ := (mem_miss (S := S) S.length).1 (List.getElem_mem hs)
      rw [List.getD_eq_getElem?_getD, e1] at q
      have q2 : (missL S)[s].toNat = j := q
      have q3 : (missL S)[s] = (missL S)[t] := by
        have e3 : (missL S)[t] = (j : Int) := (List.getElem?_eq_some_iff.1 ht).2
        rw [e3]
        have e4 : (missL S)[s] = (n : Int) := hn
        rw [e4] at q2 ⊢
        omega
      exact hst ((List.getElem_inj hnd).1 q3))]
    congr 1
    obtain ⟨r, hr1, hr2, hr3⟩ := way_lin (n := lenS S) (show (missL S)[t]? = some (j : Int) from ht) hj hdV hk1 (src := pick S ((thereL S).take k)) (by rw [pick_length, List.length_take]; omega) (first_len h4)
    rw [← hr3]
    have : madeL k S = linM (wayM k (missL S) V.2) (pick S ((thereL S).take k)) (lenS S) := by
      unfold madeL remL
      rw [hV]
      exact if_neg (by omega)
    rw [this]
    exact getD_of (linM_get _ _ _ t r hr1)
  · rw [if_neg h0, setK_other _ (fun t ht q => by
      have e1 : (missL S)[t]? = some (missL S)[t] := List.getElem?_eq_getElem ht
      obtain ⟨n, hn, hn1, hn2⟩ := (mem_miss (S := S) S.length).1 (List.getElem_mem ht)
      rw [List.getD_eq_getElem?_getD, e1] at q
      have q2 : (missL S)[t].toNat = j := q
      have e4 : (missL S)[t] = (n : Int) := hn
      rw [e4] at q2
      have : n = j := by omega
      subst this
      exact h0 hn2), List.getElem?_eq_getElem hjS, getD_of (List.getElem?_eq_getElem hjS)]
end Go.Proofs.YtlficcdbnmheeaaDoor

/-
  Lists of lists that grow by append: their headers the call's own; the rows the call's own, or only read. Parity's sums.
-/
namespace Go.Proofs.YtlficcdbnmheeaaDoor
open Go.RowKit

set_option maxRecDepth 20000
/-- header and rows are the call's own -/
structure ListO (w : World) (v : Value) (rows : List Value) (M : Mtx) (wr : World) : Prop where
  head : OwnV wr w.heap.size 25 v rows
  len : rows.length = M.length
  rows : ∀ (t : Nat) (r : Value) (l : List UInt8), rows[t]? = some r → M[t]? = some l → Own wr w.heap.size r l
  bel : Below w.heap.size w wr
theorem ListO.nil (w wr : World) (h : Below w.heap.size w wr) : ListO w (.slice none 0 0) [] [] wr := ⟨OwnV.nil _ _ _, rfl, fun t r l hr => by simp at hr, h⟩
theorem ListO.below {w wr w1 : World} {v : Value} {rows : List Value} {M : Mtx} (h : ListO w v rows M wr) (hb : Below wr.heap.size wr w1) : ListO w v rows M w1 :=
  ⟨h.head.move fun g hg => hb.block g (h.head.ge g hg).2, h.len, fun t r l hr hl => (h.rows t r l hr hl).below hb, h.bel.trans (hb.mono h.bel.size)⟩
theorem ListO.alloc {w wr : World} {v : Value} {rows : List Value} {M : Mtx} (h : ListO w v rows M wr) (o : Obj) : ListO w v rows M (wr.alloc o) := h.below ((Below.refl _ _).alloc (Nat.le_refl _) _)
theorem ListO.drewN {w wr : World} {v : Value} {rows : List Value} {M : Mtx} (h : ListO w v rows M wr) (q : Nat) : ListO w v rows M (wr.drewN q) := ⟨h.head.drewN q, h.len, h.rows, drewN_below h.bel q⟩
theorem own_head_ne {w : World} {lo lo2 : Nat} {v r : Value} {rows : List Value} {l : List UInt8} (h : Own w lo r l) (hv : OwnV w lo2 25 v rows) : ∀ g, r.ownBlock = some g → v.ownBlock ≠ some g := fun g hg hv2 => by
  rcases hv.form with ⟨e, _⟩ | ⟨g', cap, cur, e, _, hc, _⟩
  · rw [e] at hv2; cases hv2
  · rw [e] at hv2
    cases hv2
    exact own_ne h hc hg
theorem ListO.push {w wr w' : World} {v v' x : Value} {rows : List Value} {M : Mtx} {l : List UInt8} (h : ListO w v rows M wr) (hx : Own wr w.heap.size x l) (ho : OwnV w' w.heap.size 25 v' (rows ++ [x])) (hg : wr.grownBy w' v.ownBlock) : ListO w v' (rows ++ [x]) (M ++ [l]) w' := by
  have keep : ∀ (r : Value) (y : List UInt8), Own wr w.heap.size r y → Own w' w.heap.size r y := fun r y hr => hr.move fun b hb => hg.block b (hr.lt b hb).2 fun e => own_head_ne hr h.head b hb e.symm
  refine ⟨ho, by rw [List.length_append, List.length_append, h.len]; rfl, fun t r y hr hy => ?_, h.bel.grown hg h.bel.size fun g hg2 => (h.head.ge g hg2).1⟩
  by_cases ht : t < rows.length
  · rw [List.getElem?_append_left ht] at hr
    rw [List.getElem?_append_left (by rw [← h.len]; exact ht)] at hy
    exact keep r y (h.rows t r y hr hy)
  · rw [List.getElem?_append_right (by omega)] at hr
    rw [List.getElem?_append_right (by rw [← h.len]; omega), ← h.len] at hy
    have h0 : t - rows.length = 0 := by
      have := (List.getElem?_eq_some_iff.1 hr).1
      simp at this
      omega
    rw [h0] at hr hy
    cases hr
    cases hy
    exact keep _ _ hx
theorem ListO.rm {w wr : World} {v : Value} {rows : List Value} {M : Mtx} (h : ListO w v rows M wr) : ∃ A c, v = .slice A M.length c ∧ M.length ≤ c ∧ RM wr wr.heap.size A M := by
  obtain ⟨A, c, rfl, hc, _, hrd⟩ := h.head.rd
  rw [h.len] at hc ⊢
  refine ⟨A, c, rfl, hc, fun i l hl => ?_⟩
  obtain ⟨r, hr⟩ : ∃ r, rows[i]? = some r := ⟨_, List.getElem?_eq_getElem (by rw [h.len]; exact (List.getElem?_eq_some_iff.1 hl).1)⟩
  obtain ⟨b, rfl, hb, hcell⟩ := hrd i r hr
  obtain ⟨A', c', rfl, h1, h2, _⟩ := (h.rows i r l hr hl).rb
  exact ⟨b, 0, A', c', rfl, hb, by rw [Nat.zero_add]; exact hcell, h2, h1⟩
/-- the header is the call's own, the rows lie lower -/
structure ListR (w : World) (v : Value) (rows : List Value) (M : Mtx) (wr : World) : Prop where
  head : OwnV wr w.heap.size 25 v rows
  len : rows.length = M.length
  rows : ∀ (t : Nat) (r : Value) (l : List UInt8), rows[t]? = some r → M[t]? = some l → ∃ A c, r = .slice A l.length c ∧ RB wr w.heap.size A l ∧ l.length ≤ c
  bel : Below w.heap.size w wr
theorem ListR.nil (w wr : World) (h : Below w.heap.size w wr) : ListR w (.slice none 0 0) [] [] wr := ⟨OwnV.nil _ _ _, rfl, fun t r l hr => by simp at hr, h⟩
theorem ListR.below {w wr w1 : World} {v : Value} {rows : List Value} {M : Mtx} (h : ListR w v rows M wr) (hb : Below wr.heap.size wr w1) : ListR w v rows M w1 :=
  ⟨h.head.move fun g hg => hb.block g (h.head.ge g hg).2, h.len, fun t r l hr hl => by
    obtain ⟨A, c, e, h1, h2⟩ := h.rows t r l hr hl
    exact ⟨A, c, e, h1.below (hb.mono h.bel.size), h2⟩, h.bel.trans (hb.mono h.bel.size)⟩
theorem ListR.alloc {w wr : World} {v : Value} {rows : List Value} {M : Mtx} (h : ListR w v rows M wr) (o : Obj) : ListR w v rows M (wr.alloc o) := h.below ((Below.refl _ _).alloc (Nat.le_refl _) _)
theorem ListR.drewN {w wr : World} {v : Value} {rows : List Value} {M : Mtx} (h : ListR w v rows M wr) (q : Nat) : ListR w v rows M (wr.drewN q) := ⟨h.head.drewN q, h.len, h.rows, drewN_below h.bel q⟩
theorem ListR.push {w wr w' : World} {v v' : Value} {rows : List Value} {M : Mtx} {A : Option Addr} {c : Nat} {l : List UInt8} (h : ListR w v rows M wr) (hx : RB wr w.heap.size A l) (hc : l.length ≤ c) (ho : OwnV w' w.heap.size 25 v' (rows ++ [.slice A l.length c])) (hg : wr.grownBy w' v.ownBlock) :
    ListR w v' (rows ++ [.slice A l.length c]) (M ++ [l]) w' := by
  have keep : ∀ (A : Option Addr) (y : List UInt8), RB wr w.heap.size A y → RB w' w.heap.size A y := fun A y hy => hy.grown hg h.bel.size fun g hg2 => (h.head.ge g hg2).1
  refine ⟨ho, by rw [List.length_append, List.length_append, h.len]; rfl, fun t r y hr hy => ?_, h.bel.grown hg h.bel.size fun g hg2 => (h.head.ge g hg2).1⟩
  by_cases ht : t < rows.length
  · rw [List.getElem?_append_left ht] at hr
    rw [List.getElem?_append_left (by rw [← h.len]; exact ht)] at hy
    obtain ⟨A1, c1, e, h1, h2⟩ := h.rows t r y hr hy
    exact ⟨A1, c1, e, keep A1 y h1, h2⟩
  · rw [List.getElem?_append_right (by omega)] at hr
    rw [List.getElem?_append_right (by rw [← h.len]; omega), ← h.len] at hy
    have h0 : t - rows.length = 0 := by
      have := (List.getElem?_eq_some_iff.1 hr).1
      simp at this
      omega
    rw [h0] at hr hy
    cases hr
    cases hy
    exact ⟨A, c, rfl, keep A l hx, hc⟩
theorem ListR.rm {w wr : World} {v : Value} {rows : List Value} {M : Mtx} (h : ListR w v rows M wr) : ∃ A c, v = .slice A M.length c ∧ M.length ≤ c ∧ RM wr wr.heap.size A M := by
  obtain ⟨A, c, rfl, hc, _, hrd⟩ := h.head.rd
  rw [h.len] at hc ⊢
  refine ⟨A, c, rfl, hc, fun i l hl => ?_⟩
  obtain ⟨r, hr⟩ : ∃ r, rows[i]? = some r := ⟨_, List.getElem?_eq_getElem (by rw [h.len]; exact (List.getElem?_eq_some_iff.1 hl).1)⟩
  obtain ⟨b, rfl, hb, hcell⟩ := hrd i r hr
  obtain ⟨A', c', rfl, h1, h2⟩ := h.rows i r l hr hl
  exact ⟨b, 0, A', c', rfl, hb, by rw [Nat.zero_add]; exact hcell, h1.wide h.bel.size, h2⟩
/-! sums -/
def xorL (a b : List UInt8) : List UInt8 := List.zipWith (fun x y => x ^^^ y) a b
def xorM (a b : Mtx) : Mtx := List.zipWith xorL a b
theorem xorL_length {a b : List UInt8} (h : a.length = b.length) : (xorL a b).length = a.length := by simp [xorL, h]
theorem xorL_get {a b : List UInt8} (h : a.length = b.length) (j : Nat) : (xorL a b).getD j 0 = a.getD j 0 ^^^ b.getD j 0 := by
  unfold xorL
  rw [List.getD_eq_getElem?_getD, List.getD_eq_getElem?_getD, List.getD_eq_getElem?_getD, List.getElem?_zipWith]
  by_cases hj : j < a.length
  · rw [List.getElem?_eq_getElem hj, List.getElem?_eq_getElem (by omega)]; rfl
  · rw [List.getElem?_eq_none (by omega), List.getElem?_eq_none (by omega)]; rfl
theorem xorM_length {a b : Mtx} (h : a.length = b.length) : (xorM a b).length = a.length := by simp [xorM, h]
theorem xorM_get {a b : Mtx} {i : Nat} {x y : List UInt8} (hx : a[i]? = some x) (hy : b[i]? = some y) : (xorM a b)[i]? = some (xorL x y) := by
  unfold xorM
  rw [List.getElem?_zipWith, hx, hy]
theorem dotK_xor (r u v : List UInt8) (h : u.length = v.length) : ∀ k, dotK r (xorL u v) k = dotK r u k ^^^ dotK r v k
  | 0 => by show (0 : UInt8) = 0 ^^^ 0; decide
  | k + 1 => by
    show dotK r (xorL u v) k ^^^ bm (r.getD k 0) ((xorL u v).getD k 0) = (dotK r u k ^^^ bm (r.getD k 0) (u.getD k 0)) ^^^ (dotK r v k ^^^ bm (r.getD k 0) (v.getD k 0))
    rw [dotK_xor r u v h k, xorL_get h, bm_comm, bm_add, bm_comm (u.getD k 0), bm_comm (v.getD k 0), bx_swap]
theorem col_xor {a b : Mtx} {n j : Nat} (h : a.length = b.length) (ha : ∀ (t : Nat) (l : List UInt8), a[t]? = some l → l.length = n) (hb : ∀ (t : Nat) (l : List UInt8), b[t]? = some l → l.length = n) : col (xorM a b) j = xorL (col a j) (col b j) := by
  apply List.ext_getElem?
  intro i
  by_cases hi : i < a.length
  · have e1 := List.getElem?_eq_getElem hi
    have e2 := List.getElem?_eq_getElem (show i < b.length by omega)
    unfold col xorL
    rw [List.getElem?_map, List.getElem?_zipWith, List.getElem?_map, List.getElem?_map, xorM_get e1 e2, e1, e2]
    show some ((xorL a[i] b[i]).getD j 0) = some (a[i].getD j 0 ^^^ b[i].getD j 0)
    rw [xorL_get (by rw [ha i _ e1, hb i _ e2])]
  · rw [List.getElem?_eq_none (by rw [col_length, xorM_length h]; omega), List.getElem?_eq_none (by rw [xorL_length (by rw [col_length, col_length, h]), col_length]; omega)]
/-- the first k, summed -/
def xorK (v : List UInt8) : Nat → UInt8
  | 0 => 0
  | k + 1 => xorK v k ^^^ v.getD k 0
theorem dotK_ones (n : Nat) (v : List UInt8) : ∀ k, k ≤ n → dotK (List.replicate n 1) v k = xorK v k
  | 0, _ => rfl
  | k + 1, h => by
    show dotK _ v k ^^^ bm ((List.replicate n (1 : UInt8)).getD k 0) (v.getD k 0) = xorK v k ^^^ v.getD k 0
    rw [dotK_ones n v k (by omega), ones_get n k (by omega), bm_one]
end Go.Proofs.YtlficcdbnmheeaaDoor

/-
  The second saying's New and parity.
-/
namespace Go.Proofs.YtlficcdbnmheeaaDoor
open Go.RowKit

set_option maxRecDepth 20000
theorem own_two (w : World) (base : Nat) (a b : Value) (h : base ≤ w.heap.size) : OwnV (w.alloc (.cells #[a, b] 25)) base 25 (.slice (some ⟨w.heap.size, 0, none⟩) 2 2) [a, b] :=
  ⟨by simp, .inr ⟨w.heap.size, 2, #[a, b], rfl, h, heap_alloc_new w _, Nat.le_refl _, by simp [maxLen], rfl, rfl⟩⟩
theorem mat_two {w : World} {lo bp bq n : Nat} {P Q : List UInt8} (hp : Blk w bp P) (hq : Blk w bq Q) (hne : bp ≠ bq) (h1 : lo ≤ bp) (h2 : lo ≤ bq) (hP : P.length = n) (hQ : Q.length = n) (hn : 1 ≤ n) (hn2 : n ≤ 1048576) :
    MatO (w.alloc (.cells #[.slice (some ⟨bp, 0, none⟩) n n, .slice (some ⟨bq, 0, none⟩) n n] 25)) lo (w.alloc (.cells #[.slice (some ⟨bp, 0, none⟩) n n, .slice (some ⟨bq, 0, none⟩) n n] 25)).heap.size (.slice (some ⟨w.heap.size, 0, none⟩) 2 2) [P, Q] := by
  have o1 := (hp.alloc (.cells #[.slice (some ⟨bp, 0, none⟩) n n, .slice (some ⟨bq, 0, none⟩) n n] 25)).own (base := lo) h1 (by omega)
  have o2 := (hq.alloc (.cells #[.slice (some ⟨bp, 0, none⟩) n n, .slice (some ⟨bq, 0, none⟩) n n] 25)).own (base := lo) h2 (by omega)
  rw [hP] at o1
  rw [hQ] at o2
  have hlp := hp.lt
  have hlq := hq.lt
  refine ⟨[.slice (some ⟨bp, 0, none⟩) n n, .slice (some ⟨bq, 0, none⟩) n n], own_two w lo _ _ (by omega), fun g hg => ?_, rfl, fun i r l hr hl => ?_, fun i j ri rj g hij hri hrj hgi hgj => ?_⟩
  · cases hg
    simp
  · match i with
    | 0 =>
      cases hr
      cases hl
      exact ⟨by omega, o1, fun g hg => by cases hg; simp; omega⟩
    | 1 =>
      cases hr
      cases hl
      exact ⟨by omega, o2, fun g hg => by cases hg; simp; omega⟩
    | i + 2 => simp at hr
  · match i, j with
    | 0, 0 => exact hij rfl
    | 0, 1 =>
      cases hri
      cases hrj
      cases hgi
      cases hgj
      exact hne rfl
    | 1, 0 =>
      cases hri
      cases hrj
      cases hgi
      cases hgj
      exact hne rfl
    | 1, 1 => exact hij rfl
    | i + 2, _ => simp at hri
    | _, j + 2 => simp at hrj
theorem set_same' {l : List UInt8} {i : Nat} {x : UInt8} (h : l[i]? = some x) : l.set i x = l := by
  apply List.ext_getElem?
  intro j
  by_cases e : i = j
  · subst e
    rw [List.getElem?_set_self (List.getElem?_eq_some_iff.1 h).1, h]
  · rw [List.getElem?_set_ne e]
theorem blk_at {w : World} {g i : Nat} {L : List UInt8} {a : UInt8} (h : Blk w g (L.set i a)) (hi : i < L.length) : w.cell? ⟨g, i, none⟩ = some (.int .u8 (a.toNat : Int)) ∧ w.frozen? ⟨g, i, none⟩ = false ∧ ∀ (q : Nat) (b : UInt8), Blk ((w.setCell ⟨g, i, none⟩ (.int .u8 (b.toNat : Int))).drewN q) g (L.set i b) := by
  have hl : i < (L.set i a).length := by rw [List.length_set]; exact hi
  refine ⟨?_, h.frozen i, fun q b => ?_⟩
  · rw [h.cell hl]
    simp
  · have := h.set i b
    rw [List.set_set] at this
    exact this
theorem pwr_next (k : Nat) (W : World) : Calls Tryd.prog 100 #[.int .u8 ((ex k : Nat) : Int), .int .u8 2] W fun e w' => e = .returned (.int .u8 ((ex (k + 1) : Nat) : Int)) ∧ W = w' := by
  have := rmul_any (ex k) 2 W (ex_lt k) (by omega)
  rw [show (2 : Nat) = ex 1 from rfl, ex_add] at this
  exact this
theorem pwr_mul (k : Nat) (x : UInt8) (W : World) : Calls Tryd.prog 100 #[.int .u8 ((ex k : Nat) : Int), .int .u8 (x.toNat : Int)] W fun e w' => e = .returned (.int .u8 ((bm (pwr k) x).toNat : Int)) ∧ w' = W := by
  have := rmul_any (ex k) x.toNat W (ex_lt k) (u8_lt x)
  rw [← pwr_nat, ← bm_nat] at this
  rw [← pwr_nat]
  exact this.mono fun _ _ ⟨a, b⟩ => ⟨a, b.symm⟩
end Go.Proofs.YtlficcdbnmheeaaDoor

/-
  RsSums, walked.
-/
namespace Go.Proofs.YtlficcdbnmheeaaDoor
open Go.RowKit

set_option maxRecDepth 20000
/-- the first j, then 0 -/
def partP (T : List UInt8) (j : Nat) : List UInt8 := T.take j ++ List.replicate (T.length - j) 0
theorem partP_zero (T : List UInt8) : partP T 0 = List.replicate T.length 0 := by simp [partP]
theorem partP_done (T : List UInt8) : partP T T.length = T := by simp [partP]
theorem partP_length (T : List UInt8) {j : Nat} (h : j ≤ T.length) : (partP T j).length = T.length := by simp [partP]; omega
theorem partP_step {T : List UInt8} {j : Nat} {x : UInt8} (hx : T[j]? = some x) : (partP T j).set j x = partP T (j + 1) := by
  have hj := (List.getElem?_eq_some_iff.1 hx).1
  have e := (List.getElem?_eq_some_iff.1 hx).2
  unfold partP
  obtain ⟨m, hm⟩ : ∃ m, T.length - j = m + 1 := ⟨T.length - j - 1, by omega⟩
  rw [List.set_append_right _ _ (by simp; omega), List.length_take, show j - min j T.length = 0 by omega, hm, show T.length - (j + 1) = m by omega, List.replicate_succ, List.set_cons_zero, List.take_succ_eq_append_getElem hj, e]
  simp
theorem partP_get {T : List UInt8} {j : Nat} (h : j < T.length) : (partP T j)[j]? = some 0 := by
  unfold partP
  rw [List.getElem?_append_right (by simp; omega), List.getElem?_replicate]
  rw [if_pos (by simp; omega)]
theorem blk_set {w wr : World} {B g j : Nat} {T : List UInt8} {x : UInt8} (hx : T[j]? = some x) (h : Blk wr g (partP T j)) (hb : Below B w wr) (hg : B ≤ g) :
    wr.cell? ⟨g, j, none⟩ = some (.int .u8 0) ∧ wr.frozen? ⟨g, j, none⟩ = false ∧ Blk (wr.setCell ⟨g, j, none⟩ (.int .u8 (x.toNat : Int))) g (partP T (j + 1)) ∧ Below B w (wr.setCell ⟨g, j, none⟩ (.int .u8 (x.toNat : Int))) := by
  have hj := (List.getElem?_eq_some_iff.1 hx).1
  have hl : j < (partP T j).length := by rw [partP_length T (by omega)]; exact hj
  refine ⟨?_, h.frozen j, ?_, hb.setCell (p := ⟨g, j, none⟩) hg _⟩
  · rw [h.cell hl]
    have := partP_get hj
    rw [List.getElem?_eq_getElem hl] at this
    rw [Option.some.inj this]; rfl
  · have := h.set j x
    rw [partP_step hx] at this
    exact this
/-- a told matrix' row, where it lies, in whatever world keeps it -/
theorem row_at {W : World} {A : Option Addr} {M : Mtx} {t n : Nat} {l : List UInt8} (h : RM W W.heap.size A M) (hl : M[t]? = some l) (hn : l.length = n) (hn1 : 1 ≤ n) :
    ∃ b o b' o' c', A = some ⟨b, o, none⟩ ∧ W.cell? ⟨b, o + t, none⟩ = some (.slice (some ⟨b', o', none⟩) n c') ∧ ∀ j, j < n → W.cell? ⟨b', o' + j, none⟩ = some (.int .u8 ((l.getD j 0).toNat : Int)) := by
  obtain ⟨b, o, A', c', e, _, hc, hr, _⟩ := h t l hl
  obtain ⟨b', o', rfl, _⟩ := hr.flat (by omega)
  refine ⟨b, o, b', o', c', e, by rw [hc, hn], fun j hj => ?_⟩
  have hx := List.getElem?_eq_getElem (show j < l.length by omega)
  obtain ⟨ad, e2, _, hc2⟩ := hr j _ hx
  cases e2
  rw [add_flat] at hc2
  rw [hc2, List.getD_eq_getElem?_getD, hx]; rfl
theorem parL_two {k n : Nat} {S : Mtx} (hS : S.length = k) (hk : 1 ≤ k) (hn : 1 ≤ n) (h : ∀ (i : Nat) (l : List UInt8), S[i]? = some l → l.length = n) : parL k S = [lin (List.replicate k 1) S n, lin ((List.range k).map pwr) S n] ∧ parE k S = 0 := by
  have hp := par_yes hS hn h
  have h0 := h 0 _ (head_get (M := S) (by omega))
  unfold parL parE
  rw [if_pos hp, if_pos hp, h0]
  exact ⟨rfl, rfl⟩
theorem ones_val {k n j : Nat} {S : Mtx} (hS : S.length = k) (h : ∀ (i : Nat) (l : List UInt8), S[i]? = some l → l.length = n) (hj : j < n) : (lin (List.replicate k 1) S n).getD j 0 = xorK (col S j) k := by
  rw [lin_get (by simp [hS]) h j hj]
  unfold dot
  rw [List.length_replicate, dotK_ones k _ k (Nat.le_refl _)]
theorem lin_xor {r : List UInt8} {k n j : Nat} {a b : Mtx} (hr : r.length = k) (ha : a.length = k) (hb : b.length = k) (hla : ∀ (i : Nat) (l : List UInt8), a[i]? = some l → l.length = n) (hlb : ∀ (i : Nat) (l : List UInt8), b[i]? = some l → l.length = n) (hls : ∀ (i : Nat) (l : List UInt8), (xorM a b)[i]? = some l → l.length = n) (hj : j < n) :
    (lin r a n).getD j 0 ^^^ (lin r b n).getD j 0 = (lin r (xorM a b) n).getD j 0 := by
  rw [lin_get (by omega) hla j hj, lin_get (by omega) hlb j hj, lin_get (by rw [xorM_length (by omega)]; omega) hls j hj, col_xor (by omega) hla hlb]
  unfold dot
  rw [dotK_xor _ _ _ (by rw [col_length, col_length, ha, hb])]
end Go.Proofs.YtlficcdbnmheeaaDoor
