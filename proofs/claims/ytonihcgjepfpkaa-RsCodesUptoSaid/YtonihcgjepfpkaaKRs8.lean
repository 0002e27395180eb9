/-
  The program's remade.
-/
import Derived.Test.YtonihcgjepfpkaaKRs6
import Derived.Deep.RegionLaw
import Derived.Deep.DeepMust
import Derived.Test.YtonihcgjepfpkaaKGf25
namespace Go.Proofs.Ytonihcgjepfpkaa
open Go.RowKit

set_option maxRecDepth 20000
/-- append(v, xs...) at a step of a region that draws its order: cells -/
theorem step_app_many {w : World} {ops : Array Oper} {K : Act → World → Prop} {E : Prop} {o : Oper} {a : Act} {Q : Exit → Act → World → Prop} (hgd : o.guard = none) (s x : Operand) (t e : TypeId)
    (ho : o.op = .call { callee := .builtin .append, args := #[s, x], argTypes := #[t, t] })
    (hu : Try.prog.underlying t = some (.slice e)) (z : Value) (bytes : Nat) (hi : (Try.prog.info? e).map (fun i => (i.zero, i.size, i.bytes)) = some (some z, 1, bytes)) (hzc : z.cells.size = 1)
    (base : Nat) (v : Value) (xs : List Value) (hs : a.eval s = v) (hown : OwnV w base e v xs)
    (ad : Addr) (m c : Nat) (us : List Value) (hx : a.eval x = .slice (some ad) m c) (hm : m = us.length) (hc : ∀ j u, us[j]? = some u → w.cell? (ad.add j) = some u) (h1 : ∀ u ∈ us, u.oneCell' = true)
    (hlen : xs.length + us.length ≤ 140737488355327) (hbytes : (xs.length + us.length) * bytes ≤ 140737488355328) (hbase : base ≤ w.heap.size)
    (h : ∀ v' w', OwnV w' base e v' (xs ++ us) → w.grownBy w' v.ownBlock → (v'.ownBlock = v.ownBlock ∨ v'.ownBlock = some w.heap.size) → K (a.put o.dst v') w') :
    if Region.wanted o (yielded ops a.tmps) = true then Oper.wp Try.prog o a w K Q else E := by
  subst hm
  have hw : Region.wanted o (yielded ops a.tmps) = true := by simp [Region.wanted, hgd]
  rw [if_pos hw]
  obtain ⟨v', w', hrun, h2, h3, h5⟩ := app_cells_run (w := w) t o.type e hu z bytes hi hzc base v xs hown ad c us hc h1 hlen hbytes hbase
  unfold Oper.wp execOp
  simp only [ho, resolve, invoke, builtin, Sem.run_bind, Sem.run_pure, Result.andThen_ok, List.map_toArray, List.map_cons, List.map_nil, hs, hx]
  rw [show (Builtin.append_ #[t, t] o.type #[v, .slice (some ad) us.length c]).run Try.prog w = .ok v' w' from hrun]
  exact h v' w' h2 h3 h5
/-- a matrix of the call's own: its header cells; they read as its rows, also behind an append to its header, or to what lies lower -/
theorem mat_both {w : World} {lo hi g n c : Nat} {M : Mtx} (h : MatO w lo hi (.slice (some ⟨g, 0, none⟩) n c) M) : ∃ rows, OwnV w lo 41 (.slice (some ⟨g, 0, none⟩) n c) rows ∧ RowsV w rows M ∧
    (∀ (i : Nat) (r : Value), rows[i]? = some r → w.cell? ⟨g, i, none⟩ = some r) ∧ ∀ (w' : World) (x : Nat), w.grownBy w' (some x) → (x = g ∨ x < lo) → RowsV w' rows M := by
  have h' := h
  obtain ⟨rows, a, _, b, d, _⟩ := h
  obtain ⟨A, c', e, _, _, hrd⟩ := a.rd
  have hcell : ∀ (i : Nat) (r : Value), rows[i]? = some r → w.cell? ⟨g, i, none⟩ = some r := fun i r hr => by
    obtain ⟨b9, e9, h8, h9⟩ := hrd i r hr
    have e1 := (Value.slice.inj e).1
    rw [e9] at e1
    cases e1
    exact h9
  have key : ∀ (i : Nat) (r : Value) (l : List UInt8), rows[i]? = some r → M[i]? = some l → ∃ b9 c9, r = .slice (some ⟨b9, 0, none⟩) l.length c9 ∧ RowAt w lo hi g i b9 c9 l := fun i r l hr hl => by
    obtain ⟨b9, c9, hrow, _⟩ := h'.row hl
    have := hcell i r hr
    rw [hrow.head] at this
    exact ⟨b9, c9, (Option.some.inj this).symm, hrow⟩
  refine ⟨rows, a, ⟨b, fun i r l hr hl => ?_⟩, hcell, fun w' x hg hx => ⟨b, fun i r l hr hl => ?_⟩⟩
  · obtain ⟨b9, c9, rfl, hrow⟩ := key i r l hr hl
    exact ⟨_, c9, rfl, fun j y hy => ⟨_, rfl, hrow.lt, by rw [add_flat, Nat.zero_add]; exact hrow.cells j y hy⟩, hrow.cap⟩
  · obtain ⟨b9, c9, rfl, hrow⟩ := key i r l hr hl
    have hne : some b9 ≠ some x := fun e9 => by
      have e8 := Option.some.inj e9
      have := hrow.ne
      have := hrow.low
      omega
    exact ⟨_, c9, rfl, fun j y hy => ⟨_, rfl, Nat.lt_of_lt_of_le hrow.lt hg.size, by
      rw [add_flat, Nat.zero_add]
      exact (World.cell?_of_block (w := w) (hg.block b9 hrow.lt (fun e9 => hne e9))).trans (hrow.cells j y hy)⟩, hrow.cap⟩
/-- the shards of these numbers -/
def headers (w : World) (b o : Nat) (f : List Int) : List Value := f.map fun x => (w.cell? ⟨b, o + x.toNat, none⟩).getD undef
structure SrcAt (w w0 : World) (g b o : Nat) (f : List Int) (i : Nat) (wr : World) : Prop where
  head : Cells wr g 41 ((headers w b o f).take i ++ List.replicate (f.length - i) (.slice none 0 0))
  bel : Below w0.heap.size w0 wr
theorem SrcAt.step {w w0 wr : World} {g b o i : Nat} {f : List Int} {x : Int} {u : Value} (h : SrcAt w w0 g b o f i wr) (hg : w0.heap.size ≤ g) (hx : f[i]? = some x) (hu : w.cell? ⟨b, o + x.toNat, none⟩ = some u) :
    wr.cell? ⟨g, i, none⟩ = some (.slice none 0 0) ∧ wr.frozen? ⟨g, i, none⟩ = false ∧ SrcAt w w0 g b o f (i + 1) (wr.setCell ⟨g, i, none⟩ u) := by
  have hi := (List.getElem?_eq_some_iff.1 hx).1
  have hhl : (headers w b o f).length = f.length := List.length_map _
  have hhi : (headers w b o f)[i]? = some u := by
    unfold headers
    rw [List.getElem?_map, hx]
    simp [hu]
  have hl : ((headers w b o f).take i).length = i := by rw [List.length_take, hhl]; omega
  obtain ⟨m, hm⟩ : ∃ m, f.length - i = m + 1 := ⟨f.length - i - 1, by omega⟩
  refine ⟨h.head.cell ?_, h.head.frozen i, ?_, h.bel.setCell (p := ⟨g, i, none⟩) hg _⟩
  · rw [List.getElem?_append_right (by omega), hl, Nat.sub_self, hm]; rfl
  · have := h.head.set i u
    rw [List.set_append_right _ _ (by omega), hl, Nat.sub_self, hm, List.replicate_succ, List.set_cons_zero] at this
    rw [List.take_succ_eq_append_getElem (by rw [hhl]; exact hi), (List.getElem?_eq_some_iff.1 hhi).2, show f.length - (i + 1) = m by omega]
    simpa using this
theorem SrcAt.done {w w0 wr : World} {g b o : Nat} {f : List Int} {S : Mtx} (h : SrcAt w w0 g b o f f.length wr) (hw : Below w.heap.size w w0) (hS : RM w w.heap.size (some ⟨b, o, none⟩) S) (hf : ∀ x ∈ f, 0 ≤ x ∧ x < (S.length : Int)) : RM wr wr.heap.size (some ⟨g, 0, none⟩) (pick S f) := fun i l hl => by
  have hhl : (headers w b o f).length = f.length := List.length_map _
  have hi : i < f.length := by have := (List.getElem?_eq_some_iff.1 hl).1; simpa [pick] using this
  obtain ⟨x, hx⟩ : ∃ x, f[i]? = some x := ⟨_, List.getElem?_eq_getElem hi⟩
  have hxb := hf x (List.mem_of_getElem? hx)
  have e : l = S.getD x.toNat [] := by
    unfold pick at hl
    rw [List.getElem?_map, hx] at hl
    exact (Option.some.inj hl).symm
  obtain ⟨y, hy⟩ : ∃ y, S[x.toNat]? = some y := ⟨_, List.getElem?_eq_getElem (by omega)⟩
  rw [getD_of hy] at e
  subst e
  obtain ⟨A', c', hc, hr, hcap⟩ := hS.row hy
  have hlt := h.head.lt
  have hw2 : Below w.heap.size w wr := hw.trans (h.bel.mono hw.size)
  refine ⟨g, 0, A', c', rfl, hlt, ?_, (hr.below hw2).wide hw2.size, hcap⟩
  rw [Nat.zero_add]
  refine h.head.cell ?_
  rw [Nat.sub_self, List.replicate_zero, List.append_nil, List.take_of_length_le (by omega)]
  unfold headers
  rw [List.getElem?_map, hx]
  simp [hc]
end Go.Proofs.Ytonihcgjepfpkaa

/-
  The program's remade, walked.
-/
namespace Go.Proofs.Ytonihcgjepfpkaa
open Go.RowKit

set_option maxRecDepth 20000
/-- a list of lists that was told alone -/
def TellsL (w : World) (L : Mtx) (e : Ending) (w' : World) : Prop :=
  ∃ A c, e = .returned (.slice A L.length c) ∧ MatO w' w.heap.size w'.heap.size (.slice A L.length c) L ∧ Below w.heap.size w w'
theorem pick_dim {k : Nat} {f : List Int} (hf : ∀ x ∈ f, 0 ≤ x ∧ x < (k : Int) + 2) : ∀ (t : Nat) (l : List UInt8), (pick (allM k) f)[t]? = some l → l.length = k := fun t l hl => by
  unfold pick at hl
  rw [List.getElem?_map] at hl
  obtain ⟨x, hx, rfl⟩ := Option.map_eq_some_iff.1 hl
  have := hf x (List.mem_of_getElem? hx)
  have hlt : x.toNat < (allM k).length := by rw [allM_length]; omega
  rw [getD_of (List.getElem?_eq_getElem hlt)]
  exact allM_row k x.toNat _ (List.getElem?_eq_getElem hlt)
theorem pick_length (M : Mtx) (f : List Int) : (pick M f).length = f.length := List.length_map _
theorem allM_right {k : Nat} (h1 : 1 ≤ k) (h2 : k ≤ 253) : rightB (allM k) = true := by
  have h0 : (allM k)[0]? = some ((allM k).headD []) := head_get (by rw [allM_length]; omega)
  have hk := allM_row k 0 _ h0
  refine decide_eq_true ⟨by rw [allM_length]; omega, by rw [allM_length]; omega, by omega, by omega, fun l hl => ?_⟩
  obtain ⟨j, hj⟩ := List.getElem?_of_mem hl
  rw [hk]
  exact allM_row k j l hj
theorem pick_rowsB {k : Nat} {f : List Int} (h1 : 1 ≤ k) (h2 : k ≤ 253) (hl : 1 ≤ f.length ∧ f.length ≤ 255) (hf : ∀ x ∈ f, 0 ≤ x ∧ x < (k : Int) + 2) : rowsB (allM k) f = true := by
  unfold rowsB
  rw [allM_right h1 h2, decide_eq_true ⟨hl.1, hl.2, fun x hx => ⟨(hf x hx).1, by have := (hf x hx).2; rw [allM_length]; omega⟩⟩]
  rfl
theorem right_of {M : Mtx} {n : Nat} (h1 : 1 ≤ M.length) (h2 : M.length ≤ 255) (h3 : 1 ≤ n) (h4 : n ≤ 255) (hr : ∀ (t : Nat) (l : List UInt8), M[t]? = some l → l.length = n) : rightB M = true ∧ (M.headD []).length = n := by
  have hh := hr 0 _ (head_get (by omega))
  refine ⟨decide_eq_true ⟨h1, h2, by omega, by omega, fun l hl => ?_⟩, hh⟩
  obtain ⟨j, hj⟩ := List.getElem?_of_mem hl
  rw [hh]
  exact hr j l hj
theorem right_dim' {P : Mtx} {k : Nat} (hd : Dim P k) (h1 : 1 ≤ k) (h2 : k ≤ 255) : rightB P = true := (right_of (by rw [hd.1]; exact h1) (by rw [hd.1]; exact h2) h1 h2 hd.2).1
theorem sq_dim' {P : Mtx} {k : Nat} (hd : Dim P k) (h1 : 1 ≤ k) (h2 : k ≤ 255) : sqB P = true := by
  unfold sqB
  rw [right_dim' hd h1 h2, decide_eq_true]
  · rfl
  · rw [hd.1, hd.2 0 _ (head_get (by rw [hd.1]; omega))]
theorem timesM_length (M O : Mtx) : (timesM M O).length = M.length := by simp [timesM, turnedM]
theorem timesM_row {M O : Mtx} {t : Nat} {l : List UInt8} (h : (timesM M O)[t]? = some l) : l.length = (O.headD []).length := by
  unfold timesM at h
  have := turned_row _ _ t l h
  rw [this, List.length_map]
  simp [turnedM]
theorem mat_head_lt {w : World} {lo hi g n c : Nat} {M : Mtx} (h : MatO w lo hi (.slice (some ⟨g, 0, none⟩) n c) M) (h0 : 0 < M.length) : g < w.heap.size := by
  obtain ⟨g', c', e, _, _, _, hlt, _⟩ := h.head h0
  cases e
  exact hlt
/-- the rows that make the missing -/
def wayM (k : Nat) (m : List Int) (V : Mtx) : Mtx := timesM (pick (allM k) m) V
def remL (k : Nat) (S : Mtx) (f m : List Int) (V : Mtx) (n : Nat) : Mtx := if m.length = 0 then [] else linM (wayM k m V) (pick S f) n
set_option maxHeartbeats 4000000 in
theorem remade_any (bc k b o c N n : Nat) (S : Mtx) (A1 : Option Addr) (c1 : Nat) (f : List Int) (A2 : Option Addr) (c2 ml : Nat) (m : List Int) (V : Mtx × Mtx) (w : World) (hc : w.cell? ⟨bc, 0, none⟩ = some (.int .i64 (k : Int)))
    (hS : RM w w.heap.size (some ⟨b, o, none⟩) S) (hN : N = S.length) (hNk : N = k + 2) (h1 : RI w w.heap.size A1 f) (hf1 : f.length = k) (h2 : RI w w.heap.size A2 m) (hm1 : ml = m.length) (hm2 : ml ≤ 2) (hk1 : 1 ≤ k) (hk2 : k ≤ 253)
    (hf : ∀ x ∈ f, 0 ≤ x ∧ x < (k : Int) + 2) (hm : ∀ x ∈ m, 0 ≤ x ∧ x < (k : Int) + 2) (hn : ∀ x ∈ f, (S.getD x.toNat []).length = n) (hn1 : 1 ≤ n) (hn2 : n ≤ 1048576) (hV : invK k (pick (allM k) f) k = some V) :
    Calls Try.prog 31 #[.pointer (some ⟨bc, 0, none⟩), .slice (some ⟨b, o, none⟩) N c, .slice A1 k c1, .slice A2 ml c2] w (TellsL w (remL k S f m V.2 n)) := by
  by_cases h0 : ml = 0
  · have Hr : Hid (remL k S f m V.2 n = []) := if_pos (by omega)
    subst h0
    clear hc hS hN hNk h1 hf1 h2 hm1 hm2 hk1 hk2 hf hm hn hn1 hn2 hV
    go_enter Try.func31, Try.ntmps31
    go_wp2_with fail
    go_ret
    rw [Hr.out]
    exact ⟨none, 0, rfl, MatO.none _ _ _, Below.refl _ _⟩
  have hb0 : ((ml : Int) == 0) = false := by simp; omega
  have hdf : Dim (pick (allM k) f) k := ⟨by rw [pick_length, hf1], pick_dim hf⟩
  have hdV : Dim V.2 k := (invK_good hdf k V (Nat.le_refl _) hV).d2
  have Hr : Hid (remL k S f m V.2 n = linM (wayM k m V.2) (pick S f) n) := if_neg (by omega)
  have Hf : Hid (rowsL (allM k) f = pick (allM k) f ∧ rowsE (allM k) f = 0) := by
    have := pick_rowsB hk1 hk2 ⟨by omega, by omega⟩ hf
    unfold rowsL rowsE
    rw [if_pos this, if_pos this]
    exact ⟨rfl, rfl⟩
  have Hm : Hid (rowsL (allM k) m = pick (allM k) m ∧ rowsE (allM k) m = 0) := by
    have := pick_rowsB hk1 hk2 ⟨by omega, by omega⟩ hm
    unfold rowsL rowsE
    rw [if_pos this, if_pos this]
    exact ⟨rfl, rfl⟩
  have Hi : Hid (invL (pick (allM k) f) = V.2 ∧ invC (pick (allM k) f) = 0) := by
    have hsq := sq_dim' hdf hk1 (by omega)
    unfold invL invC
    rw [if_pos hsq, if_pos hsq, hdf.1, hV]
    exact ⟨rfl, rfl⟩
  have Ht : Hid (timesL (pick (allM k) m) V.2 = wayM k m V.2 ∧ timesE (pick (allM k) m) V.2 = 0) := by
    obtain ⟨g1, g2⟩ := right_of (M := pick (allM k) m) (n := k) (by rw [pick_length]; omega) (by rw [pick_length]; omega) hk1 (by omega) (pick_dim hm)
    have hbb : timesB (pick (allM k) m) V.2 = true := by
      unfold timesB
      rw [g1, right_dim' hdV hk1 (by omega), decide_eq_true (by rw [g2, hdV.1])]; rfl
    unfold timesL timesE
    rw [if_pos hbb, if_pos hbb]
    exact ⟨rfl, rfl⟩
  have Hb : Hid (1 ≤ k ∧ k ≤ 253 ∧ 1 ≤ ml ∧ ml ≤ 2 ∧ 1 ≤ n ∧ n ≤ 1048576 ∧ f.length = k ∧ ml = m.length ∧ N = S.length ∧ N = k + 2) := ⟨hk1, hk2, by omega, hm2, hn1, hn2, hf1, hm1, hN, hNk⟩
  have Hff : Hid ((∀ x ∈ f, 0 ≤ x ∧ x < (k : Int) + 2) ∧ ∀ x ∈ f, (S.getD x.toNat []).length = n) := ⟨hf, hn⟩
  have Hmm := Lib.hid hm
  have HdV := Lib.hid hdV
  have HS := Lib.hid hS
  have H1 := Lib.hid h1
  have H2 := Lib.hid h2
  have Hcs : Hid (∀ W, Below w.heap.size w W → W.cell? ⟨bc, 0, none⟩ = some (.int .i64 (k : Int))) := fun W hb => (hb.cell (p := ⟨bc, 0, none⟩) (World.block_lt_of_cell? _ _ hc)).trans hc
  have hk2' : (k : Int) ≤ 253 := by omega
  clear hS hN hNk h1 hf1 h2 hm1 hm2 hk1 hk2 hf hm hn hn1 hn2 hV hdf hdV h0
  generalize V.2 = V2 at *
  go_enter Try.func31, Try.ntmps31
  go_wp2_with fail
  go_region_held3 (fun W => W.cell? ⟨bc, 0, none⟩ = some (.int .i64 (k : Int))) (first | exact hc | exact hS5 | exact hS6 | exact hS7)
    (first
      | (go_at_call 47; refine (unit_any k _ Hb.out.1 (by have := Hb.out; omega)).mono ?_; rintro e w5 ⟨gu, rfl, mu, bu⟩; have Hb5 : Hid (Below w.heap.size w w5) := (drewN_below (Below.refl _ w) 1).trans bu; have hS5 := Hcs.out w5 Hb5.out; have Hu5 : Hid (MatO w5 w.heap.size w5.heap.size (.slice (some ⟨gu, 0, none⟩) k k) (unitM k) ∧ gu < w5.heap.size) := ⟨mu, (mat_head_lt mu (by simp [unitM]; have := Hb.out; omega))⟩; clear mu bu)
      | (go_at_call 26; refine (pairs_any k _ Hb.out.1 (by have := Hb.out; omega)).mono ?_; rintro e w6 ⟨gc, rfl, mc, bc6⟩; have Hb6 : Hid (Below w.heap.size w w6) := Hb5.out.trans (bc6.mono Hb5.out.size); have hS6 := Hcs.out w6 Hb6.out; obtain ⟨ru, ou, vu, _, gru⟩ := mat_both (Hu5.out.1.below bc6); obtain ⟨rc, _, vc, hcc, grc⟩ := mat_both mc; have Hu6 : Hid (OwnV w6 w.heap.size 41 (.slice (some ⟨gu, 0, none⟩) k k) ru ∧ (∀ w', w6.grownBy w' (some gu) → RowsV w' (ru ++ rc) (allM k)) ∧ ru.length = k) := ⟨ou, fun w' hg => (gru w' gu hg (.inl rfl)).append (grc w' gu hg (.inr Hu5.out.2)), by rw [vu.1]; simp [unitM]⟩; have Hc6 : Hid ((∀ u ∈ rc, u.oneCell' = true) ∧ rc.length = 2 ∧ ∀ (j : Nat) (u : Value), rc[j]? = some u → w6.cell? ⟨gc, j, none⟩ = some u) := ⟨vc.one, by rw [vc.1]; simp [pairsM], hcc⟩; clear mc bc6 vc hcc ou vu gru grc)
      | (go_at_call 25; refine (mustM_ok _ _ _ _).mono ?_; rintro e w9 ⟨rfl, rfl⟩)
      | (skip; (refine step_app_many rfl (.tmp 25) (.tmp 33) 52 41 rfl Try.underlying52 (.slice none 0 0) 24 info_row rfl w.heap.size _ ru rfl Hu6.out.1 ⟨gc, 0, none⟩ 2 2 rc rfl Hc6.out.2.1.symm (fun j u hj => by rw [add_flat, Nat.zero_add]; exact Hc6.out.2.2 j u hj) Hc6.out.1 (by have := Hu6.out.2.2; have := Hc6.out.2.1; have := Hb.out; omega) (by have := Hu6.out.2.2; have := Hc6.out.2.1; have := Hb.out; omega) Hb6.out.size ?_); intro v7 w7 hown hg _; have Hb7 : Hid (Below w.heap.size w w7) := Hb6.out.grown hg Hb6.out.size (fun g hg => (Hu6.out.1.ge g hg).1); have hS7 := Hcs.out w7 Hb7.out; obtain ⟨Aa, ca, ea, ra⟩ := rm_of (M := allM k) hown (Hu6.out.2.1 w7 hg); rw [allM_length] at ea; subst ea; have Hra : Hid (RM w7 w7.heap.size Aa (allM k)) := ra; clear hown hg ra))
  have HR1 : Hid (Calls Try.prog 48 #[.slice Aa (k + 2) ca, .slice A1 k c1] w7 fun e w' => ∃ A6 c6, e = .returned (.tuple #[.slice A6 k c6, .int .i64 0]) ∧ RM w' w'.heap.size A6 (pick (allM k) f) ∧ Below w7.heap.size w7 w') := by
    have := rows_any Aa ca (allM k) A1 c1 f w7 Hra.out (by rw [allM_length]; have := Hb.out; omega) (fun t l ht => by rw [allM_row k t l ht]; have := Hb.out; omega) ((H1.out.below Hb7.out).move (fun _ _ => rfl) Hb7.out.size) (by have := Hb.out; omega)
    rw [Hf.out.1, Hf.out.2, allM_length, Hb.out.2.2.2.2.2.2.1] at this
    refine this.mono fun e w' hx => ?_
    obtain ⟨A6, c6, h1, h2, _, h3⟩ := hx.rm
    rw [pick_length, Hb.out.2.2.2.2.2.2.1] at h1
    exact ⟨A6, c6, h1, h2, h3⟩
  have HR2 : Hid (∀ W, Below w7.heap.size w7 W → Calls Try.prog 48 #[.slice Aa (k + 2) ca, .slice A2 ml c2] W fun e w' => ∃ A6 c6, e = .returned (.tuple #[.slice A6 ml c6, .int .i64 0]) ∧ RM w' w'.heap.size A6 (pick (allM k) m) ∧ Below W.heap.size W w') := fun W hW => by
    have hw := Hb7.out.trans (hW.mono Hb7.out.size)
    have := rows_any Aa ca (allM k) A2 c2 m W ((Hra.out.below hW).wide hW.size) (by rw [allM_length]; have := Hb.out; omega) (fun t l ht => by rw [allM_row k t l ht]; have := Hb.out; omega) ((H2.out.below hw).move (fun _ _ => rfl) hw.size) (by have := Hb.out; omega)
    rw [Hm.out.1, Hm.out.2, allM_length, ← Hb.out.2.2.2.2.2.2.2.1] at this
    refine this.mono fun e w' hx => ?_
    obtain ⟨A6, c6, h1, h2, _, h3⟩ := hx.rm
    rw [pick_length, ← Hb.out.2.2.2.2.2.2.2.1] at h1
    exact ⟨A6, c6, h1, h2, h3⟩
  have HI : Hid (∀ (A6 : Option Addr) (c6 : Nat) W, RM W W.heap.size A6 (pick (allM k) f) → Calls Try.prog 49 #[.slice A6 k c6] W fun e w' => ∃ A7 c7, e = .returned (.tuple #[.slice A7 k c7, .int .i64 0]) ∧ RM w' w'.heap.size A7 V2 ∧ Below W.heap.size W w') := fun A6 c6 W hr => by
    have := inverse_any A6 c6 _ W hr (by rw [pick_length]; have := Hb.out; omega) (fun t l ht => by rw [pick_dim Hff.out.1 t l ht]; have := Hb.out; omega)
    rw [Hi.out.1, Hi.out.2, pick_length, Hb.out.2.2.2.2.2.2.1] at this
    refine this.mono fun e w' hx => ?_
    obtain ⟨A7, c7, h1, h2, _, h3⟩ := hx.rm
    rw [HdV.out.1] at h1
    exact ⟨A7, c7, h1, h2, h3⟩
  have HT : Hid (∀ (A6 : Option Addr) (c6 : Nat) (A7 : Option Addr) (c7 : Nat) W, RM W W.heap.size A6 (pick (allM k) m) → RM W W.heap.size A7 V2 → Calls Try.prog 50 #[.slice A6 ml c6, .slice A7 k c7] W fun e w' => ∃ A8 c8, e = .returned (.tuple #[.slice A8 ml c8, .int .i64 0]) ∧ RM w' w'.heap.size A8 (wayM k m V2) ∧ Below W.heap.size W w') := fun A6 c6 A7 c7 W hr hr2 => by
    have := times_any A6 c6 _ A7 c7 V2 W hr (by rw [pick_length]; have := Hb.out; omega) (fun t l ht => by rw [pick_dim Hmm.out t l ht]; have := Hb.out; omega) hr2 (by rw [HdV.out.1]; have := Hb.out; omega) (fun t l ht => by rw [HdV.out.2 t l ht]; have := Hb.out; omega)
    rw [Ht.out.1, Ht.out.2, pick_length, HdV.out.1, ← Hb.out.2.2.2.2.2.2.2.1] at this
    refine this.mono fun e w' hx => ?_
    obtain ⟨A8, c8, h1, h2, _, h3⟩ := hx.rm
    rw [show (wayM k m V2).length = ml by unfold wayM; rw [timesM_length, pick_length, Hb.out.2.2.2.2.2.2.2.1]] at h1
    exact ⟨A8, c8, h1, h2, h3⟩
  have HMu : Hid (∀ (A : Option Addr) (n c : Nat) (w : World), Calls Try.prog 25 #[.slice A n c, .int .i64 0] w fun e w' => e = .returned (.slice A n c) ∧ w = w') := mustM_ok
  clear hS5 hS6 Hu5 Hu6 Hc6
  go_wp2_with fail
  refine HR1.out.mono ?_
  rintro e w8 ⟨A8, c8, rfl, r8, b8⟩
  have H8 : Hid (RM w8 w8.heap.size A8 (pick (allM k) f) ∧ Below w7.heap.size w7 w8) := ⟨r8, b8⟩
  clear r8 b8 HR1
  go_wp2_with (go_at_call 25; refine (HMu.out _ _ _ _).mono ?_; rintro e w9 ⟨rfl, rfl⟩)
  refine (HI.out A8 c8 w8 H8.out.1).mono ?_
  rintro e w9 ⟨A9, c9, rfl, r9, b9⟩
  have H9 : Hid (RM w9 w9.heap.size A9 V2 ∧ Below w7.heap.size w7 w9) := ⟨r9, H8.out.2.trans (b9.mono H8.out.2.size)⟩
  clear r9 b9 HI H8
  go_wp2_with (go_at_call 25; refine (HMu.out _ _ _ _).mono ?_; rintro e w9 ⟨rfl, rfl⟩)
  refine (HR2.out w9 H9.out.2).mono ?_
  rintro e w10 ⟨A10, c10, rfl, r10, b10⟩
  have H10 : Hid (RM w10 w10.heap.size A10 (pick (allM k) m) ∧ RM w10 w10.heap.size A9 V2 ∧ Below w7.heap.size w7 w10) := ⟨r10, (H9.out.1.below b10).wide b10.size, H9.out.2.trans (b10.mono H9.out.2.size)⟩
  clear r10 b10 HR2 H9
  go_wp2_with (go_at_call 25; refine (HMu.out _ _ _ _).mono ?_; rintro e w9 ⟨rfl, rfl⟩)
  refine (HT.out A10 c10 A9 c9 w10 H10.out.1 H10.out.2.1).mono ?_
  rintro e w11 ⟨A11, c11, rfl, r11, b11⟩
  have H11 : Hid (RM w11 w11.heap.size A11 (wayM k m V2) ∧ Below w.heap.size w w11) := ⟨r11, Hb7.out.trans ((H10.out.2.2.trans (b11.mono H10.out.2.2.size)).mono Hb7.out.size)⟩
  have hc11 := Hcs.out w11 H11.out.2
  obtain ⟨cs, Hcsn, hmk⟩ := make_lists k (by have := Hb.out; omega)
  have Hst : Hid (SrcAt w w11 w11.heap.size b o f 0 (w11.alloc (.cells cs 41))) := by
    refine ⟨?_, (Below.refl _ _).alloc (Nat.le_refl _) _⟩
    have := Cells.new w11 cs 41
    rw [Hcsn.out] at this ⊢
    rw [Hb.out.2.2.2.2.2.2.1]
    simpa using this
  clear r11 b11 HT H10 hc hS7 Hb5 Hb6 Hb7 Hra Hcs Hcsn
  go_wp2_with (go_at_call 25; refine (HMu.out _ _ _ _).mono ?_; rintro e w9 ⟨rfl, rfl⟩)
  obtain ⟨g, hg⟩ : ∃ g, g = w11.heap.size := ⟨_, rfl⟩
  have HG := Lib.hid hg
  rw [← hg] at Hst ⊢
  clear hg hc11 hmk
  go_loopw [13, 14, 63] (fun _ _ iv wr => ∃ i : Nat, iv = .int .i64 (i : Int) ∧ i ≤ k ∧ Hid (SrcAt w w11 g b o f i wr)) (fun _ _ iv _ => k - (intOf iv).toNat)
  case atStart => exact ⟨0, rfl, Nat.zero_le _, Hst.out⟩
  case round =>
    obtain ⟨i, rfl, hi, hrel⟩ := hrel
    by_cases hlt : i < k
    · have hlt' : (i : Int) < (k : Int) := by omega
      obtain ⟨x, hx⟩ : ∃ x, f[i]? = some x := ⟨_, List.getElem?_eq_getElem (by have := Hb.out; omega)⟩
      have hxb := Hff.out.1 x (List.mem_of_getElem? hx)
      obtain ⟨xn, rfl⟩ : ∃ xn : Nat, x = (xn : Int) := ⟨x.toNat, by omega⟩
      obtain ⟨y, hy⟩ : ∃ y, S[xn]? = some y := ⟨_, List.getElem?_eq_getElem (by have := Hb.out; omega)⟩
      obtain ⟨A', c', hcell, _, _⟩ := HS.out.row hy
      have hbw : b < w.heap.size := World.block_lt_of_cell? _ _ hcell
      have hw2 : Below w.heap.size w wr := H11.out.2.trans (hrel.out.bel.mono H11.out.2.size)
      obtain ⟨b1, o1, rfl, hb1⟩ := H1.out.flat (by have := Hb.out; omega)
      have k1 : wr.cell? ⟨b1, o1 + i, none⟩ = some (.int .i64 (xn : Int)) := by
        obtain ⟨ad, e, _, hcx⟩ := H1.out i _ hx
        cases e
        rw [add_flat] at hcx
        exact (hw2.cell (p := ⟨b1, o1 + i, none⟩) hb1).trans hcx
      have k2 : wr.cell? ⟨b, o + xn, none⟩ = some (.slice A' y.length c') := (hw2.cell (p := ⟨b, o + xn, none⟩) hbw).trans hcell
      obtain ⟨k3, k4, k5⟩ := hrel.out.step (by rw [HG.out]; exact Nat.le_refl _) hx (u := .slice A' y.length c') (by rw [Int.toNat_natCast]; exact hcell)
      have Hn := Lib.hid k5
      have hxn : (xn : Int) < (N : Int) := by have := Hb.out; omega
      generalize y.length = yl at *
      clear hx hxb hy hcell hbw hw2 hb1 k5 hrel hlt
      go_wp2_with fail
      go_roundw
      case rel => exact ⟨i + 1, by go_num, by omega, Hn.out⟩
      case measure => simp [intOf]; omega
    · obtain rfl : i = k := by omega
      have hbe := hrel.out.bel
      have hsrc : RM wr wr.heap.size (some ⟨g, 0, none⟩) (pick S f) := (show SrcAt w w11 g b o f f.length wr by rw [Hb.out.2.2.2.2.2.2.1]; exact hrel.out).done H11.out.2 HS.out (fun x hx => by have := Hff.out.1 x hx; have := Hb.out; omega)
      have hwl : (wayM i m V2).length = ml := by unfold wayM; rw [timesM_length, pick_length, Hb.out.2.2.2.2.2.2.2.1]
      have HF := times_any' A11 c11 (wayM i m V2) (some ⟨g, 0, none⟩) i i n (pick S f) wr ((H11.out.1.below hbe).wide hbe.size) hsrc (by have := Hb.out; omega) (by have := Hb.out; omega) (by rw [pick_length, Hb.out.2.2.2.2.2.2.1]) (by have := Hb.out; omega) (by have := Hb.out; omega)
        (fun t l ht => by unfold wayM at ht; rw [timesM_row ht]; exact HdV.out.2 0 _ (head_get (by rw [HdV.out.1]; have := Hb.out; omega)))
        (fun t l ht => by
          unfold pick at ht
          rw [List.getElem?_map] at ht
          obtain ⟨x, hx, rfl⟩ := Option.map_eq_some_iff.1 ht
          exact Hff.out.2 x (List.mem_of_getElem? hx)) (by have := Hb.out; omega) (by have := Hb.out; omega)
      rw [hwl] at HF
      have HF2 : Hid (Calls Try.prog 24 #[.slice A11 ml c11, .slice (some ⟨g, 0, none⟩) i i] wr fun e w' => e = .returned (.slice (some ⟨wr.heap.size, 0, none⟩) ml ml) ∧ MatO w' wr.heap.size w'.heap.size (.slice (some ⟨wr.heap.size, 0, none⟩) ml ml) (linM (wayM i m V2) (pick S f) n) ∧ Below wr.heap.size wr w') := HF
      have Hw2 : Hid (Below w.heap.size w wr ∧ (linM (wayM i m V2) (pick S f) n).length = ml) := ⟨H11.out.2.trans (hbe.mono H11.out.2.size), by rw [linM_length, hwl]⟩
      clear hlt hbe hsrc hwl HF hrel
      go_wp2_with fail
      refine HF2.out.mono ?_
      rintro e w12 ⟨rfl, m12, b12⟩
      have Hd : Hid (MatO w12 w.heap.size w12.heap.size (.slice (some ⟨wr.heap.size, 0, none⟩) ml ml) (linM (wayM i m V2) (pick S f) n) ∧ Below w.heap.size w w12) := ⟨m12.wide Hw2.out.1.size (Nat.le_refl _), Hw2.out.1.trans (b12.mono Hw2.out.1.size)⟩
      clear m12 b12 HF2
      go_wp2_with fail
      go_ret
      rw [Hr.out]
      exact ⟨some ⟨wr.heap.size, 0, none⟩, ml, by rw [Hw2.out.2]; rfl, by rw [Hw2.out.2]; exact Hd.out.1, Hd.out.2⟩
end Go.Proofs.Ytonihcgjepfpkaa

/-
  A header whose rows are laid one by one, each the call's own or nil.
-/
namespace Go.Proofs.Ytonihcgjepfpkaa
open Go.RowKit

set_option maxRecDepth 20000
structure AllAt (w : World) (g N : Nat) (vs : List Value) (M : Mtx) (wr : World) : Prop where
  head : Cells wr g 41 vs
  len : vs.length = N
  mlen : M.length = N
  rows : ∀ (i : Nat) (v : Value) (l : List UInt8), vs[i]? = some v → M[i]? = some l → Own wr w.heap.size v l
  apart : ∀ (i j : Nat) (vi vj : Value) (x : Nat), i ≠ j → vs[i]? = some vi → vs[j]? = some vj → vi.ownBlock = some x → vj.ownBlock ≠ some x
  other : ∀ (i : Nat) (v : Value), vs[i]? = some v → v.ownBlock ≠ some g
  high : w.heap.size ≤ g
  bel : Below w.heap.size w wr
theorem AllAt.start (w w0 : World) (N : Nat) (h : Below w.heap.size w w0) {cs : Array Value} (hc : cs = (List.replicate N (.slice none 0 0)).toArray) :
    AllAt w w0.heap.size N (List.replicate N (.slice none 0 0)) (List.replicate N []) (w0.alloc (.cells cs 41)) := by
  have hr : ∀ (i : Nat) (v : Value), (List.replicate N (Value.slice none 0 0))[i]? = some v → v = .slice none 0 0 := fun i v hv => by
    rw [List.getElem?_replicate] at hv
    split at hv
    · exact (Option.some.inj hv).symm
    · cases hv
  refine ⟨?_, by simp, by simp, fun i v l hv hl => ?_, fun i j vi vj x _ hi _ hx => ?_, fun i v hv => ?_, h.size, h.alloc h.size _⟩
  · have := Cells.new w0 cs 41
    rw [hc] at this ⊢
    exact this
  · rw [hr i v hv]
    have : l = [] := by
      rw [List.getElem?_replicate] at hl
      split at hl
      · exact (Option.some.inj hl).symm
      · cases hl
    rw [this]
    exact Own.nil _ _
  · rw [hr i vi hi] at hx; cases hx
  · rw [hr i v hv]; intro e; cases e
/-- somebody else's step -/
theorem AllAt.below {w wr w1 : World} {g N : Nat} {vs : List Value} {M : Mtx} (h : AllAt w g N vs M wr) (hb : Below wr.heap.size wr w1) : AllAt w g N vs M w1 :=
  ⟨h.head.move (hb.block g h.head.lt), h.len, h.mlen, fun i v l hv hl => (h.rows i v l hv hl).below hb, h.apart, h.other, h.high, h.bel.trans (hb.mono h.bel.size)⟩
theorem AllAt.drewN {w wr : World} {g N : Nat} {vs : List Value} {M : Mtx} (h : AllAt w g N vs M wr) (q : Nat) : AllAt w g N vs M (wr.drewN q) := ⟨h.head, h.len, h.mlen, h.rows, h.apart, h.other, h.high, drewN_below h.bel q⟩
/-- one row is laid -/
theorem AllAt.put {w wr : World} {g N i : Nat} {vs : List Value} {M : Mtx} {v : Value} {l : List UInt8} (h : AllAt w g N vs M wr) (hi : i < N) (ho : Own wr w.heap.size v l)
    (hg : v.ownBlock ≠ some g) (ha : ∀ (j : Nat) (u : Value) (x : Nat), vs[j]? = some u → u.ownBlock = some x → v.ownBlock ≠ some x) :
    (∃ u, wr.cell? ⟨g, i, none⟩ = some u) ∧ wr.frozen? ⟨g, i, none⟩ = false ∧ AllAt w g N (vs.set i v) (M.set i l) (wr.setCell ⟨g, i, none⟩ v) := by
  have far : ∀ b, b ≠ g → (wr.setCell ⟨g, i, none⟩ v).heap[b]? = wr.heap[b]? := fun b hb => Below.heap_setCell _ _ _ _ hb
  have hil : i < vs.length := by rw [h.len]; exact hi
  refine ⟨⟨_, h.head.cell (List.getElem?_eq_getElem hil)⟩, h.head.frozen i, h.head.set i v, by rw [List.length_set]; exact h.len, by rw [List.length_set]; exact h.mlen, fun j u x hu hx => ?_, fun j j' u u' x hjj hu hu' hxu hxu' => ?_, fun j u hu => ?_, h.high, h.bel.setCell (p := ⟨g, i, none⟩) h.high _⟩
  · by_cases e : j = i
    · subst e
      rw [List.getElem?_set_self hil] at hu
      rw [List.getElem?_set_self (by rw [h.mlen]; exact hi)] at hx
      cases hu
      cases hx
      exact ho.move fun b hb => far b fun e => hg (by rw [← e]; exact hb)
    · rw [List.getElem?_set_ne (fun e' => e e'.symm)] at hu hx
      exact (h.rows j u x hu hx).move fun b hb => far b fun e => h.other j u hu (by rw [← e]; exact hb)
  · by_cases e : j = i
    · subst e
      rw [List.getElem?_set_self hil] at hu
      rw [List.getElem?_set_ne hjj] at hu'
      cases hu
      exact ha j' u' x hu' hxu' hxu
    · rw [List.getElem?_set_ne (fun e' => e e'.symm)] at hu
      by_cases e2 : j' = i
      · subst e2
        rw [List.getElem?_set_self hil] at hu'
        cases hu'
        exact ha j u x hu hxu hxu'
      · rw [List.getElem?_set_ne (fun e' => e2 e'.symm)] at hu'
        exact h.apart j j' u u' x hjj hu hu' hxu hxu'
  · by_cases e : j = i
    · subst e
      rw [List.getElem?_set_self hil] at hu
      cases hu
      exact hg
    · rw [List.getElem?_set_ne (fun e' => e e'.symm)] at hu
      exact h.other j u hu
/-- it reads as M -/
theorem AllAt.rm {w wr : World} {g N : Nat} {vs : List Value} {M : Mtx} (h : AllAt w g N vs M wr) : RM wr wr.heap.size (some ⟨g, 0, none⟩) M := fun i l hl => by
  obtain ⟨v, hv⟩ : ∃ v, vs[i]? = some v := ⟨_, List.getElem?_eq_getElem (by rw [h.len, ← h.mlen]; exact (List.getElem?_eq_some_iff.1 hl).1)⟩
  obtain ⟨A', c', rfl, h1, h2, _⟩ := (h.rows i v l hv hl).rb
  exact ⟨g, 0, A', c', rfl, h.head.lt, by rw [Nat.zero_add]; exact h.head.cell hv, h2, h1⟩
theorem AllAt.done {w wr : World} {g N : Nat} {vs : List Value} {M : Mtx} (h : AllAt w g N vs M wr) (hN : N ≤ 4096) (hM : ∀ (i : Nat) (l : List UInt8), M[i]? = some l → 0 < l.length) : MatO wr w.heap.size wr.heap.size (.slice (some ⟨g, 0, none⟩) N N) M := by
  refine ⟨vs, ?_, fun x hx => by cases hx; exact h.head.lt, by rw [h.len, h.mlen], fun i v l hv hl => ⟨hM i l hl, h.rows i v l hv hl, fun x hx => ((h.rows i v l hv hl).lt x hx).2⟩, h.apart⟩
  have := OwnV.mk (base := w.heap.size) (e := 41) (xs := vs) (cap := N) h.high h.head (by rw [h.len]; exact Nat.le_refl _) (by simp only [maxLen]; omega) h.len (List.take_of_length_le (by rw [h.len]; exact Nat.le_refl _))
  rw [h.len] at this
  exact this
/-- a clone's block is unlike a header's -/
theorem own_ne {w : World} {lo g : Nat} {v : Value} {l : List UInt8} {cs : List Value} (h : Own w lo v l) (hc : Cells w g 41 cs) : v.ownBlock ≠ some g := by
  intro e
  rcases h.toV.form with ⟨hv, _⟩ | ⟨g', cap, cur, hv, _, hc', _⟩
  · rw [hv] at e; cases e
  · rw [hv] at e
    cases e
    exact absurd (hc.type hc').1 (by decide)
/-- those of the first i numbers -/
def someK (S : Mtx) (t : List Int) (i : Nat) : Mtx := (List.range S.length).map fun (j : Nat) => if (j : Int) ∈ t.take i then S.getD j [] else []
theorem someK_length (S : Mtx) (t : List Int) (i : Nat) : (someK S t i).length = S.length := by simp [someK]
theorem someK_zero (S : Mtx) (t : List Int) : someK S t 0 = List.replicate S.length [] := by
  unfold someK
  apply List.ext_getElem?
  intro j
  rw [List.getElem?_map, List.getElem?_replicate]
  by_cases h : j < S.length
  · rw [List.getElem?_range h, if_pos h]; simp
  · rw [List.getElem?_eq_none (by simp; omega), if_neg h]; rfl
theorem someK_step {S : Mtx} {t : List Int} {i n : Nat} {l : List UInt8} (ht : t[i]? = some (n : Int)) (hl : S[n]? = some l) : (someK S t i).set n l = someK S t (i + 1) := by
  have hn := (List.getElem?_eq_some_iff.1 hl).1
  have hi := (List.getElem?_eq_some_iff.1 ht).1
  have e := (List.getElem?_eq_some_iff.1 ht).2
  apply List.ext_getElem?
  intro j
  rw [List.getElem?_set]
  unfold someK
  by_cases hj : j < S.length
  · rw [List.getElem?_map, List.getElem?_map, List.getElem?_range hj, List.take_succ_eq_append_getElem hi, e]
    by_cases hnj : n = j
    · subst hnj
      rw [if_pos rfl, if_pos (by simpa using hn)]
      simp [hl]
    · rw [if_neg hnj]
      simp only [Option.map_some, List.mem_append, List.mem_singleton]
      congr 1
      have : ¬ ((j : Int) = (n : Int)) := by omega
      simp only [this, or_false]
  · rw [List.getElem?_eq_none (by simp; omega), List.getElem?_eq_none (by simp; omega)]
    split
    · rw [if_neg (by simp; omega)]
    · rfl
/-- the numbers of those that are there -/
theorem mem_there {S : Mtx} {x : Int} : ∀ i, x ∈ thereK S i ↔ ∃ n : Nat, x = (n : Int) ∧ n < i ∧ (S.getD n []).length ≠ 0
  | 0 => ⟨(by intro h; cases h), (by rintro ⟨n, _, h, _⟩; omega)⟩
  | i + 1 => by
    have ih := mem_there (S := S) (x := x) i
    unfold thereK
    by_cases h0 : (S.getD i []).length = 0
    · rw [if_pos h0, ih]
      constructor
      · rintro ⟨n, h1, h2, h3⟩; exact ⟨n, h1, by omega, h3⟩
      · rintro ⟨n, h1, h2, h3⟩
        by_cases e : n = i
        · subst e; exact absurd h0 h3
        · exact ⟨n, h1, by omega, h3⟩
    · rw [if_neg h0, List.mem_append, List.mem_singleton, ih]
      constructor
      · rintro (⟨n, h1, h2, h3⟩ | rfl)
        · exact ⟨n, h1, by omega, h3⟩
        · exact ⟨i, rfl, by omega, h0⟩
      · rintro ⟨n, h1, h2, h3⟩
        by_cases e : n = i
        · subst e; exact .inr h1
        · exact .inl ⟨n, h1, by omega, h3⟩
theorem mem_miss {S : Mtx} {x : Int} : ∀ i, x ∈ missK S i ↔ ∃ n : Nat, x = (n : Int) ∧ n < i ∧ (S.getD n []).length = 0
  | 0 => ⟨(by intro h; cases h), (by rintro ⟨n, _, h, _⟩; omega)⟩
  | i + 1 => by
    have ih := mem_miss (S := S) (x := x) i
    unfold missK
    by_cases h0 : (S.getD i []).length = 0
    · rw [if_pos h0, List.mem_append, List.mem_singleton, ih]
      constructor
      · rintro (⟨n, h1, h2, h3⟩ | rfl)
        · exact ⟨n, h1, by omega, h3⟩
        · exact ⟨i, rfl, by omega, h0⟩
      · rintro ⟨n, h1, h2, h3⟩
        by_cases e : n = i
        · subst e; exact .inr h1
        · exact .inl ⟨n, h1, by omega, h3⟩
    · rw [if_neg h0, ih]
      constructor
      · rintro ⟨n, h1, h2, h3⟩; exact ⟨n, h1, by omega, h3⟩
      · rintro ⟨n, h1, h2, h3⟩
        by_cases e : n = i
        · subst e; exact absurd h3 h0
        · exact ⟨n, h1, by omega, h3⟩
theorem someK_done (S : Mtx) : someK S (thereL S) (thereL S).length = S := by
  apply List.ext_getElem?
  intro j
  unfold someK
  by_cases hj : j < S.length
  · rw [List.getElem?_map, List.getElem?_range hj, List.take_length, List.getElem?_eq_getElem hj]
    have hg := getD_of (List.getElem?_eq_getElem hj)
    show some (if (j : Int) ∈ thereL S then S.getD j [] else []) = _
    congr 1
    by_cases h : (j : Int) ∈ thereL S
    · rw [if_pos h, hg]
    · rw [if_neg h]
      by_cases h0 : (S.getD j []).length = 0
      · rw [hg] at h0
        exact (List.eq_nil_of_length_eq_zero h0).symm
      · exact absurd ((mem_there S.length).2 ⟨j, rfl, hj, h0⟩) h
  · rw [List.getElem?_eq_none (by simp; omega), List.getElem?_eq_none (by omega)]
end Go.Proofs.Ytonihcgjepfpkaa

/-
  The first k that are there: their rows have an inverse.
-/
namespace Go.Proofs.Ytonihcgjepfpkaa
open Go.RowKit

set_option maxRecDepth 20000
theorem thereK_succ (S : Mtx) (i : Nat) : thereK S (i + 1) = if (S.getD i []).length = 0 then thereK S i else thereK S i ++ [(i : Int)] := rfl
theorem there_prefix (S : Mtx) (p : Nat) : ∀ i, p ≤ i → (thereK S i).take (thereK S p).length = thereK S p := fun i hi => by
  obtain ⟨d, rfl⟩ : ∃ d, i = p + d := ⟨i - p, by omega⟩
  clear hi
  induction d with
  | zero => exact List.take_length
  | succ d ih =>
    have hle : (thereK S p).length ≤ (thereK S (p + d)).length := by
      have := congrArg List.length ih
      rw [List.length_take] at this
      omega
    show (if (S.getD (p + d) []).length = 0 then thereK S (p + d) else thereK S (p + d) ++ [((p + d : Nat) : Int)]).take _ = _
    split
    · exact ih
    · rw [List.take_append_of_le_length hle]; exact ih
theorem there_reach (S : Mtx) (k : Nat) : ∀ i, k ≤ (thereK S i).length → ∃ p, p ≤ i ∧ (thereK S p).length = k
  | 0, h => ⟨0, Nat.le_refl _, by have : (thereK S 0).length = 0 := rfl; omega⟩
  | i + 1, h => by
    by_cases hk : k ≤ (thereK S i).length
    · obtain ⟨p, h1, h2⟩ := there_reach S k i hk
      exact ⟨p, by omega, h2⟩
    · refine ⟨i + 1, Nat.le_refl _, ?_⟩
      have : (thereK S (i + 1)).length ≤ (thereK S i).length + 1 := by
        rw [thereK_succ]
        split
        · omega
        · rw [List.length_append, List.length_singleton]; exact Nat.le_refl _
      omega
/-- the same, all from p on struck -/
def struck (S : Mtx) (p N : Nat) : Mtx := (List.range N).map fun (j : Nat) => if j < p then S.getD j [] else []
theorem struck_get (S : Mtx) (p N j : Nat) (h : j < N) : (struck S p N).getD j [] = if j < p then S.getD j [] else [] := by
  unfold struck
  rw [List.getD_eq_getElem?_getD, List.getElem?_map, List.getElem?_range h]; rfl
theorem struck_there (S : Mtx) (p N : Nat) : ∀ i, i ≤ N → thereK (struck S p N) i = thereK S (min i p)
  | 0, _ => by rw [Nat.zero_min]; rfl
  | i + 1, h => by
    have ih := struck_there S p N i (by omega)
    rw [thereK_succ, struck_get S p N i (by omega)]
    by_cases hp : i < p
    · rw [if_pos hp, show min (i + 1) p = i + 1 by omega, ih, show min i p = i by omega, thereK_succ]
    · rw [if_neg hp, if_pos List.length_nil, ih, show min i p = p by omega, show min (i + 1) p = p by omega]
theorem miss_lt {S : Mtx} {i : Nat} {x : Int} (h : x ∈ missK S i) : x < (i : Int) := by
  obtain ⟨n, rfl, h1, _⟩ := (mem_miss i).1 h
  omega
theorem miss_nodup (S : Mtx) : ∀ i, (missK S i).Nodup
  | 0 => List.nodup_nil
  | i + 1 => by
    unfold missK
    split
    · rw [List.nodup_append]
      refine ⟨miss_nodup S i, by simp, fun x hx y hy e => ?_⟩
      rw [List.mem_singleton] at hy
      subst hy
      subst e
      have := miss_lt hx
      omega
    · exact miss_nodup S i
theorem there_keep {S : Mtx} {a b N : Nat} (h : ∀ j : Nat, j < N → ((S.getD j []).length = 0 ↔ j = a ∨ j = b)) : ∀ i, i ≤ N → thereK S i = keep a b i
  | 0, _ => rfl
  | i + 1, hi => by
    have ih := there_keep h i (by omega)
    have hj := h i (by omega)
    rw [thereK_succ]
    by_cases e : (S.getD i []).length = 0
    · rw [if_pos e, ih, keep_no (hj.1 e)]
    · rw [if_neg e, ih, keep_yes (fun q => e (hj.2 (.inl q))) (fun q => e (hj.2 (.inr q)))]
/-- the first k of those that are there are all but two -/
theorem first_keep {S : Mtx} {k : Nat} (hS : S.length = k + 2) (hm : (missL S).length ≤ 2) : ∃ a b, a ≠ b ∧ a < k + 2 ∧ b < k + 2 ∧ (thereL S).take k = keep a b (k + 2) := by
  have hp := part_length S S.length
  have hk : k ≤ (thereK S (k + 2)).length := by
    unfold missL at hm
    rw [hS] at hp hm
    omega
  obtain ⟨p, hpl, hpk⟩ := there_reach S k (k + 2) hk
  have e1 : (thereL S).take k = thereK S p := by
    unfold thereL
    rw [hS]
    have := there_prefix S p (k + 2) hpl
    rw [hpk] at this
    exact this
  have e2 : thereK (struck S p (k + 2)) (k + 2) = thereK S p := by
    rw [struck_there S p (k + 2) (k + 2) (Nat.le_refl _), show min (k + 2) p = p by omega]
  have hq := part_length (struck S p (k + 2)) (k + 2)
  rw [e2, hpk] at hq
  have hnd := miss_nodup (struck S p (k + 2)) (k + 2)
  rcases hl : missK (struck S p (k + 2)) (k + 2) with _ | ⟨x, _ | ⟨y, _ | ⟨z, t⟩⟩⟩
  · rw [hl] at hq; simp at hq
  · rw [hl] at hq; simp at hq
  · obtain ⟨a, ha, ha1, _⟩ := (mem_miss (S := struck S p (k + 2)) (x := x) (k + 2)).1 (by rw [hl]; simp)
    obtain ⟨b, hb, hb1, _⟩ := (mem_miss (S := struck S p (k + 2)) (x := y) (k + 2)).1 (by rw [hl]; simp)
    rw [hl] at hnd
    have hne : x ≠ y := by simpa using hnd
    refine ⟨a, b, fun e => hne (by rw [ha, hb, e]), ha1, hb1, ?_⟩
    rw [e1, ← e2]
    refine there_keep (N := k + 2) (fun j hj => ?_) (k + 2) (Nat.le_refl _)
    have := mem_miss (S := struck S p (k + 2)) (x := (j : Int)) (k + 2)
    rw [hl] at this
    simp only [List.mem_cons, List.not_mem_nil, or_false] at this
    constructor
    · intro h0
      rcases this.2 ⟨j, rfl, hj, h0⟩ with h | h
      · exact .inl (by omega)
      · exact .inr (by omega)
    · rintro (rfl | rfl)
      · obtain ⟨n, h1, _, h3⟩ := this.1 (.inl ha.symm)
        rw [show n = j by omega] at h3
        exact h3
      · obtain ⟨n, h1, _, h3⟩ := this.1 (.inr hb.symm)
        rw [show n = j by omega] at h3
        exact h3
  · rw [hl] at hq
    simp only [List.length_cons] at hq
    omega
theorem first_inv {S : Mtx} {k : Nat} (hk : k ≤ 253) (hS : S.length = k + 2) (hm : (missL S).length ≤ 2) : ∃ V, invK k (pick (allM k) ((thereL S).take k)) k = some V := by
  obtain ⟨a, b, h1, h2, h3, e⟩ := first_keep hS hm
  rw [e]
  exact kept_inv hk h1 h2 h3
end Go.Proofs.Ytonihcgjepfpkaa
