/-
  The rig while it is made: both systems, and the caller's two lists of drives.
-/
import Derived.Test.YtdnlikhfemhmeaaPlay8
import Derived.Test.YtdnlikhfemhmeaaZKnown2
namespace Go.Proofs.Ytdnlikhfemhmeaa
open Go.RowKit

theorem info_ptr1 : (Try.prog.info? 36).map (fun i => (i.zero, i.size, i.bytes)) = some (some (.pointer none), 1, 8) := by kernel_rfl
theorem info_ptr2 : (Try.prog.info? 40).map (fun i => (i.zero, i.size, i.bytes)) = some (some (.pointer none), 1, 8) := by kernel_rfl
theorem own_ne {w : World} {base g : Nat} {e t : TypeId} {v : Value} {xs cs : List Value} (h : OwnV w base e v xs) (hc : Cells w g t cs) (ht : e ≠ t) : v.ownBlock ≠ some g := by
  intro hg
  rcases h.form with ⟨rfl, _⟩ | ⟨g', cap, cur, rfl, _, hc', _⟩
  · cases hg
  · cases hg
    exact ht (hc'.type hc).1
def Mine (w0 : World) (g : Nat) (dv ev : Value) (b : Nat) : Prop := b < w0.heap.size ∨ b = g ∨ dv.ownBlock = some b ∨ ev.ownBlock = some b
def Bld (w0 : World) (g pw qw : Nat) (ds es : List (Nat × Drv)) (dl el : List Nat) (dv ev : Value) (w : World) : Prop :=
  ∃ O Q, SysAt w O pw Pow.new ds ∧ RSysAt w Q qw Pow.new es ∧ Apart O Q ∧ (∀ b, Mine w0 g dv ev b → O b = none ∧ Q b = none) ∧ Below w0.heap.size w0 w ∧ w0.heap.size ≤ g ∧
    Cells w g 35 [.pointer (some ⟨pw, 0, none⟩), .pointer (some ⟨qw, 0, none⟩), dv, ev] ∧ OwnV w w0.heap.size 36 dv (dl.map refV) ∧ OwnV w w0.heap.size 40 ev (el.map refV)
section
variable {w0 w w' : World} {g pw qw : Nat} {ds es : List (Nat × Drv)} {dl el : List Nat} {dv ev : Value}
theorem Bld.mine_lt (h : Bld w0 g pw qw ds es dl el dv ev w) : ∀ b, Mine w0 g dv ev b → b < w.heap.size := by
  obtain ⟨O, Q, _, _, _, _, h5, h6, h7, h8, h9⟩ := h
  rintro b (hb | rfl | hb | hb)
  · exact Nat.lt_of_lt_of_le hb h5.size
  · exact h7.lt
  · exact (h8.ge b hb).2
  · exact (h9.ge b hb).2
theorem Bld.with (h : Bld w0 g pw qw ds es dl el dv ev w) {O' Q' : Nat → Option Tag} {ds' es' : List (Nat × Drv)} (h1 : SysAt w' O' pw Pow.new ds') (h2 : RSysAt w' Q' qw Pow.new es') (h3 : Apart O' Q') (h4 : ∀ b, Mine w0 g dv ev b → O' b = none ∧ Q' b = none)
    (hk : Kept (Mine w0 g dv ev) w w') : Bld w0 g pw qw ds' es' dl el dv ev w' := by
  have hlt := h.mine_lt
  obtain ⟨O, Q, _, _, _, _, h5, h6, h7, h8, h9⟩ := h
  refine ⟨O', Q', h1, h2, h3, h4, h5.trans (hk.to_below (fun b hb => .inl hb) h5.size), h6, h7.move (hk.block g h7.lt (.inr (.inl rfl))), h8.move fun b hb => hk.block b (hlt b (.inr (.inr (.inl hb)))) (.inr (.inr (.inl hb))), h9.move fun b hb => hk.block b (hlt b (.inr (.inr (.inr hb)))) (.inr (.inr (.inr hb)))⟩
theorem Bld.ext1 (h : Bld w0 g pw qw ds es dl el dv ev w) : ∃ O, SysAt w O pw Pow.new ds ∧ ∀ w' O' ds', SysAt w' O' pw Pow.new ds' → Ext w O w' O' → Bld w0 g pw qw ds' es dl el dv ev w' := by
  have hlt := h.mine_lt
  have hh := h
  obtain ⟨O, Q, h1, h2, h3, h4, _⟩ := h
  refine ⟨O, h1, fun w' O' ds' s1 s2 => ?_⟩
  obtain ⟨q1, q2⟩ := s2.other h3 h2.fresh
  exact hh.with s1 (h2.kept q1) q2 (fun b hb => ⟨(s2.2 b (hlt b hb)).trans (h4 b hb).1, (h4 b hb).2⟩) (s2.1.mono fun b _ hb => (h4 b hb).1)
theorem Bld.ext2 (h : Bld w0 g pw qw ds es dl el dv ev w) : ∃ Q, RSysAt w Q qw Pow.new es ∧ ∀ w' Q' es', RSysAt w' Q' qw Pow.new es' → Ext w Q w' Q' → Bld w0 g pw qw ds es' dl el dv ev w' := by
  have hlt := h.mine_lt
  have hh := h
  obtain ⟨O, Q, h1, h2, h3, h4, _⟩ := h
  refine ⟨Q, h2, fun w' Q' es' s1 s2 => ?_⟩
  obtain ⟨q1, q2⟩ := s2.other h3.symm h1.fresh
  exact hh.with (h1.kept q1) s1 q2.symm (fun b hb => ⟨(h4 b hb).1, (s2.2 b (hlt b hb)).trans (h4 b hb).2⟩) (s2.1.mono fun b _ hb => (h4 b hb).2)
theorem Bld.other (h : Bld w0 g pw qw ds es dl el dv ev w) (hk : Kept (fun b => b < w.heap.size) w w') : Bld w0 g pw qw ds es dl el dv ev w' := by
  have hlt := h.mine_lt
  have hh := h
  obtain ⟨O, Q, h1, h2, h3, h4, _⟩ := h
  exact hh.with (h1.kept (hk.mono fun b hb _ => hb)) (h2.kept (hk.mono fun b hb _ => hb)) h3 h4 (hk.mono fun b hb _ => hb)
theorem Bld.drewN (h : Bld w0 g pw qw ds es dl el dv ev w) (q : Nat) : Bld w0 g pw qw ds es dl el dv ev (w.drewN q) := h.other ((Kept.refl _ w).drewN q)
theorem Bld.alloc (h : Bld w0 g pw qw ds es dl el dv ev w) (o : Obj) : Bld w0 g pw qw ds es dl el dv ev (w.alloc o) := h.other ((Kept.refl _ w).alloc o)
theorem Bld.below (h : Bld w0 g pw qw ds es dl el dv ev w) : Below w0.heap.size w0 w := by obtain ⟨O, Q, _, _, _, _, h5, _⟩ := h; exact h5
theorem Bld.cells (h : Bld w0 g pw qw ds es dl el dv ev w) : w.cell? ⟨g, 0, none⟩ = some (.pointer (some ⟨pw, 0, none⟩)) ∧ w.cell? ⟨g, 1, none⟩ = some (.pointer (some ⟨qw, 0, none⟩)) ∧ w.cell? ⟨g, 2, none⟩ = some dv ∧ w.cell? ⟨g, 3, none⟩ = some ev := by
  obtain ⟨O, Q, _, _, _, _, _, _, h7, _⟩ := h
  exact ⟨h7.cell rfl, h7.cell rfl, h7.cell rfl, h7.cell rfl⟩
theorem Bld.new (h : Bld w0 g pw qw ds es dl el dv ev w) (zones cap size : Nat) (hn : ds.length ≤ 4) (z1 : 1 ≤ zones) (z2 : zones ≤ 4096) (p1 : 1 ≤ cap) (p2 : cap ≤ 4096) (s1 : 32 ≤ size) (s2 : size ≤ 65536) :
    Calls Try.prog 9 #[.pointer (some ⟨pw, 0, none⟩), .int .i64 (zones : Int), .int .i64 (cap : Int), .int .i64 (size : Int)] w fun e w' => ∃ d, e = .returned (.tuple #[.pointer (some ⟨d, 0, none⟩), .int .i64 0]) ∧ Bld w0 g pw qw (ds ++ [(d, Drv.new zones cap size)]) es dl el dv ev w' := by
  obtain ⟨O, h1, k⟩ := h.ext1
  exact (new_ok pw Pow.new ds O zones cap size w h1 (by omega) z1 z2 p1 p2 s1 s2).mono fun e w' ⟨O', d, he, hs, hx⟩ => ⟨d, he, k _ _ _ hs hx⟩
theorem Bld.rnew (h : Bld w0 g pw qw ds es dl el dv ev w) (zones cap size : Nat) (hn : es.length ≤ 4) (z1 : 1 ≤ zones) (z2 : zones ≤ 4096) (p1 : 1 ≤ cap) (p2 : cap ≤ 4096) (s1 : 32 ≤ size) (s2 : size ≤ 65536) :
    Calls Try.prog 10 #[.pointer (some ⟨qw, 0, none⟩), .int .i64 (zones : Int), .int .i64 (cap : Int), .int .i64 (size : Int)] w fun e w' => ∃ d, e = .returned (.tuple #[.pointer (some ⟨d, 0, none⟩), .int .i64 0]) ∧ Bld w0 g pw qw ds (es ++ [(d, Drv.new zones cap size)]) dl el dv ev w' := by
  obtain ⟨O, h1, k⟩ := h.ext2
  exact (rnew_ok qw Pow.new es O zones cap size w h1 (by omega) z1 z2 p1 p2 s1 s2).mono fun e w' ⟨O', d, he, hs, hx⟩ => ⟨d, he, k _ _ _ hs hx⟩
theorem Bld.shape (h : Bld w0 g pw qw ds es dl el dv ev w) {i d zones cap size : Nat} (hi : ds[i]? = some (d, Drv.new zones cap size)) :
    Calls Try.prog 11 #[.pointer (some ⟨d, 0, none⟩)] w fun e w' => e = .returned (.tuple #[.int .i64 (zones : Int), .int .i64 (cap : Int), .int .i64 (size : Int)]) ∧ Bld w0 g pw qw ds es dl el dv ev w' := by
  obtain ⟨O, h1, k⟩ := h.ext1
  refine (shape_any pw i d Pow.new ds _ O w h1 hi).mono fun e w' ⟨he, q, hq⟩ => ⟨?_, by rw [hq]; exact h.drewN q⟩
  rw [he]
  simp [Drv.new]

theorem Bld.put1 (h : Bld w0 g pw qw ds es dl el dv ev w) {d : Nat} {o : Obj} {w2 : World} {v' : Value} (hown : OwnV w2 w0.heap.size 36 v' (dl.map refV ++ [refV d])) (hg : (w.alloc o).grownBy w2 dv.ownBlock) (hb : v'.ownBlock = dv.ownBlock ∨ v'.ownBlock = some (w.alloc o).heap.size) :
    w2.cell? ⟨g, 2, none⟩ = some dv ∧ w2.frozen? ⟨g, 2, none⟩ = false ∧ Bld w0 g pw qw ds es (dl ++ [d]) el v' ev (w2.setCell ⟨g, 2, none⟩ v') := by
  have hlt := h.mine_lt
  obtain ⟨O, Q, h1, h2, h3, h4, h5, h6, h7, h8, h9⟩ := h
  have n1 := own_ne h8 h7 (by decide)
  have c2 : Cells w2 g 35 [.pointer (some ⟨pw, 0, none⟩), .pointer (some ⟨qw, 0, none⟩), dv, ev] := (h7.alloc o).move (hg.block g (h7.alloc o).lt (fun e => n1 e.symm))
  have hv' : ∀ b, v'.ownBlock = some b → b ≠ g ∧ O b = none ∧ Q b = none := by
    intro b hb'
    rcases hb with e | e
    · rw [e] at hb'
      exact ⟨fun e2 => n1 (by rw [hb', e2]), h4 b (.inr (.inr (.inl hb')))⟩
    · rw [e] at hb'
      cases hb'
      have := h7.lt
      exact ⟨by simp; omega, sys_free h1.fresh (by simp), sys_free h2.fresh (by simp)⟩
  have hk : Kept (fun b => ∀ x, dv.ownBlock = some x → x ≠ b) w w2 := ((Kept.refl _ w).alloc o).grown hg (fun x e hx => hx x e rfl)
  have hk2 : Kept (fun b => b ≠ g ∧ ∀ x, dv.ownBlock = some x → x ≠ b) w (w2.setCell ⟨g, 2, none⟩ v') := (hk.mono fun b _ hb => hb.2).setCell (fun e => e.1 rfl) v'
  refine ⟨c2.cell rfl, c2.frozen _, O, Q, h1.kept (hk2.mono fun b _ hO => ⟨fun e => hO (by rw [e]; exact (h4 g (.inr (.inl rfl))).1), fun x hx e => hO (by rw [← e]; exact (h4 x (.inr (.inr (.inl hx)))).1)⟩), h2.kept (hk2.mono fun b _ hO => ⟨fun e => hO (by rw [e]; exact (h4 g (.inr (.inl rfl))).2), fun x hx e => hO (by rw [← e]; exact (h4 x (.inr (.inr (.inl hx)))).2)⟩), h3, ?_, ?_, h6, c2.set 2 v', ?_, ?_⟩
  · rintro b (hb' | rfl | hb' | hb')
    · exact h4 b (.inl hb')
    · exact h4 b (.inr (.inl rfl))
    · exact (hv' b hb').2
    · exact h4 b (.inr (.inr (.inr hb')))
  · exact h5.trans (hk2.to_below (fun b hb' => ⟨by omega, fun x hx e => by have := (h8.ge x hx).1; omega⟩) h5.size)
  · rw [List.map_append]
    exact hown.move fun x hx => Below.heap_setCell _ _ _ _ (fun e => (hv' x hx).1 e)
  · refine h9.move fun x hx => hk2.block x (h9.ge x hx).2 ⟨fun e => own_ne h9 h7 (by decide) (by rw [hx, e]), fun y hy e => ?_⟩
    rcases h8.form with ⟨rfl, _⟩ | ⟨g', cap, cur, rfl, _, hc', _⟩
    · cases hy
    · cases hy
      exact own_ne h9 hc' (by decide) (hx.trans (congrArg some e.symm))

theorem Bld.put2 (h : Bld w0 g pw qw ds es dl el dv ev w) {d : Nat} {o : Obj} {w2 : World} {v' : Value} (hown : OwnV w2 w0.heap.size 40 v' (el.map refV ++ [refV d])) (hg : (w.alloc o).grownBy w2 ev.ownBlock) (hb : v'.ownBlock = ev.ownBlock ∨ v'.ownBlock = some (w.alloc o).heap.size) :
    w2.cell? ⟨g, 3, none⟩ = some ev ∧ w2.frozen? ⟨g, 3, none⟩ = false ∧ Bld w0 g pw qw ds es dl (el ++ [d]) dv v' (w2.setCell ⟨g, 3, none⟩ v') := by
  have hlt := h.mine_lt
  obtain ⟨O, Q, h1, h2, h3, h4, h5, h6, h7, h8, h9⟩ := h
  have n1 := own_ne h9 h7 (by decide)
  have c2 : Cells w2 g 35 [.pointer (some ⟨pw, 0, none⟩), .pointer (some ⟨qw, 0, none⟩), dv, ev] := (h7.alloc o).move (hg.block g (h7.alloc o).lt (fun e => n1 e.symm))
  have hv' : ∀ b, v'.ownBlock = some b → b ≠ g ∧ O b = none ∧ Q b = none := by
    intro b hb'
    rcases hb with e | e
    · rw [e] at hb'
      exact ⟨fun e2 => n1 (by rw [hb', e2]), h4 b (.inr (.inr (.inr hb')))⟩
    · rw [e] at hb'
      cases hb'
      have := h7.lt
      exact ⟨by simp; omega, sys_free h1.fresh (by simp), sys_free h2.fresh (by simp)⟩
  have hk : Kept (fun b => ∀ x, ev.ownBlock = some x → x ≠ b) w w2 := ((Kept.refl _ w).alloc o).grown hg (fun x e hx => hx x e rfl)
  have hk2 : Kept (fun b => b ≠ g ∧ ∀ x, ev.ownBlock = some x → x ≠ b) w (w2.setCell ⟨g, 3, none⟩ v') := (hk.mono fun b _ hb => hb.2).setCell (fun e => e.1 rfl) v'
  refine ⟨c2.cell rfl, c2.frozen _, O, Q, h1.kept (hk2.mono fun b _ hO => ⟨fun e => hO (by rw [e]; exact (h4 g (.inr (.inl rfl))).1), fun x hx e => hO (by rw [← e]; exact (h4 x (.inr (.inr (.inr hx)))).1)⟩), h2.kept (hk2.mono fun b _ hO => ⟨fun e => hO (by rw [e]; exact (h4 g (.inr (.inl rfl))).2), fun x hx e => hO (by rw [← e]; exact (h4 x (.inr (.inr (.inr hx)))).2)⟩), h3, ?_, ?_, h6, c2.set 3 v', ?_, ?_⟩
  · rintro b (hb' | rfl | hb' | hb')
    · exact h4 b (.inl hb')
    · exact h4 b (.inr (.inl rfl))
    · exact h4 b (.inr (.inr (.inl hb')))
    · exact (hv' b hb').2
  · exact h5.trans (hk2.to_below (fun b hb' => ⟨by omega, fun x hx e => by have := (h9.ge x hx).1; omega⟩) h5.size)
  · refine h8.move fun x hx => hk2.block x (h8.ge x hx).2 ⟨fun e => own_ne h8 h7 (by decide) (by rw [hx, e]), fun y hy e => ?_⟩
    rcases h9.form with ⟨rfl, _⟩ | ⟨g', cap, cur, rfl, _, hc', _⟩
    · cases hy
    · cases hy
      exact own_ne h8 hc' (by decide) (hx.trans (congrArg some e.symm))
  · rw [List.map_append]
    exact hown.move fun x hx => Below.heap_setCell _ _ _ _ (fun e => (hv' x hx).1 e)

/-- the rig made: nothing hangs on either power yet -/
theorem Bld.first {w0 w1 : World} (hs : SysAt w1 (fun b => if b = w.heap.size then some .pw else none) w.heap.size Pow.new []) (hb0 : Below w0.heap.size w0 w) (hb : Below w.heap.size w w1) :
    Bld w0 (w1.heap.size + 1) w.heap.size w1.heap.size [] [] [] [] (.slice none 0 0) (.slice none 0 0)
      ((w1.alloc (.cells #[.bool false, .int .i64 0, .slice none 0 0, .int .i64 0, .slice none 0 0] 32)).alloc (.cells #[.pointer (some ⟨w.heap.size, 0, none⟩), .pointer (some ⟨w1.heap.size, 0, none⟩), .slice none 0 0, .slice none 0 0] 35)) := by
  have hlt : w.heap.size < w1.heap.size := hs.fresh w.heap.size (by simp)
  have h0 := hb0.size
  have hr := rpower_new w1
  refine ⟨_, _, (hs.kept ((Kept.refl _ w1).alloc _)).kept ((Kept.refl _ _).alloc _), hr.kept ((Kept.refl _ _).alloc _), fun b hb => ?_, fun b hb => ?_, ((hb0.trans (hb.mono h0)).alloc (by omega) _).alloc (by simp; omega) _, by omega, ?_, OwnV.nil _ _ _, OwnV.nil _ _ _⟩
  · by_cases e : b = w.heap.size
    · subst e
      exact if_neg (by omega)
    · exact absurd (if_neg e) hb
  · rcases hb with hb | rfl | hb | hb
    · exact ⟨if_neg (by omega), if_neg (by omega)⟩
    · exact ⟨if_neg (by omega), if_neg (by omega)⟩
    · cases hb
    · cases hb
  · have := Cells.new (w1.alloc (.cells #[.bool false, .int .i64 0, .slice none 0 0, .int .i64 0, .slice none 0 0] 32)) #[.pointer (some ⟨w.heap.size, 0, none⟩), .pointer (some ⟨w1.heap.size, 0, none⟩), .slice none 0 0, .slice none 0 0] 35
    simpa using this
/-- the rig is whole: it serves the play -/
theorem Bld.done (h : Bld w0 g pw qw ds es dl el dv ev w) (hd : fsts ds = dl) (he : fsts es = el) (hdat : dat ds = dat es) (h1 : 1 ≤ ds.length) (h4 : ds.length ≤ 4) :
    ∃ bd be cd ce, RigAt (Mine w0 g dv ev) w g pw qw bd be cd ce dl el ∧ Play (Mine w0 g dv ev) w pw qw dl el 0 w := by
  have hlt := h.mine_lt
  have hc := h.cells
  have hl : es.length = ds.length := by have := congrArg List.length hdat; simpa [dat] using this.symm
  have hdl : dl.length = ds.length := by rw [← hd]; simp
  have hel : el.length = ds.length := by rw [← he, ← hl]; simp
  obtain ⟨O, Q, g1, g2, g3, g4, g5, g6, g7, g8, g9⟩ := h
  obtain ⟨A1, c1, rfl, _, _, r1⟩ := g8.rd
  obtain ⟨A2, c2, rfl, _, _, r2⟩ := g9.rd
  obtain ⟨bd, e1, _, _⟩ := r1 0 (refV (dl[0]'(by omega))) (by rw [List.getElem?_map, List.getElem?_eq_getElem (by omega)]; rfl)
  obtain ⟨be, e2, _, _⟩ := r2 0 (refV (el[0]'(by omega))) (by rw [List.getElem?_map, List.getElem?_eq_getElem (by omega)]; rfl)
  subst e1 e2
  simp only [List.length_map] at hc
  refine ⟨bd, be, c1, c2, ⟨hc.1, hc.2.1, hc.2.2.1, ?_, .inr (.inl rfl), .inr (.inr (.inl rfl)), .inr (.inr (.inr rfl)), fun i d hi => ?_, fun i d hi => ?_, by omega, by omega, by omega⟩, ⟨Pow.new, ds, es, ⟨⟨O, Q, g1, g2, g3, g4⟩, hlt, Kept.refl _ _⟩, hdat, hd, he, Nat.zero_le _, Nat.zero_le _⟩⟩
  · rw [hc.2.2.2, hel, hdl]
  · obtain ⟨b, e, _, hcell⟩ := r1 i (refV d) (by simp [hi])
    cases e
    exact hcell
  · obtain ⟨b, e, _, hcell⟩ := r2 i (refV d) (by simp [hi])
    cases e
    exact hcell
end
end Go.Proofs.Ytdnlikhfemhmeaa
