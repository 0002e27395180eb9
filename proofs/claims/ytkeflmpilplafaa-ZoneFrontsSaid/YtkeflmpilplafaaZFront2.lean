/-
  Fronts of zones: what the law's caller holds.
-/
import Derived.Test.YtkeflmpilplafaaZFront1
namespace Go.Proofs.Ytkeflmpilplafaa
open Go.RowKit

theorem u8_type {w : World} {B b : Nat} {v : Value} {l : List UInt8} {t : TypeId} {cs : List Value} (h : Own w B v l) (hc : Cells w b t cs) (ht : t ≠ 5) : v.ownBlock ≠ some b := by
  intro e
  rcases h.2 with ⟨q, _⟩ | ⟨g, cap, cur, q, _, hg, _⟩
  · rw [q] at e; cases e
  · rw [q] at e
    cases e
    unfold Cells at hc
    rw [hg] at hc
    simp at hc
    exact ht hc.2.symm

/-- the caller's hold: one drive, its own rows of bytes rl in block ga, its own numbers sg in block gs -/
def FrG (w0 : World) (pw d ga gs : Nat) (P : Pow) (D : Drv) (rl : List (List UInt8)) (sg : List Nat) (w : World) (O : Nat → Option Tag) (G : Nat → Option Nat) (vs : List Value) : Prop :=
  Cl w0 w O pw P [(d, D)] ∧ vs.length = rl.length ∧ Cells w ga 55 vs ∧ O ga = none ∧ w0.heap.size ≤ ga ∧ Cells w gs 56 (sg.map fun s : Nat => Value.int .i64 (s : Int)) ∧ O gs = none ∧ w0.heap.size ≤ gs ∧
    ∀ (z : Nat) l v, rl[z]? = some l → vs[z]? = some v → Own w w0.heap.size v l ∧ ∀ g, v.ownBlock = some g → O g = none ∧ G g = some z
def Fr (w0 : World) (pw d ga gs : Nat) (P : Pow) (D : Drv) (rl : List (List UInt8)) (sg : List Nat) (w : World) : Prop := ∃ O G vs, FrG w0 pw d ga gs P D rl sg w O G vs

section
variable {w0 w w' : World} {pw d ga gs : Nat} {P P' : Pow} {D D' : Drv} {rl : List (List UInt8)} {sg : List Nat} {O O' : Nat → Option Tag} {G : Nat → Option Nat} {vs : List Value}
theorem FrG.step (h : FrG w0 pw d ga gs P D rl sg w O G vs) (hs : SysAt w' O' pw P' [(d, D')]) (hx : Ext w O w' O') : FrG w0 pw d ga gs P' D' rl sg w' O' G vs := by
  obtain ⟨h1, h2, h3, h4, h5, h6, h7, h8, h9⟩ := h
  refine ⟨h1.step hs hx, h2, h3.move (hx.1.block ga h3.lt h4), (hx.2 ga h3.lt).trans h4, h5, h6.move (hx.1.block gs h6.lt h7), (hx.2 gs h6.lt).trans h7, h8, fun z l v hz hv => ?_⟩
  obtain ⟨q1, q2⟩ := h9 z l v hz hv
  exact ⟨q1.move fun g hg => hx.1.block g (q1.lt g hg).2 (q2 g hg).1, fun g hg => ⟨(hx.2 g (q1.lt g hg).2).trans (q2 g hg).1, (q2 g hg).2⟩⟩
theorem FrG.below (h : FrG w0 pw d ga gs P D rl sg w O G vs) (hb : Below w.heap.size w w') : FrG w0 pw d ga gs P D rl sg w' O G vs := by
  obtain ⟨h1, h2, h3, h4, h5, h6, h7, h8, h9⟩ := h
  refine ⟨h1.below hb, h2, h3.move (hb.block ga h3.lt), h4, h5, h6.move (hb.block gs h6.lt), h7, h8, fun z l v hz hv => ?_⟩
  obtain ⟨q1, q2⟩ := h9 z l v hz hv
  exact ⟨q1.move fun g hg => hb.block g (q1.lt g hg).2, q2⟩
theorem Fr.below (h : Fr w0 pw d ga gs P D rl sg w) (hb : Below w.heap.size w w') : Fr w0 pw d ga gs P D rl sg w' := by
  obtain ⟨O, G, vs, h⟩ := h
  exact ⟨O, G, vs, h.below hb⟩
theorem Fr.fin (h : Fr w0 pw d ga gs P D rl sg w) : Below w0.heap.size w0 w := by
  obtain ⟨O, G, vs, h⟩ := h
  exact h.1.2.2
/-- Append of a page of the caller's own -/
theorem Fr.append (h : Fr w0 pw d ga gs P D rl sg w) {b : Nat} {l : List UInt8} (hb : Below w.heap.size w w') (hbw : w.heap.size ≤ b) (hl : l.length = 32) (hr : RB w' w'.heap.size (some ⟨b, 0, none⟩) l) (z : Int) (hw : P.writes ≤ 1099511627776) (hlf : P.left ≤ 9223372036854775807)
    {P2 : Pow} {D2 : Drv} {c : Nat} (e1 : appCode P D z l = c) (e2 : appP P D z l = P2) (e3 : ∀ d, appD P [(d, D)] 0 d D z l = [(d, D2)]) :
    Calls Try.prog 16 #[.pointer (some ⟨d, 0, none⟩), .int .i64 z, .slice (some ⟨b, 0, none⟩) 32 32] w' fun e w2 => e = .returned (.int .i64 (c : Int)) ∧ Fr w0 pw d ga gs P2 D2 rl sg w2 := by
  obtain ⟨O, G, vs, h⟩ := h
  have h' := h.below hb
  have hO : O b = none := sys_fresh' h.1.1 hbw
  have hc := append_any pw 0 d P [(d, D)] D O z (some ⟨b, 0, none⟩) 32 l w' h'.1.1 rfl (by simp) hw hlf hr (fun ad e => by cases e; exact hO)
  rw [hl] at hc
  refine hc.mono fun e w2 ⟨O', he, hs, hx⟩ => ?_
  rw [e1] at he
  rw [e2, e3] at hs
  exact ⟨he, O', G, vs, h'.step hs hx⟩
theorem Fr.flush (h : Fr w0 pw d ga gs P D rl sg w) (hw : P.writes ≤ 1099511627776) (hlf : P.left ≤ 9223372036854775807)
    {P2 : Pow} {D2 : Drv} {c : Nat} (e1 : flCode P D = c) (e2 : flP P D = P2) (e3 : ∀ d, flD P [(d, D)] 0 d D = [(d, D2)]) :
    Calls Try.prog 17 #[.pointer (some ⟨d, 0, none⟩)] w fun e w2 => e = .returned (.int .i64 (c : Int)) ∧ Fr w0 pw d ga gs P2 D2 rl sg w2 := by
  obtain ⟨O, G, vs, h⟩ := h
  refine (driveFlush_any pw 0 d P [(d, D)] D O w h.1.1 rfl (by simp) hw hlf).mono fun e w2 ⟨O', he, hs, hx⟩ => ?_
  rw [e1] at he
  rw [e2, e3] at hs
  exact ⟨he, O', G, vs, h.step hs hx⟩
theorem Fr.cut (h : Fr w0 pw d ga gs P D rl sg w) {A : Option Addr} {c : Nat} {picks : List Int} (hr : RI w0 w0.heap.size A picks) (hc : picks.length ≤ c) (hcm : c ≤ 9223372036854775807) :
    Calls Try.prog 18 #[.pointer (some ⟨d, 0, none⟩), .slice A picks.length c] w fun e w2 => e = .returned (.tuple #[]) ∧ Fr w0 pw d ga gs P (D.cut picks) rl sg w2 := by
  obtain ⟨O, G, vs, h⟩ := h
  obtain ⟨hd, hok⟩ := h.1.1.drv 0 d D rfl
  have hri : RI w w.heap.size A picks := (hr.below h.1.2.2).wide h.1.2.2.size
  have hfr : picks ≠ [] → ∀ ad, A = some ad → CutK O 0 ad.block := by
    intro hne ad hA
    obtain ⟨x, r, rfl⟩ : ∃ x r, picks = x :: r := by
      rcases picks with _ | ⟨x, r⟩
      · exact absurd rfl hne
      · exact ⟨x, r, rfl⟩
    obtain ⟨ad2, e2, hlt, _⟩ := hr 0 x rfl
    rw [hA] at e2
    cases e2
    have := h.1.2.1 ad.block hlt
    exact ⟨(by rw [this]; intro e; cases e), (fun z => by rw [this]; intro e; cases e)⟩
  refine (driveCut_any 0 pw d A c picks D O w hok hd hri hfr hc hcm).mono fun e w2 ⟨he, hD, hk⟩ => ⟨he, O, G, vs, ?_⟩
  obtain ⟨s1, s2⟩ := h.1.1.change (O' := O) (i := 0) rfl hk (fun b t hb ht => ⟨(fun e => by rw [hb] at e; cases e; exact ht rfl), (fun z e => by rw [hb] at e; cases e; exact ht rfl)⟩) (fun b hb => ⟨(fun e => by rw [hb] at e; cases e), (fun z e => by rw [hb] at e; cases e)⟩) (fun _ _ => rfl) (fun b hb => Nat.lt_of_lt_of_le (h.1.1.fresh b hb) hk.size) hD (hok.cut _)
  exact h.step s1 s2
theorem Fr.pointer (h : Fr w0 pw d ga gs P D rl sg w) (z : Int) :
    Calls Try.prog 19 #[.pointer (some ⟨d, 0, none⟩), .int .i64 z] w fun e w' => e = .returned (.tuple #[.int .i64 (ptrNum P D z : Nat), .int .i64 (ptrCode P D z : Nat)]) ∧ w = w' := by
  obtain ⟨O, G, vs, h⟩ := h
  exact pointer_any pw 0 d P _ D O z w h.1.1 rfl
theorem Fr.read (h : Fr w0 pw d ga gs P D rl sg w) (z k : Int) :
    Calls Try.prog 14 #[.pointer (some ⟨d, 0, none⟩), .int .i64 z, .int .i64 k] w (ReadPost w (readBytes P D z k) (readCode P D z k)) := by
  obtain ⟨O, G, vs, h⟩ := h
  exact read_any pw 0 d P _ D O z k w h.1.1 rfl
theorem Own.toV {B : Nat} {v : Value} {l : List UInt8} (h : Own w B v l) : OwnV w B 5 v (bvs l) := by
  unfold OwnV
  rw [bvs_length]
  exact h
theorem Own.ofV {B : Nat} {v : Value} {l : List UInt8} (h : OwnV w B 5 v (bvs l)) : Own w B v l := by
  unfold OwnV at h
  rw [bvs_length] at h
  exact h
theorem Fr.row (h : Fr w0 pw d ga gs P D rl sg w) {z : Nat} {l : List UInt8} (hz : rl[z]? = some l) : ∃ A c, w.cell? ⟨ga, z, none⟩ = some (.slice A l.length c) ∧ Own w w0.heap.size (.slice A l.length c) l ∧ w.frozen? ⟨ga, z, none⟩ = false := by
  obtain ⟨O, G, vs, h1, h2, h3, h4, h5, h6, h7, h8, h9⟩ := h
  have hlt := (List.getElem?_eq_some_iff.1 hz).1
  have hv : vs[z]? = some vs[z] := List.getElem?_eq_getElem (by omega)
  obtain ⟨q1, _⟩ := h9 z l _ hz hv
  obtain ⟨A, c, e, _⟩ := q1.rb
  rw [e] at q1 hv
  exact ⟨A, c, h3.cell hv, q1, h3.frozen z⟩
theorem Fr.num (h : Fr w0 pw d ga gs P D rl sg w) {z : Nat} {s : Nat} (hz : sg[z]? = some s) : w.cell? ⟨gs, z, none⟩ = some (.int .i64 (s : Int)) ∧ w.frozen? ⟨gs, z, none⟩ = false := by
  obtain ⟨O, G, vs, h1, h2, h3, h4, h5, h6, h7, h8, h9⟩ := h
  exact ⟨h6.cell (by rw [List.getElem?_map, hz]; rfl), h6.frozen z⟩
/-- a byte more in a row of the caller's -/
theorem Fr.rowPut (h : Fr w0 pw d ga gs P D rl sg w) {z : Nat} {l : List UInt8} {x : UInt8} {v v9 : Value} {W9 : World} {ob : Obj} (hz : rl[z]? = some l) (hv : w.cell? ⟨ga, z, none⟩ = some v)
    (hown9 : OwnV W9 w0.heap.size 5 v9 (bvs l ++ [.int .u8 (x.toNat : Int)])) (hg9 : (w.alloc ob).grownBy W9 v.ownBlock) (hb9 : v9.ownBlock = v.ownBlock ∨ v9.ownBlock = some (w.alloc ob).heap.size) :
    (∃ g9 cap9, v9 = .slice (some ⟨g9, 0, none⟩) (l.length + 1) cap9) ∧ W9.cell? ⟨ga, z, none⟩ = some v ∧ W9.frozen? ⟨ga, z, none⟩ = false ∧ Fr w0 pw d ga gs P D (rl.set z (l ++ [x])) sg (W9.setCell ⟨ga, z, none⟩ v9) := by
  obtain ⟨O, G, vs, h1, h2, h3, h4, h5, h6, h7, h8, h9⟩ := h
  have hlt := (List.getElem?_eq_some_iff.1 hz).1
  have hvs : vs[z]? = some v := by
    have q : vs[z]? = some vs[z] := List.getElem?_eq_getElem (by omega)
    have := h3.cell q
    rw [hv] at this
    cases this
    exact q
  obtain ⟨q1, q2⟩ := h9 z l v hz hvs
  have hga : v.ownBlock ≠ some ga := u8_type q1 h3 (by decide)
  have hgs : v.ownBlock ≠ some gs := u8_type q1 h6 (by decide)
  have hown : Own W9 w0.heap.size v9 (l ++ [x]) := Own.ofV (by rw [bvs_append]; exact hown9)
  have hk : Kept (fun b => v.ownBlock ≠ some b) w W9 := ((Kept.refl _ w).alloc ob).grown hg9 (fun g e hh => hh e)
  have hc9 : Cells W9 ga 55 vs := h3.move (hk.block ga h3.lt hga)
  have hgasz := h3.lt
  have hv9ga : v9.ownBlock ≠ some ga := u8_type hown hc9 (by decide)
  have hv9b : ∀ g, v9.ownBlock = some g → v.ownBlock = some g ∨ w.heap.size ≤ g := by
    intro g hg
    rcases hb9 with e | e
    · exact .inl (e ▸ hg)
    · rw [e] at hg; cases hg; exact .inr (by simp)
  have hO9 : ∀ g, v9.ownBlock = some g → O g = none := by
    intro g hg
    rcases hv9b g hg with e | e
    · exact (q2 g e).1
    · exact sys_fresh' h1.1 e
  have hks : Kept (fun b => v.ownBlock ≠ some b ∧ b ≠ ga) w (W9.setCell ⟨ga, z, none⟩ v9) := (hk.mono fun b _ hb => hb.1).setCell (fun hh => hh.2 rfl) _
  refine ⟨?_, hc9.cell hvs, hc9.frozen z, O, fun b => if v9.ownBlock = some b then some z else G b, vs.set z v9, ?_, by simp [h2], hc9.set z v9, h4, h5, ?_, h7, h8, ?_⟩
  · rcases hown9.form with ⟨_, hh⟩ | ⟨g9, cap9, cur9, hh, _⟩
    · simp at hh
    · exact ⟨g9, cap9, by rw [hh]; simp [bvs]⟩
  · refine ⟨h1.1.kept (hks.mono fun b _ hb => ⟨fun e => hb (q2 b e).1, fun e => hb (by rw [e]; exact h4)⟩), h1.2.1, h1.2.2.trans ?_⟩
    exact hks.to_below (fun b hb => ⟨fun e => by have := (q1.lt b e).1; omega, by omega⟩) h1.2.2.size
  · have e1 : gs ≠ ga := by
      intro e
      subst e
      have := (h3.type h6).1
      exact absurd this (by decide)
    exact h6.move (hks.block gs h6.lt ⟨hgs, e1⟩)
  · intro z' l' v' hz' hv'
    by_cases e : z' = z
    · subst e
      rw [List.getElem?_set_self hlt] at hz'
      rw [List.getElem?_set_self (by omega)] at hv'
      cases hz'
      cases hv'
      exact ⟨hown.move fun g hg => Below.heap_setCell _ _ _ _ (fun e => hv9ga ((show g = ga from e) ▸ hg)), fun g hg => ⟨hO9 g hg, if_pos hg⟩⟩
    · rw [List.getElem?_set_ne (fun h => e h.symm)] at hz' hv'
      obtain ⟨r1, r2⟩ := h9 z' l' v' hz' hv'
      have hne : ∀ g, v'.ownBlock = some g → v.ownBlock ≠ some g := by
        intro g hg hg2
        have a := (r2 g hg).2
        rw [(q2 g hg2).2] at a
        cases a
        exact e rfl
      have hga' : v'.ownBlock ≠ some ga := u8_type r1 h3 (by decide)
      refine ⟨r1.move fun g hg => hks.block g (r1.lt g hg).2 ⟨hne g hg, fun e => hga' (e ▸ hg)⟩, fun g hg => ⟨(r2 g hg).1, ?_⟩⟩
      have hn9 : v9.ownBlock ≠ some g := by
        intro hg2
        rcases hv9b g hg2 with e2 | e2
        · exact hne g hg e2
        · have := (r1.lt g hg).2; omega
      show (if v9.ownBlock = some g then some z else G g) = some z'
      rw [if_neg hn9]
      exact (r2 g hg).2
/-- a number of the caller's is another one -/
theorem Fr.numPut (h : Fr w0 pw d ga gs P D rl sg w) (z m : Nat) : Fr w0 pw d ga gs P D rl (sg.set z m) (w.setCell ⟨gs, z, none⟩ (.int .i64 (m : Int))) := by
  obtain ⟨O, G, vs, h1, h2, h3, h4, h5, h6, h7, h8, h9⟩ := h
  have hk : Kept (fun b => b ≠ gs) w (w.setCell ⟨gs, z, none⟩ (.int .i64 (m : Int))) := (Kept.refl _ w).setCell (fun hh => hh rfl) _
  have e1 : ga ≠ gs := by
    intro e
    subst e
    have := (h3.type h6).1
    exact absurd this (by decide)
  refine ⟨O, G, vs, ⟨h1.1.kept (hk.mono fun b _ hb e => hb (by rw [e]; exact h7)), h1.2.1, h1.2.2.trans (hk.to_below (fun b hb => by omega) h1.2.2.size)⟩, h2, h3.move (hk.block ga h3.lt e1), h4, h5, ?_, h7, h8, fun z' l v hz hv => ?_⟩
  · have := h6.set z (.int .i64 (m : Int))
    rw [List.map_set]
    exact this
  · obtain ⟨r1, r2⟩ := h9 z' l v hz hv
    exact ⟨r1.move fun g hg => hk.block g (r1.lt g hg).2 (fun e => u8_type r1 h6 (by decide) (e ▸ hg)), r2⟩
end
end Go.Proofs.Ytkeflmpilplafaa
