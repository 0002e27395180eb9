/-
  each: the iterator over a block's facts.
-/
import Derived.Test.YtghcfmkmndldoaaDoorFaR1
import Derived.Test.YtghcfmkmndldoaaDoorKFa9
import Derived.RangeFuncNested
import Derived.RangeFuncBound
import Derived.RangeFuncCalls
import Derived.Shelf.Abstract
import Derived.WalkKit
import Derived.OwnWalkIn
import Derived.TacticsInMore
import Derived.LoopNIn
import Derived.LoopIn
import Derived.Test.YtghcfmkmndldoaaDoorKFa3
import Derived.Test.YtghcfmkmndldoaaDoorKFa41
import Derived.Test.YtghcfmkmndldoaaDoorLow
import Derived.Test.YtghcfmkmndldoaaDoorKRefRn
import Derived.Test.YtghcfmkmndldoaaDoorFa18
namespace Go.Proofs.YtghcfmkmndldoaaDoor
open Go.RowKit Go.Sort Go.Lib Go.Shelf

section
set_option maxRecDepth 100000
set_option maxHeartbeats 8000000
theorem each1_any (n l n₀ Bn : Nat) (A : Option Addr) (c : Nat) (x : List UInt8) (J : List (Fc × Value) → World → Prop) (Jx : World → Prop)
    (hJ : ∀ ps W W', J ps W → Below W.heap.size W W' → J ps W')
    (hY : ∀ ps f V W1, J ps W1 → ps.length < x.length → Own W1 n₀ V f.2.2 → f.2.1 < two64 → YieldAt Fence.wide (n - 1) Tryd.prog l #[fcV f V, .bool true] W1 fun e W' => e = .returned (.bool true) ∧ J (ps ++ [(f, V)]) W' ∧ Below n₀ W1 W')
    (hN : ∀ ps f V W1, J ps W1 → (∃ A c, V = .slice A f.2.2.length c) → YieldAt Fence.wide (n - 1) Tryd.prog l #[fcV f V, .bool false] W1 fun e W' => e = .returned (.bool false) ∧ Jx W')
    (W : World) (hBn : W.cell? ⟨Bn, 0, none⟩ = some (.slice A x.length c)) (hr : RB W n₀ A x) (hn₀ : n₀ ≤ W.heap.size) (hl : x.length ≤ 1099511627776) (hc : x.length ≤ c) (hA : A = none → c = 0) (h0 : J [] W) :
    CallsIn Fence.wide n Tryd.prog 120 #[.func (.yield l) #[] #[], .pointer (some ⟨Bn, 0, none⟩)] W fun e W' => (∃ v, e = .returned v) ∧ ((∃ ps, fcsF x = some (ps.map Prod.fst) ∧ J ps W') ∨ (fcsF x = none ∧ Jx W')) := by
  have H0 : Hid (RB W n₀ A x ∧ x.length ≤ c ∧ (A = none → c = 0) ∧ J [] W ∧ n₀ ≤ W.heap.size) := ⟨hr, hc, hA, h0, hn₀⟩
  have Hl := Lib.hid hl
  have HJ := Lib.hid hJ
  have HY := Lib.hid hY
  have HN := Lib.hid hN
  clear hr hc hA h0 hn₀ hl hJ hY hN
  refine callsIn_of_wp Tryd.func120 rfl trivial ?_ rfl
  simp only [Tryd.ntmps120, List.size_toArray, List.length_cons, List.length_nil, Nat.reduceAdd, Nat.reduceSub, Array.replicate_succ, Array.replicate_zero, List.push_toArray, List.append_toArray, List.nil_append, List.cons_append]
  gi_wp2
  gi_loopw [3] (fun rv wr => ∃ (ps : List (Fc × Value)) (rest : List UInt8) (A' : Option Addr) (c' : Nat), rv = .slice A' rest.length c' ∧ Hid (RB wr n₀ A' rest ∧ rest.length ≤ c' ∧ (A' = none → c' = 0) ∧ J ps wr ∧ n₀ ≤ wr.heap.size ∧ fcsF x = (fcsF rest).map (ps.map Prod.fst ++ ·) ∧ ps.length + rest.length ≤ x.length)) (fun rv _ => lenS rv)
  case atStart =>
    exact ⟨[], x, A, c, rfl, H0.out.1, H0.out.2.1, H0.out.2.2.1, H0.out.2.2.2.1, H0.out.2.2.2.2, by simp, by simp⟩
  case round =>
    obtain ⟨ps, rest, A', c', rfl, hst⟩ := hrel
    rcases hrest : rest with _ | ⟨y, ys⟩
    · have Hend : Hid (fcsF x = some (ps.map Prod.fst) ∧ J ps wr) := ⟨by rw [hst.out.2.2.2.2.2.1, hrest, fcsF_nil]; simp, hst.out.2.2.2.1⟩
      clear hst hrest
      gi_wp2
      go_end0
      exact ⟨⟨_, rfl⟩, .inl ⟨ps, Hend.out.1, Hend.out.2⟩⟩
    · have hne : rest ≠ [] := by rw [hrest]; simp
      obtain ⟨nr, hnr⟩ : ∃ nr, nr = rest.length := ⟨_, rfl⟩
      have hnr0 : (0 : Int) < (nr : Int) := by rw [hnr, hrest]; simp
      rw [← hrest, ← hnr]
      clear hrest
      have HR := Lib.hid (read_any A' c' rest wr (hst.out.1.wide hst.out.2.2.2.2.1) (by have := hst.out.2.2.2.2.2.2; have := Hl.out; omega) hst.out.2.1 hst.out.2.2.1)
      rw [← hnr] at HR
      unfold fcV at HR HY HN
      obtain ⟨b, o, rfl, hb⟩ := hst.out.1.flat (List.length_pos_iff.2 hne)
      have Hnr := Lib.hid hnr
      have Hne := Lib.hid hne
      clear hnr hne
      rcases hp : rdF rest with _ | ⟨⟨f, k⟩⟩
      · have hE : ¬ rdE rest = 0 := fun q => by have := (rdE_iff rest).1 q; rw [hp] at this; cases this
        have hV : rdV rest = ((⟨#[]⟩, 0, []), 0) := by unfold rdV; rw [hp]; rfl
        rw [hV] at HR
        have Hnext : Hid (fcsF x = none) := by show _ = _; rw [hst.out.2.2.2.2.2.1, fcsF_none Hne.out hp]; rfl
        have hE' : ¬ (rdE rest : Int) = 0 := by omega
        have hE2 : ((rdE rest : Int) == 0) = false := by rw [beq_eq_false_iff_ne]; exact hE'
        have hE3 : ((rdE rest : Int) != 0) = true := by rw [bne_iff_ne]; exact hE'
        generalize rdE rest = er at *
        have Hst := hst
        dsimp only at HR
        clear hp hE hV hst
        gi_wp2
        refine ⟨trivial, (fun h => by cases h), (callsIn_wide.2 HR.out).mono ?_⟩
        rintro e w2 ⟨V, rfl, ho, hbl⟩
        obtain ⟨A3, c3, rfl, _⟩ := ho.rb
        obtain ⟨yfn, ytmps, yassign, ybody, hy, hR⟩ := HN.out ps (⟨#[]⟩, 0, []) (.slice A3 0 c3) (w2.alloc (.cells #[.string ⟨#[]⟩, .int .u64 0, .slice A3 0 c3] 40)) (HJ.out _ _ _ (HJ.out _ _ _ Hst.out.2.2.2.1 hbl) ((Below.refl _ _).alloc (Nat.le_refl _) _)) ⟨A3, c3, rfl⟩
        have HRr := Lib.hid hR
        clear hR ho hbl
        have hy2 : (Instr.yield l #[.agg #[.string ⟨#[]⟩, .int .u64 0, .slice A3 0 c3], .bool false]).run Tryd.prog (w2.alloc (.cells #[.string ⟨#[]⟩, .int .u64 0, .slice A3 0 c3] 40)) = .ok (.round l yfn ytmps yassign ybody) (w2.alloc (.cells #[.string ⟨#[]⟩, .int .u64 0, .slice A3 0 c3] 40)) := hy
        clear hy
        gi_wp2
        refine ⟨(fun h => by cases h), HRr.out.mono ?_⟩
        rintro e W3 ⟨rfl, hJx⟩
        have H3 := Lib.hid hJx
        clear hJx HRr hy2
        gi_wp2
        refine bodyPost_ret (results_none rfl _ _ _) rfl ?_
        exact ⟨⟨_, rfl⟩, .inr ⟨Hnext.out, H3.out⟩⟩
      · have hE : rdE rest = 0 := (rdE_iff rest).2 (by rw [hp]; rfl)
        have hV : rdV rest = (f, k) := by unfold rdV; rw [hp]; rfl
        obtain ⟨hk0, hk1, hs64, _⟩ := rdF_ok hp
        rw [hE, hV] at HR
        obtain ⟨A2, hsl, hA2, hne2⟩ := cutB_run b o nr c' k (by rw [Hnr.out]; exact hk1) (by rw [Hnr.out]; exact hst.out.2.1)
        have Hnext : Hid (fcsF x = (fcsF (rest.drop k)).map ((ps ++ [(f, undef)]).map Prod.fst ++ ·)) := by
          show _ = _
          rw [hst.out.2.2.2.2.2.1, fcsF_some Hne.out hp]
          cases fcsF (rest.drop k) <;> simp
        have HK : Hid (0 < k ∧ k ≤ rest.length ∧ f.2.1 < two64) := ⟨hk0, hk1, hs64⟩
        have HA2 := Lib.hid hA2
        have Hst := hst
        obtain ⟨fk, fs, fv⟩ := f
        dsimp only at HR HK
        clear hp hE hV hk0 hk1 hs64 hA2 hst
        gi_wp2
        refine ⟨trivial, (fun h => by cases h), (callsIn_wide.2 HR.out).mono ?_⟩
        rintro e w2 ⟨V, rfl, ho, hbl⟩
        obtain ⟨A3, c3, rfl, _⟩ := ho.rb
        obtain ⟨yfn, ytmps, yassign, ybody, hy, hR⟩ := HY.out ps (fk, fs, fv) (.slice A3 fv.length c3) (w2.alloc (.cells #[.string fk, .int .u64 (fs : Int), .slice A3 fv.length c3] 40)) (HJ.out _ _ _ (HJ.out _ _ _ Hst.out.2.2.2.1 hbl) ((Below.refl _ _).alloc (Nat.le_refl _) _)) (by have := Hst.out.2.2.2.2.2.2; have := HK.out; omega) ((ho.wide Hst.out.2.2.2.2.1).alloc _) HK.out.2.2
        have HRr := Lib.hid hR
        have H2 : Hid (Below wr.heap.size wr w2) := hbl
        clear hR ho hbl
        gi_wp2
        refine ⟨(fun h => by cases h), HRr.out.mono ?_⟩
        rintro e W3 ⟨rfl, hJ3, hb3⟩
        have hbw : Below n₀ wr W3 := ((H2.out.mono Hst.out.2.2.2.2.1).alloc (Nat.le_trans Hst.out.2.2.2.2.1 H2.out.size) _).trans hb3
        have H3 : Hid (J (ps ++ [((fk, fs, fv), .slice A3 fv.length c3)]) W3 ∧ Below n₀ wr W3) := ⟨hJ3, hbw⟩
        clear hJ3 hb3 hbw HRr hy
        gi_wp2
        go_roundw
        case rel =>
          refine ⟨ps ++ [((fk, fs, fv), .slice A3 fv.length c3)], rest.drop k, A2, c' - k, by rw [List.length_drop, ← Hnr.out], ?_⟩
          refine ⟨HA2.out _ _ rest (by rw [Hnr.out]; exact Nat.le_refl _) (Hst.out.1.below H3.out.2), ?_, fun e => absurd e hne2, H3.out.1, ?_, ?_, ?_⟩
          · rw [List.length_drop]; have := Hst.out.2.1; omega
          · exact Nat.le_trans Hst.out.2.2.2.2.1 H3.out.2.size
          · rw [Hnext.out]
            simp
          · rw [List.length_drop, List.length_append]; have := Hst.out.2.2.2.2.2.2; have := HK.out; simp; omega
        case measure =>
          show nr - k < nr
          have := HK.out
          omega
end
end Go.Proofs.YtghcfmkmndldoaaDoor

/-
  facts of a block: the walk.
-/
namespace Go.Proofs.YtghcfmkmndldoaaDoor
open Go.RowKit Go.Sort Go.Lib Go.Shelf

attribute [local go_sem] Oper.semAt_some

theorem Kept.putObj {K : Nat → Prop} {w w' : World} (h : Kept K w w') {l : Nat} (hl : ¬ K l) (o : Obj) : Kept K w (w'.putObj l o) :=
  h.trans ⟨rfl, rfl, rfl, by simp, fun b _ hK => World.putObj_heap_other (fun e => hl (e ▸ hK))⟩
/-- where the loop over a block's facts stands -/
structure FSt (w : World) (n₀ l D g1 g6 : Nat) (k : ByteArray) (B : Value) (rc : Obj) (ps : List (Fc × Value)) (X : World) : Prop where
  rcd : X.heap[l]? = some rc
  dfr : X.heap[D]? = some (.deferred (some []))
  row : ∃ v, Cells X g6 42 [v] ∧ X.ownsRow n₀ 40 3 v ps.length (cellsF ps)
  vs : VS (Own X n₀) ps
  prt : Cells X g1 128 [.string k, B]
  b2 : Cells X (g1 + 1) 42 [.slice none 0 0]
  b3 : Cells X (g1 + 1 + 1) 33 [.int .i64 0]
  bel : Below w.heap.size w X
theorem FSt.kept {w X X' : World} {n₀ l D g1 g6 : Nat} {k : ByteArray} {B : Value} {rc rc' : Obj} {ps : List (Fc × Value)} {K : Nat → Prop} (h : FSt w n₀ l D g1 g6 k B rc ps X) (hk : Kept K X X') (hr : X'.heap[l]? = some rc')
    (hD : K D) (h6 : K g6) (hg1 : K g1) (hg2 : K (g1 + 1)) (hg3 : K (g1 + 1 + 1)) (hK : ∀ b cs t z, X.heap[b]? = some (.cells cs t z) → (t = 40 ∨ t = 5) → K b) (hw : ∀ b, b < w.heap.size → K b) : FSt w n₀ l D g1 g6 k B rc' ps X' := by
  obtain ⟨v, hv1, hv2⟩ := h.row
  have hlt : ∀ {b o}, X.heap[b]? = some o → b < X.heap.size := fun e => (Array.getElem?_eq_some_iff.1 e).1
  refine ⟨hr, (hk.block _ (hlt h.dfr) hD).trans h.dfr, ⟨v, hv1.move (hk.block _ hv1.lt h6), hv2.1, ?_⟩, fun p hp => ⟨(h.vs p hp).1.move (fun g hg => ?_), (h.vs p hp).2⟩, h.prt.move (hk.block _ h.prt.lt hg1), h.b2.move (hk.block _ h.b2.lt hg2), h.b3.move (hk.block _ h.b3.lt hg3), h.bel.trans (hk.to_below hw h.bel.size)⟩
  · rcases hv2.2 with q | ⟨g0, cap, cur, hv, hg, hh, r⟩
    · exact .inl q
    · exact .inr ⟨g0, cap, cur, hv, hg, (hk.block g0 (hlt hh) (hK g0 _ _ _ hh (.inl rfl))).trans hh, r⟩
  · rcases (h.vs p hp).1.2 with ⟨e, _⟩ | ⟨g', cap, cur, e, _, hgg, _⟩
    · rw [e] at hg; cases hg
    · rw [e] at hg
      cases hg
      exact hk.block _ (hlt hgg) (hK _ _ _ _ hgg (.inr rfl))
theorem FSt.step {w Wb w' : World} {n₀ l D g1 g6 : Nat} {k : ByteArray} {B v v' V : Value} {rb rr : Obj} {ps : List (Fc × Value)} {f : Fc} (o : Obj) (h : FSt w n₀ l D g1 g6 k B rb ps Wb) (hv : Cells Wb g6 42 [v]) (hr : Wb.ownsRow n₀ 40 3 v ps.length (cellsF ps))
    (hV : Own Wb n₀ V f.2.2) (hs : f.2.1 < two64) (ho : w'.ownsRow n₀ 40 3 v' (ps.length + 1) (cellsF ps ++ cellF (f, V))) (hg : (Wb.alloc o).grownBy w' v.ownBlock)
    (h16 : g1 + 1 ≠ g6) (hn6 : n₀ ≤ g6) (hnw : w.heap.size ≤ n₀) (hnl : n₀ ≤ l) (hDl : D ≠ l) (hnc : ∀ cs t z, rb ≠ .cells cs t z) (hnd : ∀ ds, rb ≠ .deferred ds) :
    Cells w' g6 42 [v] ∧ (w'.setCell ⟨g6, 0, none⟩ v').heap[l]? = some rb ∧ FSt w n₀ l D g1 g6 k B rr (ps ++ [(f, V)]) ((w'.setCell ⟨g6, 0, none⟩ v').putObj l rr) ∧ Below n₀ Wb ((w'.setCell ⟨g6, 0, none⟩ v').putObj l rr) := by
  have hlt : ∀ {X : World} {b o}, X.heap[b]? = some o → b < X.heap.size := fun e => (Array.getElem?_eq_some_iff.1 e).1
  -- the row's block
  have hrow : ∀ b cs t z, Wb.heap[b]? = some (.cells cs t z) → t ≠ 40 → v.ownBlock ≠ some b := fun b cs t z hb ht e => by
    rcases hr.2 with ⟨e1, _⟩ | ⟨g, cap, cur, e1, _, hh, _⟩
    · rw [e1] at e; cases e
    · rw [e1] at e
      cases e
      rw [hh] at hb
      cases hb
      exact ht rfl
  have hrow2 : ∀ b o2, Wb.heap[b]? = some o2 → (∀ cs t z, o2 ≠ .cells cs t z) → v.ownBlock ≠ some b := fun b o2 hb hno e => by
    rcases hr.2 with ⟨e1, _⟩ | ⟨g, cap, cur, e1, _, hh, _⟩
    · rw [e1] at e; cases e
    · rw [e1] at e
      cases e
      rw [hh] at hb
      cases hb
      exact hno _ _ _ rfl
  have hl6 : l ≠ g6 := fun e => by
    have := h.rcd
    rw [e, hv] at this
    cases this
    exact hnc _ _ _ rfl
  have k1 : Kept (fun b => v.ownBlock ≠ some b) Wb w' := ((Kept.refl _ Wb).alloc o).grown hg fun g e => by rw [e]; simp
  have hc6 : Cells w' g6 42 [v] := hv.move (k1.block _ hv.lt (hrow _ _ _ _ hv (by decide)))
  have hl' : w'.heap[l]? = some rb := (k1.block _ (hlt h.rcd) (hrow2 _ _ h.rcd hnc)).trans h.rcd
  have hl2 : (w'.setCell ⟨g6, 0, none⟩ v').heap[l]? = some rb := (Below.heap_setCell _ _ _ _ hl6).trans hl'
  have k2 : Kept (fun b => v.ownBlock ≠ some b ∧ b ≠ g6 ∧ b ≠ l) Wb ((w'.setCell ⟨g6, 0, none⟩ v').putObj l rr) :=
    ((k1.mono fun b _ h => h.1).setCell (p := ⟨g6, 0, none⟩) (fun h => h.2.1 rfl) v').putObj (fun h => h.2.2 rfl) rr
  have hcl : ∀ {b t cs}, Cells Wb b t cs → b ≠ l := fun hb e => by
    have := h.rcd
    rw [← e, hb] at this
    cases this
    exact hnc _ _ _ rfl
  have hn42 : ∀ {b t cs}, Cells Wb b t cs → t ≠ 42 → b ≠ g6 := fun hb ht e => by
    subst e
    exact ht (hb.type hv).1
  have hbel : Below n₀ Wb ((w'.setCell ⟨g6, 0, none⟩ v').putObj l rr) := ⟨k2.os, k2.tape, k2.output, k2.size, fun b hb => by
    have hbs : b < Wb.heap.size ∨ Wb.heap.size ≤ b := Nat.lt_or_ge _ _
    rcases hbs with hbs | hbs
    · refine k2.block b hbs ⟨fun e => ?_, by omega, by omega⟩
      have := (World.ownsRow.lt hr b e).1
      omega
    · exfalso
      have := hv.lt
      omega⟩
  refine ⟨hc6, hl2, ⟨World.putObj_heap_same (hlt hl2), ?_, ⟨v', ?_, ?_⟩, ?_, ?_, ?_, ?_, ?_⟩, hbel⟩
  · refine (k2.block _ (hlt h.dfr) ⟨hrow2 _ _ h.dfr (fun cs t z e => by cases e), fun e => ?_, hDl⟩).trans h.dfr
    have := h.dfr
    rw [e, hv] at this
    cases this
  · exact (hc6.set 0 v').move (World.putObj_heap_other (fun e => hl6 e.symm))
  · have hl1 : (ps ++ [(f, V)]).length = ps.length + 1 := by simp
    have hc1 : cellsF (ps ++ [(f, V)]) = cellsF ps ++ cellF (f, V) := by rw [cellsF_append]; simp [cellsF]
    rw [hl1, hc1]
    refine ⟨ho.1, ?_⟩
    rcases ho.2 with q | ⟨g, cap, cur, e1, hb, hh, r⟩
    · exact .inl q
    · refine .inr ⟨g, cap, cur, e1, hb, ?_, r⟩
      have h6 : g ≠ g6 := fun e => by
        subst e
        have := hc6
        unfold Cells at this
        rw [hh] at this
        cases this
      have hL : g ≠ l := fun e => by
        subst e
        rw [hl'] at hh
        cases hh
        exact hnc _ _ _ rfl
      exact ((World.putObj_heap_other hL).trans (Below.heap_setCell _ _ _ _ h6)).trans hh
  · have hU : ∀ {V2 x}, Own Wb n₀ V2 x → Own ((w'.setCell ⟨g6, 0, none⟩ v').putObj l rr) n₀ V2 x := fun hO => hO.move fun g hgv => by
      rcases hO.2 with ⟨e, _⟩ | ⟨g', cap, cur, e, _, hgg, _⟩
      · rw [e] at hgv; cases hgv
      · rw [e] at hgv
        cases hgv
        have hcU : Cells Wb g' 5 cur.toList := by unfold Cells; simpa using hgg
        exact k2.block _ (hlt hgg) ⟨hrow _ _ _ _ hgg (by decide), hn42 hcU (by decide), hcl hcU⟩
    intro p hp
    rcases List.mem_append.1 hp with hp | hp
    · exact ⟨hU (h.vs p hp).1, (h.vs p hp).2⟩
    · have : p = (f, V) := by simpa using hp
      subst this
      exact ⟨hU hV, hs⟩
  · exact h.prt.move (k2.block _ h.prt.lt ⟨hrow _ _ _ _ h.prt (by decide), hn42 h.prt (by decide), hcl h.prt⟩)
  · exact h.b2.move (k2.block _ h.b2.lt ⟨hrow _ _ _ _ h.b2 (by decide), h16, hcl h.b2⟩)
  · exact h.b3.move (k2.block _ h.b3.lt ⟨hrow _ _ _ _ h.b3 (by decide), hn42 h.b3 (by decide), hcl h.b3⟩)
  · exact h.bel.trans (hbel.mono hnw)
/-- what is left behind the loop -/
theorem FSt.after {w X : World} {n₀ l D g1 g6 : Nat} {k : ByteArray} {B : Value} {rc ro : Obj} {ps : List (Fc × Value)} (h : FSt w n₀ l D g1 g6 k B rc ps X) (hl : D ≠ l) (hw : w.heap.size ≤ l) (hnc : ∀ cs t z, rc ≠ .cells cs t z) : FSt w n₀ l D g1 g6 k B ro ps (X.putObj l ro) := by
  have hk : Kept (fun b => b ≠ l) X (X.putObj l ro) := (Kept.refl _ X).putObj (fun h => h rfl) _
  have hcl : ∀ b cs t z, X.heap[b]? = some (.cells cs t z) → b ≠ l := fun b cs t z hb e => by
    rw [e, h.rcd] at hb
    exact hnc _ _ _ (Option.some.inj hb)
  obtain ⟨v, hv, _⟩ := h.row
  exact h.kept hk (World.putObj_heap_same (Array.getElem?_eq_some_iff.1 h.rcd).1) hl (hcl _ _ _ _ hv) (hcl _ _ _ _ h.prt) (hcl _ _ _ _ h.b2) (hcl _ _ _ _ h.b3) (fun b cs t z hb _ => hcl _ _ _ _ hb) (fun b hb => by omega)
/-- behind the mark: the block for deferred calls is shut, all else is as it was -/
theorem mark_facts {w X : World} {D b2 b3 : Nat} {t2 t3 : TypeId} {V u : Value} {fs : List Fc} (h2 : Cells X b2 t2 [V]) (h3 : Cells X b3 t3 [u]) (hd : X.heap[D]? = some (.deferred (some []))) (hb : Below w.heap.size w X) (hD : w.heap.size ≤ D) (hr : RowF X w.heap.size V fs (Own X w.heap.size)) :
    Cells (X.putObj D (.deferred none)) b2 t2 [V] ∧ Cells (X.putObj D (.deferred none)) b3 t3 [u] ∧ RowF (X.putObj D (.deferred none)) w.heap.size V fs (Own (X.putObj D (.deferred none)) w.heap.size) ∧ Below w.heap.size w (X.putObj D (.deferred none)) := by
  have hne : ∀ b cs t z, X.heap[b]? = some (.cells cs t z) → b ≠ D := fun b cs t z h e => by rw [e, hd] at h; cases h
  have hlt := (Array.getElem?_eq_some_iff.1 hd).1
  refine ⟨h2.move (World.putObj_heap_other (hne _ _ _ _ h2)), h3.move (World.putObj_heap_other (hne _ _ _ _ h3)), ?_, hb.grown (grownBy_putObj' _ _ _) hb.size (fun g e => by cases e; exact hD)⟩
  obtain ⟨ps, e, ho, hv⟩ := hr
  refine ⟨ps, e, ⟨ho.1, ?_⟩, hv.mono fun V2 x hO => hO.move fun g hg => World.putObj_heap_other ?_⟩
  · rcases ho.2 with q | ⟨g, cap, cur, hv, hg, hh, r⟩
    · exact .inl q
    · exact .inr ⟨g, cap, cur, hv, hg, (World.putObj_heap_other (hne _ _ _ _ hh)).trans hh, r⟩
  · rcases hO.2 with ⟨e1, _⟩ | ⟨g', cap, cur, e1, _, hgg, _⟩
    · rw [e1] at hg; cases hg
    · rw [e1] at hg
      cases hg
      exact hne _ _ _ _ hgg
section
set_option maxRecDepth 100000
set_option maxHeartbeats 8000000
theorem each_any (A : Option Addr) (c : Nat) (x : List UInt8) (w : World) : Calls Tryd.prog 106 #[.slice A x.length c] w fun e w' => e = .returned (.func (.func 120) #[] #[.pointer (some ⟨w.heap.size, 0, none⟩)]) ∧ w' = w.alloc (.cells #[.slice A x.length c] 25) := by
  go_enter Tryd.func106, Tryd.ntmps106
  go_wp2_with fail
  go_ret
  exact ⟨rfl, rfl⟩
theorem facts_any (k : ByteArray) (A : Option Addr) (c : Nat) (x : List UInt8) (w : World) (ht : Tab w) (hr : RB w w.heap.size A x) (hl : x.length ≤ 1099511627776) (hc : x.length ≤ c) (hA : A = none → c = 0) :
    Calls Tryd.prog 69 #[.agg #[.string k, .slice A x.length c]] w fun e w' => ∃ v, e = .returned (.tuple #[v, .int .i64 ((oneF k x).2 : Nat)]) ∧ RowF w' w.heap.size v (oneF k x).1 (Own w' w.heap.size) ∧ Below w.heap.size w w' := by
  obtain ⟨W, hW⟩ : ∃ W, W = ((w.alloc (.cells #[.string k, .slice A x.length c] 128)).alloc (.cells #[.slice none 0 0] 42)).alloc (.cells #[.int .i64 0] 33) := ⟨_, rfl⟩
  have hB1 : Below w.heap.size w W := by rw [hW]; exact (((Below.refl _ _).alloc (Nat.le_refl _) _).alloc (by simp) _).alloc (by simp; omega) _
  have h1 : Cells W w.heap.size 128 [.string k, .slice A x.length c] := by rw [hW]; exact ((Cells.new w _ _).alloc _).alloc _
  have h2 : Cells W (w.heap.size + 1) 42 [.slice none 0 0] := by
    have := (Cells.new (w.alloc (.cells #[.string k, .slice A x.length c] 128)) #[.slice none 0 0] 42).alloc (.cells #[.int .i64 0] 33)
    rw [hW]; simpa using this
  have h3 : Cells W (w.heap.size + 1 + 1) 33 [.int .i64 0] := by
    have := Cells.new ((w.alloc (.cells #[.string k, .slice A x.length c] 128)).alloc (.cells #[.slice none 0 0] 42)) #[.int .i64 0] 33
    rw [hW]; simpa using this
  have c1 := h1.cell (i := 1) rfl
  have HU := Lib.hid (unsummed_any A c x W (ht.below hB1 ht.pos) ((hr.below hB1).wide hB1.size) hl hc)
  have H0 : Hid (Below w.heap.size w W ∧ Cells W w.heap.size 128 [.string k, .slice A x.length c] ∧ Cells W (w.heap.size + 1) 42 [.slice none 0 0] ∧ Cells W (w.heap.size + 1 + 1) 33 [.int .i64 0]) := ⟨hB1, h1, h2, h3⟩
  have hone : Hid (oneF k x = match unF x with | none => ([], 23) | some y => match fcsF y with | some (f :: l) => if f.1 = k then (f :: l, 0) else ([], 24) | _ => ([], 24)) := rfl
  generalize oneF k x = on at hone ⊢
  have Hx := Lib.hid hl
  clear hB1 h1 h2 h3 hr hc hA hl
  refine (callsIn_wide (n := 5)).1 ?_
  refine callsIn_of_wp_marks Tryd.func69 rfl trivial ?_ rfl
  simp only [Tryd.ntmps69, List.size_toArray, List.length_cons, List.length_nil, Nat.reduceAdd, Nat.reduceSub, Array.replicate_succ, Array.replicate_zero, List.push_toArray, List.append_toArray, List.nil_append, List.cons_append]
  gi_wp2
  rw [← hW]
  clear hW c1
  refine ⟨trivial, (callsIn_wide.2 HU.out).mono ?_⟩
  rintro e w1 ⟨A1, k1, rfl, hr1, hk1, hA1, hb1⟩
  have H1 : Hid (Below w.heap.size w w1 ∧ Cells w1 w.heap.size 128 [.string k, .slice A x.length c] ∧ Cells w1 (w.heap.size + 1) 42 [.slice none 0 0] ∧ Cells w1 (w.heap.size + 1 + 1) 33 [.int .i64 0]) :=
    ⟨H0.out.1.trans (hb1.mono H0.out.1.size), H0.out.2.1.move (hb1.block _ H0.out.2.1.lt), H0.out.2.2.1.move (hb1.block _ H0.out.2.2.1.lt), H0.out.2.2.2.move (hb1.block _ H0.out.2.2.2.lt)⟩
  have q2 := H1.out.2.2.1.cell (i := 0) rfl
  have q3 := H1.out.2.2.2.cell (i := 0) rfl
  have z2 := H1.out.2.2.1.frozen 0
  have z3 := H1.out.2.2.2.frozen 0
  rcases hu : unF x with _ | y
  · have ho : on = ([], 23) := by rw [hone.out, hu]
    subst ho
    have H2 : Hid (Cells ((w1.setCell ⟨w.heap.size + 1, 0, none⟩ (.slice none 0 0)).setCell ⟨w.heap.size + 1 + 1, 0, none⟩ (.int .i64 23)) (w.heap.size + 1) 42 [.slice none 0 0] ∧ Cells ((w1.setCell ⟨w.heap.size + 1, 0, none⟩ (.slice none 0 0)).setCell ⟨w.heap.size + 1 + 1, 0, none⟩ (.int .i64 23)) (w.heap.size + 1 + 1) 33 [.int .i64 23] ∧ Below w.heap.size w ((w1.setCell ⟨w.heap.size + 1, 0, none⟩ (.slice none 0 0)).setCell ⟨w.heap.size + 1 + 1, 0, none⟩ (.int .i64 23))) :=
      ⟨(H1.out.2.2.1.set 0 _).move (Below.heap_setCell _ _ _ _ (by show w.heap.size + 1 ≠ w.heap.size + 1 + 1; omega)), (H1.out.2.2.2.move (Below.heap_setCell _ _ _ _ (by show w.heap.size + 1 + 1 ≠ w.heap.size + 1; omega))).set 0 _, (H1.out.1.setCell (p := ⟨w.heap.size + 1, 0, none⟩) (by show w.heap.size ≤ w.heap.size + 1; omega) _).setCell (p := ⟨w.heap.size + 1 + 1, 0, none⟩) (by show w.heap.size ≤ w.heap.size + 1 + 1; omega) _⟩
    clear HU H0 hone hu hr1 hk1 hA1 hb1
    gi_wp2
    generalize (w1.setCell ⟨w.heap.size + 1, 0, none⟩ (.slice none 0 0)).setCell ⟨w.heap.size + 1 + 1, 0, none⟩ (.int .i64 23) = WF at H2 ⊢
    have q2 := H2.out.1.cell (i := 0) rfl
    have q3 := H2.out.2.1.cell (i := 0) rfl
    refine ⟨.tuple #[.slice none 0 0, .int .i64 23], by simp [results, Tryd.results69, go_sem, q2, q3], ?_⟩
    exact ⟨_, rfl, RowF.nil _ _ _, H2.out.2.2⟩
  · have hone2 : Hid (on = match fcsF y with | some (f :: l) => if f.1 = k then (f :: l, 0) else ([], 24) | _ => ([], 24)) := by show _ = _; rw [hone.out, hu]
    rw [hu] at hr1 hk1
    have Hr1 : Hid (RB W W.heap.size A1 y ∧ y.length ≤ k1 ∧ (A1 = none → k1 = 0) ∧ Below W.heap.size W w1 ∧ w.heap.size + 1 + 1 < W.heap.size) := ⟨hr1, hk1, hA1, hb1, H0.out.2.2.2.lt⟩
    have Hy : Hid (y.length ≤ 1099511627776) := by
      show _ ≤ _
      unfold unF at hu
      split at hu
      · cases hu
        rw [List.length_drop]
        have := Hx.out
        omega
      · cases hu
    have HE := Lib.hid (fun W => each_any A1 k1 y W)
    clear HU H0 hone hu hr1 hk1 hA1 hb1 q2 q3 z2 z3
    gi_wp2
    refine ⟨trivial, (callsIn_wide.2 (HE.out _)).mono ?_⟩
    rintro e w3 ⟨rfl, hw3⟩
    have H3 : Hid (Below w.heap.size w w3 ∧ Cells w3 w.heap.size 128 [.string k, .slice A x.length c] ∧ Cells w3 (w.heap.size + 1) 42 [.slice none 0 0] ∧ Cells w3 (w.heap.size + 1 + 1) 33 [.int .i64 0] ∧
        Cells w3 w1.heap.size 42 [.slice none 0 0] ∧ Cells w3 (w1.heap.size + 1) 25 [.slice A1 y.length k1] ∧ w3.heap.size = w1.heap.size + 1 + 1) := by
      have hs : (w1.alloc (.cells #[.slice none 0 0] 42)).heap.size = w1.heap.size + 1 := by simp
      rw [hw3]
      refine ⟨(H1.out.1.alloc H1.out.1.size _).alloc (by rw [hs]; have := H1.out.1.size; omega) _, (H1.out.2.1.alloc _).alloc _, (H1.out.2.2.1.alloc _).alloc _, (H1.out.2.2.2.alloc _).alloc _, (Cells.new w1 _ _).alloc _, ?_, by simp⟩
      have := Cells.new (w1.alloc (.cells #[.slice none 0 0] 42)) #[.slice A1 y.length k1] 25
      rw [hs] at this
      exact this
    have Hw13 : Hid (Below w1.heap.size w1 w3) := by rw [hw3]; exact ((Below.refl _ _).alloc (Nat.le_refl _) _).alloc (by simp) _
    clear hw3 H1 HE
    gi_wp2
    refine range_wp rfl rfl rfl trivial (enters_of Tryd.func120 (by kernel_rfl) rfl) ?_
    intro fn hfn
    generalize hrc : lrec fn _ _ _ _ w3.heap.size = rc
    have hcell : ∀ st pe (cs : Array Value) t z, rc st pe ≠ .cells cs t z := fun st pe cs t z e => by rw [← hrc] at e; cases e
    have hdefr : ∀ st pe ds, rc st pe ≠ .deferred ds := fun st pe ds e => by rw [← hrc] at e; cases e
    have hs4 : (w3.alloc (.deferred (some []))).heap.size = w3.heap.size + 1 := by simp
    have Hb3 : Hid (Below w1.heap.size w1 ((w3.alloc (.deferred (some []))).alloc (rc .ready none))) := (Hw13.out.alloc (by have := Hw13.out.size; omega) _).alloc (by rw [hs4]; have := Hw13.out.size; omega) _
    refine (each1_any 4 (w3.heap.size + 1) W.heap.size (w1.heap.size + 1) A1 k1 y
      (fun ps X => W.heap.size ≤ X.heap.size ∧ FSt w W.heap.size (w3.heap.size + 1) w3.heap.size w.heap.size w1.heap.size k (.slice A x.length c) (rc .ready none) ps X)
      (fun X => X.heap[w3.heap.size + 1]? = some (rc .done (some .ret)) ∧ X.heap[w3.heap.size]? = some (.deferred (some [])) ∧ Cells X (w.heap.size + 1) 42 [.slice none 0 0] ∧ Cells X (w.heap.size + 1 + 1) 33 [.int .i64 24] ∧ Below w.heap.size w X)
      ?hJ ?hY ?hN _ ?hBn ?hr ?hn0 Hy.out Hr1.out.2.1 Hr1.out.2.2.1 ?h0).mono ?fin
    case hJ =>
      rintro ps X X' ⟨hX, h⟩ hb
      refine ⟨Nat.le_trans hX hb.size, ?_⟩
      have hk : Kept (fun _ => True) X X' := ⟨hb.os, hb.tape, hb.output, hb.size, fun b hlt _ => hb.block b hlt⟩
      exact h.kept hk ((hb.block _ (Array.getElem?_eq_some_iff.1 h.rcd).1).trans h.rcd) trivial trivial trivial trivial trivial (fun _ _ _ _ _ _ => trivial) (fun _ _ => trivial)
    case hY =>
      rintro ps ⟨fk, fs, fv⟩ V W1 ⟨hX, h⟩ hlen ho hs
      obtain ⟨A3, c3, rfl, _⟩ := ho.rb
      dsimp only at ho hs ⊢
      have hl := h.rcd
      rw [← hrc] at hl
      refine round_yields trivial rfl hl ?_
      simp only [hrc]
      unfold fcV
      have HF : Hid (FSt w W.heap.size (w3.heap.size + 1) w3.heap.size w.heap.size w1.heap.size k (.slice A x.length c) (rc .ready none) ps W1 ∧ W.heap.size ≤ W1.heap.size ∧ ps.length < y.length ∧ Own W1 W.heap.size (.slice A3 fv.length c3) fv ∧ fs < two64) := ⟨h, hX, hlen, ho, hs⟩
      clear hl h hX hlen ho hs
      have hbusy : FSt w W.heap.size (w3.heap.size + 1) w3.heap.size w.heap.size w1.heap.size k (.slice A x.length c) (rc .busy none) ps ((W1.alloc (.cells #[.string fk, .int .u64 (fs : Int), .slice A3 fv.length c3] 40)).putObj (w3.heap.size + 1) (rc .busy none)) ∧ Kept (fun b => b ≠ w3.heap.size + 1) W1 ((W1.alloc (.cells #[.string fk, .int .u64 (fs : Int), .slice A3 fv.length c3] 40)).putObj (w3.heap.size + 1) (rc .busy none)) := by
        have hlt := (Array.getElem?_eq_some_iff.1 HF.out.1.rcd).1
        have hk : Kept (fun b => b ≠ w3.heap.size + 1) W1 ((W1.alloc (.cells #[.string fk, .int .u64 (fs : Int), .slice A3 fv.length c3] 40)).putObj (w3.heap.size + 1) (rc .busy none)) := ((Kept.refl _ W1).alloc _).putObj (fun h => h rfl) _
        have hcl : ∀ b cs t z, W1.heap[b]? = some (.cells cs t z) → b ≠ w3.heap.size + 1 := fun b cs t z hb e => by
          rw [e, HF.out.1.rcd] at hb
          exact hcell _ _ _ _ _ (Option.some.inj hb)
        obtain ⟨v, hv, _⟩ := HF.out.1.row
        refine ⟨HF.out.1.kept hk (World.putObj_heap_same (by simp; omega)) (by omega) (hcl _ _ _ _ hv) (hcl _ _ _ _ HF.out.1.prt) (hcl _ _ _ _ HF.out.1.b2) (hcl _ _ _ _ HF.out.1.b3) (fun b cs t z hb _ => hcl _ _ _ _ hb) (fun b hb => by have := H3.out.1.size; omega), hk⟩
      have hrd : Hid ((W1.alloc (.cells #[.string fk, .int .u64 (fs : Int), .slice A3 fv.length c3] 40)).heap[w3.heap.size + 1]? = some (rc .ready none)) := (Below.heap_alloc _ _ _ (Array.getElem?_eq_some_iff.1 HF.out.1.rcd).1).trans HF.out.1.rcd
      have hbx : Cells ((W1.alloc (.cells #[.string fk, .int .u64 (fs : Int), .slice A3 fv.length c3] 40)).putObj (w3.heap.size + 1) (rc .busy none)) W1.heap.size 40 [.string fk, .int .u64 (fs : Int), .slice A3 fv.length c3] :=
        (Cells.new W1 _ _).move (World.putObj_heap_other (fun e => by have := (Array.getElem?_eq_some_iff.1 HF.out.1.rcd).1; omega))
      obtain ⟨hbz, hkk⟩ := hbusy
      gi_wp2
      refine ⟨hrd.out, ?_⟩
      have hbelW : Below W.heap.size W1 ((W1.alloc (.cells #[.string fk, .int .u64 (fs : Int), .slice A3 fv.length c3] 40)).putObj (w3.heap.size + 1) (rc .busy none)) := hkk.to_below (fun b hb => by have := Hb3.out.size; have := Hr1.out.2.2.2.1.size; have := Hw13.out.size; omega) HF.out.2.1
      have hoW : Own ((W1.alloc (.cells #[.string fk, .int .u64 (fs : Int), .slice A3 fv.length c3] 40)).putObj (w3.heap.size + 1) (rc .busy none)) W.heap.size (.slice A3 fv.length c3) fv := HF.out.2.2.2.1.move fun g hg => hkk.block g (HF.out.2.2.2.1.lt g hg).2 (fun e => by
        rcases HF.out.2.2.2.1.2 with ⟨e1, _⟩ | ⟨g', cap, cur, e1, _, hgg, _⟩
        · rw [e1] at hg; cases hg
        · rw [e1] at hg
          cases hg
          have e' : g' = w3.heap.size + 1 := e
          rw [e', HF.out.1.rcd] at hgg
          exact hcell _ _ _ _ _ (Option.some.inj hgg))
      generalize (W1.alloc (.cells #[.string fk, .int .u64 (fs : Int), .slice A3 fv.length c3] 40)).putObj (w3.heap.size + 1) (rc .busy none) = Wb at *
      obtain ⟨v, hv, hrow⟩ := hbz.row
      obtain ⟨Av, cv, rfl, _⟩ := ownF_shape hrow
      have c6 := hv.cell (i := 0) rfl
      have x0 := hbx.cell (i := 0) rfl
      have x1 := hbx.cell (i := 1) rfl
      have x2 := hbx.cell (i := 2) rfl
      obtain ⟨i0, hi0, hz0, hz1, hz2⟩ := info_parts info_fact
      have HS : Hid (∀ v' w', w'.ownsRow W.heap.size 40 3 v' (ps.length + 1) (cellsF ps ++ [.string fk, .int .u64 (fs : Int), .slice A3 fv.length c3]) → (Wb.alloc (.cells #[.string fk, .int .u64 (fs : Int), .slice A3 fv.length c3] 40)).grownBy w' (Value.slice Av ps.length cv).ownBlock → _) := fun v' w' q1 q2 =>
        FSt.step (rr := rc .ready none) (.cells #[.string fk, .int .u64 (fs : Int), .slice A3 fv.length c3] 40) hbz hv hrow (f := (fk, fs, fv)) (V := .slice A3 fv.length c3) hoW HF.out.2.2.2.2 q1 q2 (by have := Hr1.out.2.2.2.1.size; have := Hr1.out.2.2.2.2; omega) (by have := Hr1.out.2.2.2.1.size; omega) (by have := Hr1.out.2.2.2.2; omega) (by have := Hr1.out.2.2.2.1.size; have := Hw13.out.size; omega) (by omega) (hcell _ _) (hdefr _ _)
      have Hlen : Hid (ps.length + 1 ≤ 1099511627776) := by show _ ≤ _; have := HF.out.2.2.1; have := Hy.out; omega
      have Hrow := Lib.hid hrow
      have HW : Hid (W.heap.size ≤ Wb.heap.size ∧ Below W.heap.size W1 Wb ∧ W.heap.size ≤ W1.heap.size) := ⟨Nat.le_trans HF.out.2.1 hbelW.size, hbelW, HF.out.2.1⟩
      clear hbz hkk hrd hbelW hoW hv hrow hbx HF
      gi_wp2_with (gi_at_builtin; refine wpListIn_append_own _ rfl _ _ 42 rfl W.heap.size 40 i0 _ 3 48 Tryd.underlying42 hi0 hz0 hz1 hz2 rfl (by omega) _ ps.length (cellsF ps) rfl (World.ownsRow.alloc Hrow.out _) ⟨Wb.heap.size, 0, none⟩ 1 1 [.string fk, .int .u64 (fs : Int), .slice A3 fv.length c3] rfl rfl (fun j u hj => by rw [add_flat, Nat.zero_add]; exact (Cells.new Wb _ _).cell hj) (by intro u hu; simp only [List.mem_cons, List.not_mem_nil, or_false] at hu; rcases hu with rfl | rfl | rfl <;> rfl) (by have := Hlen.out; simp only [maxLen]; omega) (by have := Hlen.out; omega) (by have := HW.out.1; simp; omega) ?_; intro v' w4 q1 q2 _; obtain ⟨A4, c4, rfl, _⟩ := ownF_shape q1; have hst := HS.out _ _ q1 q2; have d6 := hst.1.cell (i := 0) rfl; have z6 := hst.1.frozen 0; have H5 := Lib.hid hst.2; clear hst q1 q2)
      exact ⟨H5.out.1, rfl, ⟨Nat.le_trans HW.out.2.2 (HW.out.2.1.trans H5.out.2.2).size, H5.out.2.1⟩, HW.out.2.1.trans H5.out.2.2⟩
    case hN =>
      rintro ps ⟨fk, fs, fv⟩ V W1 ⟨hX, h⟩ ⟨A3, c3, rfl⟩
      dsimp only
      have hl := h.rcd
      rw [← hrc] at hl
      refine round_yields trivial rfl hl ?_
      simp only [hrc]
      unfold fcV
      dsimp only
      have HF : Hid (FSt w W.heap.size (w3.heap.size + 1) w3.heap.size w.heap.size w1.heap.size k (.slice A x.length c) (rc .ready none) ps W1 ∧ W.heap.size ≤ W1.heap.size) := ⟨h, hX⟩
      clear hl h hX
      have hrd : Hid ((W1.alloc (.cells #[.string fk, .int .u64 (fs : Int), .slice A3 fv.length c3] 40)).heap[w3.heap.size + 1]? = some (rc .ready none)) := (Below.heap_alloc _ _ _ (Array.getElem?_eq_some_iff.1 HF.out.1.rcd).1).trans HF.out.1.rcd
      gi_wp2
      refine ⟨hrd.out, ?_⟩
      have hlt := (Array.getElem?_eq_some_iff.1 HF.out.1.rcd).1
      have hk : Kept (fun b => b ≠ w3.heap.size + 1) W1 ((W1.alloc (.cells #[.string fk, .int .u64 (fs : Int), .slice A3 fv.length c3] 40)).putObj (w3.heap.size + 1) (rc .busy none)) := ((Kept.refl _ W1).alloc _).putObj (fun h => h rfl) _
      have hb2 : Cells ((W1.alloc (.cells #[.string fk, .int .u64 (fs : Int), .slice A3 fv.length c3] 40)).putObj (w3.heap.size + 1) (rc .busy none)) (w.heap.size + 1) 42 [.slice none 0 0] := HF.out.1.b2.move (hk.block _ HF.out.1.b2.lt (by have := Hr1.out.2.2.2.1.size; have := Hr1.out.2.2.2.2; have := Hw13.out.size; omega))
      have hb3 : Cells ((W1.alloc (.cells #[.string fk, .int .u64 (fs : Int), .slice A3 fv.length c3] 40)).putObj (w3.heap.size + 1) (rc .busy none)) (w.heap.size + 1 + 1) 33 [.int .i64 0] := HF.out.1.b3.move (hk.block _ HF.out.1.b3.lt (by have := Hr1.out.2.2.2.1.size; have := Hr1.out.2.2.2.2; have := Hw13.out.size; omega))
      have hrb : ((W1.alloc (.cells #[.string fk, .int .u64 (fs : Int), .slice A3 fv.length c3] 40)).putObj (w3.heap.size + 1) (rc .busy none)).heap[w3.heap.size + 1]? = some (rc .busy none) := World.putObj_heap_same (by simp; omega)
      have hdf : ((W1.alloc (.cells #[.string fk, .int .u64 (fs : Int), .slice A3 fv.length c3] 40)).putObj (w3.heap.size + 1) (rc .busy none)).heap[w3.heap.size]? = some (.deferred (some [])) := (hk.block _ (Array.getElem?_eq_some_iff.1 HF.out.1.dfr).1 (by omega)).trans HF.out.1.dfr
      have hbw : Below w.heap.size w ((W1.alloc (.cells #[.string fk, .int .u64 (fs : Int), .slice A3 fv.length c3] 40)).putObj (w3.heap.size + 1) (rc .busy none)) := HF.out.1.bel.trans (hk.to_below (fun b hb => by have := H3.out.1.size; omega) (by have := Hr1.out.2.2.2.2; have := HF.out.2; omega))
      generalize (W1.alloc (.cells #[.string fk, .int .u64 (fs : Int), .slice A3 fv.length c3] 40)).putObj (w3.heap.size + 1) (rc .busy none) = Wb at *
      have d2 := hb2.cell (i := 0) rfl
      have d3 := hb3.cell (i := 0) rfl
      have z2 := hb2.frozen 0
      have z3 := hb3.frozen 0
      have n1 : w3.heap.size + 1 ≠ w.heap.size + 1 := by have := Hr1.out.2.2.2.1.size; have := Hr1.out.2.2.2.2; have := Hw13.out.size; omega
      have n2 : w3.heap.size + 1 ≠ w.heap.size + 1 + 1 := by have := Hr1.out.2.2.2.1.size; have := Hr1.out.2.2.2.2; have := Hw13.out.size; omega
      have n3 : w3.heap.size ≠ w.heap.size + 1 ∧ w3.heap.size ≠ w.heap.size + 1 + 1 := by have := Hr1.out.2.2.2.1.size; have := Hr1.out.2.2.2.2; have := Hw13.out.size; omega
      have HS : Hid (((Wb.setCell ⟨w.heap.size + 1, 0, none⟩ (.slice none 0 0)).setCell ⟨w.heap.size + 1 + 1, 0, none⟩ (.int .i64 24)).heap[w3.heap.size + 1]? = some (rc .busy none) ∧
          ((Wb.setCell ⟨w.heap.size + 1, 0, none⟩ (.slice none 0 0)).setCell ⟨w.heap.size + 1 + 1, 0, none⟩ (.int .i64 24)).heap[w3.heap.size]? = some (.deferred (some [])) ∧
          Cells ((Wb.setCell ⟨w.heap.size + 1, 0, none⟩ (.slice none 0 0)).setCell ⟨w.heap.size + 1 + 1, 0, none⟩ (.int .i64 24)) (w.heap.size + 1) 42 [.slice none 0 0] ∧
          Cells ((Wb.setCell ⟨w.heap.size + 1, 0, none⟩ (.slice none 0 0)).setCell ⟨w.heap.size + 1 + 1, 0, none⟩ (.int .i64 24)) (w.heap.size + 1 + 1) 33 [.int .i64 24] ∧
          Below w.heap.size w ((Wb.setCell ⟨w.heap.size + 1, 0, none⟩ (.slice none 0 0)).setCell ⟨w.heap.size + 1 + 1, 0, none⟩ (.int .i64 24))) := by
        refine ⟨((Below.heap_setCell _ _ _ _ n2).trans (Below.heap_setCell _ _ _ _ n1)).trans hrb, ((Below.heap_setCell _ _ _ _ n3.2).trans (Below.heap_setCell _ _ _ _ n3.1)).trans hdf, (hb2.set 0 _).move (Below.heap_setCell _ _ _ _ (by show w.heap.size + 1 ≠ w.heap.size + 1 + 1; omega)), (hb3.move (Below.heap_setCell _ _ _ _ (by show w.heap.size + 1 + 1 ≠ w.heap.size + 1; omega))).set 0 _, (hbw.setCell (p := ⟨w.heap.size + 1, 0, none⟩) (by show w.heap.size ≤ w.heap.size + 1; omega) _).setCell (p := ⟨w.heap.size + 1 + 1, 0, none⟩) (by show w.heap.size ≤ w.heap.size + 1 + 1; omega) _⟩
      have N12 : Hid (w3.heap.size + 1 ≠ w.heap.size + 1 ∧ w3.heap.size + 1 ≠ w.heap.size + 1 + 1 ∧ w.heap.size ≤ w3.heap.size) := ⟨n1, n2, H3.out.1.size⟩
      clear hk hb2 hb3 hrb hdf hbw hrd hlt n1 n2 n3 HF
      gi_wp2
      generalize (Wb.setCell ⟨w.heap.size + 1, 0, none⟩ (.slice none 0 0)).setCell ⟨w.heap.size + 1 + 1, 0, none⟩ (.int .i64 24) = WF at HS ⊢
      obtain ⟨s1, s2, s3, s4, s5⟩ := HS.out
      have hlt := (Array.getElem?_eq_some_iff.1 s1).1
      exact ⟨s1, rfl, World.putObj_heap_same hlt, (World.putObj_heap_other (by omega)).trans s2, s3.move (World.putObj_heap_other N12.out.1.symm), s4.move (World.putObj_heap_other N12.out.2.1.symm), s5.grown (grownBy_putObj' _ _ _) s5.size (fun g e => by cases e; have := N12.out.2.2; omega)⟩
    case hBn => exact ((H3.out.2.2.2.2.2.1.alloc _).alloc _).cell rfl
    case hr => exact Hr1.out.1.below ((Hr1.out.2.2.2.1.trans ⟨Hb3.out.os, Hb3.out.tape, Hb3.out.output, Hb3.out.size, fun b hb => Hb3.out.block b (Nat.lt_of_lt_of_le hb Hr1.out.2.2.2.1.size)⟩))
    case hn0 => have := Hr1.out.2.2.2.1.size; have := Hb3.out.size; omega
    case h0 =>
      refine ⟨by have := Hr1.out.2.2.2.1.size; have := Hb3.out.size; omega, ?_⟩
      refine ⟨?_, ?_, ⟨_, (H3.out.2.2.2.2.1.alloc _).alloc _, World.ownsRow_nil _ _ _ _⟩, (fun p hp => by simp at hp), (H3.out.2.1.alloc _).alloc _, (H3.out.2.2.1.alloc _).alloc _, (H3.out.2.2.2.1.alloc _).alloc _, ?_⟩
      · have := heap_alloc_new (w3.alloc (.deferred (some []))) (rc .ready none)
        rw [hs4] at this
        exact this
      · exact (Below.heap_alloc _ _ _ (by rw [hs4]; omega)).trans (heap_alloc_new w3 _)
      · exact (H3.out.1.alloc (H3.out.1.size) _).alloc (by rw [hs4]; have := H3.out.1.size; omega) _
    case fin =>
      rintro e W2 ⟨hv, ⟨ps, hps, hsz, hst⟩ | ⟨hno, x1, x2, x3, x4, x5⟩⟩
      · refine ⟨hv, .inl ⟨hst.rcd, ?_⟩⟩
        have hF := hst.after (ro := rc .exhausted none) (by omega) (by have := H3.out.1.size; omega) (hcell _ _)
        gi_wp2
        have N3 : w3.heap.size ≠ w.heap.size + 1 ∧ w3.heap.size ≠ w.heap.size + 1 + 1 := by have := Hr1.out.2.2.2.1.size; have := Hr1.out.2.2.2.2; have := Hw13.out.size; omega
        generalize W2.putObj (w3.heap.size + 1) (rc .exhausted none) = X at hF ⊢
        obtain ⟨v, hv6, hrow⟩ := hF.row
        obtain ⟨Av, cv, rfl, hcv, _⟩ := ownF_shape hrow
        have c6 := hv6.cell (i := 0) rfl
        have c6d : X.drew.cell? ⟨w1.heap.size, 0, none⟩ = some (.slice Av ps.length cv) := c6
        have p0 := hF.prt.cell (i := 0) rfl
        have p0d : X.drew.cell? ⟨w.heap.size, 0, none⟩ = some (.string k) := p0
        rcases ps with _ | ⟨⟨⟨fk, fs, fv⟩, V⟩, qs⟩
        · have ho : on = ([], 24) := by rw [hone2.out, hps]; rfl
          subst ho
          have b2 := hF.b2.cell (i := 0) rfl
          have b3 := hF.b3.cell (i := 0) rfl
          have z2 := hF.b2.frozen 0
          have z3 := hF.b3.frozen 0
          refine wpIn_wide.2 ?_
          go_quiet (fail)
          gi_wp2
          have hS2 : Cells (((X.drewN nq).setCell ⟨w.heap.size + 1, 0, none⟩ (.slice none 0 0)).setCell ⟨w.heap.size + 1 + 1, 0, none⟩ (.int .i64 24)) (w.heap.size + 1) 42 [.slice none 0 0] := (hF.b2.set 0 _).move (Below.heap_setCell _ _ _ _ (by show w.heap.size + 1 ≠ w.heap.size + 1 + 1; omega))
          have hS3 : Cells (((X.drewN nq).setCell ⟨w.heap.size + 1, 0, none⟩ (.slice none 0 0)).setCell ⟨w.heap.size + 1 + 1, 0, none⟩ (.int .i64 24)) (w.heap.size + 1 + 1) 33 [.int .i64 24] := (Cells.move (w := X.drewN nq) hF.b3 (Below.heap_setCell _ _ _ _ (by show w.heap.size + 1 + 1 ≠ w.heap.size + 1; omega))).set 0 _
          have hSd : (((X.drewN nq).setCell ⟨w.heap.size + 1, 0, none⟩ (.slice none 0 0)).setCell ⟨w.heap.size + 1 + 1, 0, none⟩ (.int .i64 24)).heap[w3.heap.size]? = some (.deferred (some [])) := ((Below.heap_setCell _ _ _ _ N3.2).trans (Below.heap_setCell _ _ _ _ N3.1)).trans hF.dfr
          have hSb : Below w.heap.size w (((X.drewN nq).setCell ⟨w.heap.size + 1, 0, none⟩ (.slice none 0 0)).setCell ⟨w.heap.size + 1 + 1, 0, none⟩ (.int .i64 24)) := ((below_drewN hF.bel nq).setCell (p := ⟨w.heap.size + 1, 0, none⟩) (by show w.heap.size ≤ w.heap.size + 1; omega) _).setCell (p := ⟨w.heap.size + 1 + 1, 0, none⟩) (by show w.heap.size ≤ w.heap.size + 1 + 1; omega) _
          have hm := mark_facts (fs := []) hS2 hS3 hSd hSb H3.out.1.size (RowF.nil _ _ _)
          refine ⟨by simp, .inl ⟨_, _, rfl, run_takeDeferred hSd, ?_⟩⟩
          generalize (((X.drewN nq).setCell ⟨w.heap.size + 1, 0, none⟩ (.slice none 0 0)).setCell ⟨w.heap.size + 1 + 1, 0, none⟩ (.int .i64 24)).putObj w3.heap.size (.deferred none) = XF at hm ⊢
          have q2 := hm.1.cell (i := 0) rfl
          have q3 := hm.2.1.cell (i := 0) rfl
          exact ⟨.tuple #[.slice none 0 0, .int .i64 24], by simp [results, Tryd.results69, go_sem, q2, q3], ⟨_, rfl, hm.2.2.1, hm.2.2.2⟩⟩
        · rcases hrow.2 with ⟨_, h0⟩ | ⟨g, cap, cur, e1, hbg, hg, hnc0, hm0, hs0, ht0⟩
          · simp at h0
          cases e1
          have x0 : X.cell? ⟨g, 0, none⟩ = some (.string fk) := by
            have := World.ownsRow.cells (e := 40) (size := 3) hrow rfl 0 (.string fk) rfl
            rw [add_flat] at this
            exact this
          have x0d : X.drew.cell? ⟨g, 0, none⟩ = some (.string fk) := x0
          have hlt1 : (0 : Int) < (qs.length : Int) + 1 := by omega
          have hlt2 : ¬ (qs.length : Int) + 1 = 0 := by omega
          have b2 := hF.b2.cell (i := 0) rfl
          have b3 := hF.b3.cell (i := 0) rfl
          have z2 := hF.b2.frozen 0
          have z3 := hF.b3.frozen 0
          have HF := Lib.hid hF
          have Hrow := Lib.hid hrow
          have hG : g ≠ w.heap.size + 1 ∧ g ≠ w.heap.size + 1 + 1 := by
            refine ⟨fun e => ?_, fun e => ?_⟩
            · have := hF.b2
              unfold Cells at this
              rw [← e, hg] at this
              cases this
            · have := hF.b3
              unfold Cells at this
              rw [← e, hg] at this
              cases this
          clear hrow
          by_cases e : fk = k
          · have ho : on = ((fk, fs, fv) :: qs.map Prod.fst, 0) := by rw [hone2.out, hps]; show (if fk = k then _ else _) = _; rw [if_pos e]
            subst ho
            subst e
            have hkk : (fk.toList == fk.toList) = true := by simp
            refine wpIn_wide.2 ?_
            go_quiet (fail)
            gi_wp2
            have hS2 : Cells (((X.drewN nq).setCell ⟨w.heap.size + 1, 0, none⟩ (.slice (some ⟨g, 0, none⟩) (qs.length + 1) cv)).setCell ⟨w.heap.size + 1 + 1, 0, none⟩ (.int .i64 0)) (w.heap.size + 1) 42 [.slice (some ⟨g, 0, none⟩) (qs.length + 1) cv] := (HF.out.b2.set 0 _).move (Below.heap_setCell _ _ _ _ (by show w.heap.size + 1 ≠ w.heap.size + 1 + 1; omega))
            have hS3 : Cells (((X.drewN nq).setCell ⟨w.heap.size + 1, 0, none⟩ (.slice (some ⟨g, 0, none⟩) (qs.length + 1) cv)).setCell ⟨w.heap.size + 1 + 1, 0, none⟩ (.int .i64 0)) (w.heap.size + 1 + 1) 33 [.int .i64 0] := (Cells.move (w := X.drewN nq) HF.out.b3 (Below.heap_setCell _ _ _ _ (by show w.heap.size + 1 + 1 ≠ w.heap.size + 1; omega))).set 0 _
            have hSd : (((X.drewN nq).setCell ⟨w.heap.size + 1, 0, none⟩ (.slice (some ⟨g, 0, none⟩) (qs.length + 1) cv)).setCell ⟨w.heap.size + 1 + 1, 0, none⟩ (.int .i64 0)).heap[w3.heap.size]? = some (.deferred (some [])) := ((Below.heap_setCell _ _ _ _ N3.2).trans (Below.heap_setCell _ _ _ _ N3.1)).trans HF.out.dfr
            have hSb : Below w.heap.size w (((X.drewN nq).setCell ⟨w.heap.size + 1, 0, none⟩ (.slice (some ⟨g, 0, none⟩) (qs.length + 1) cv)).setCell ⟨w.heap.size + 1 + 1, 0, none⟩ (.int .i64 0)) := ((below_drewN HF.out.bel nq).setCell (p := ⟨w.heap.size + 1, 0, none⟩) (by show w.heap.size ≤ w.heap.size + 1; omega) _).setCell (p := ⟨w.heap.size + 1 + 1, 0, none⟩) (by show w.heap.size ≤ w.heap.size + 1 + 1; omega) _
            have hWw : w.heap.size ≤ W.heap.size := by have := Hr1.out.2.2.2.2; omega
            have hSr : RowF (((X.drewN nq).setCell ⟨w.heap.size + 1, 0, none⟩ (.slice (some ⟨g, 0, none⟩) (qs.length + 1) cv)).setCell ⟨w.heap.size + 1 + 1, 0, none⟩ (.int .i64 0)) w.heap.size (.slice (some ⟨g, 0, none⟩) (qs.length + 1) cv) ((fk, fs, fv) :: qs.map Prod.fst) (Own (((X.drewN nq).setCell ⟨w.heap.size + 1, 0, none⟩ (.slice (some ⟨g, 0, none⟩) (qs.length + 1) cv)).setCell ⟨w.heap.size + 1 + 1, 0, none⟩ (.int .i64 0)) w.heap.size) := by
              refine ⟨((fk, fs, fv), V) :: qs, rfl, ⟨Hrow.out.1, .inr ⟨g, cv, cur, rfl, Nat.le_trans hWw hbg, ?_, hnc0, hm0, hs0, ht0⟩⟩, HF.out.vs.mono fun V2 x hO => (hO.wide hWw).move fun g' hg' => ?_⟩
              · exact ((Below.heap_setCell _ _ _ _ hG.2).trans (Below.heap_setCell _ _ _ _ hG.1)).trans hg
              · rcases hO.2 with ⟨e1, _⟩ | ⟨g2, cap, cur2, e1, _, hgg, _⟩
                · rw [e1] at hg'; cases hg'
                · rw [e1] at hg'
                  cases hg'
                  have hA : g2 ≠ w.heap.size + 1 := fun e => by
                    have := HF.out.b2
                    unfold Cells at this
                    rw [← e, hgg] at this
                    cases this
                  have hB : g2 ≠ w.heap.size + 1 + 1 := fun e => by
                    have := HF.out.b3
                    unfold Cells at this
                    rw [← e, hgg] at this
                    cases this
                  exact (Below.heap_setCell _ _ _ _ hB).trans (Below.heap_setCell _ _ _ _ hA)
            have hm := mark_facts hS2 hS3 hSd hSb H3.out.1.size hSr
            refine ⟨by simp, .inl ⟨_, _, rfl, run_takeDeferred hSd, ?_⟩⟩
            generalize (((X.drewN nq).setCell ⟨w.heap.size + 1, 0, none⟩ (.slice (some ⟨g, 0, none⟩) (qs.length + 1) cv)).setCell ⟨w.heap.size + 1 + 1, 0, none⟩ (.int .i64 0)).putObj w3.heap.size (.deferred none) = XF at hm ⊢
            have q2 := hm.1.cell (i := 0) rfl
            have q3 := hm.2.1.cell (i := 0) rfl
            exact ⟨.tuple #[.slice (some ⟨g, 0, none⟩) (qs.length + 1) cv, .int .i64 0], by simp [results, Tryd.results69, go_sem, q2, q3], ⟨_, rfl, hm.2.2.1, hm.2.2.2⟩⟩
          · have ho : on = ([], 24) := by rw [hone2.out, hps]; show (if fk = k then _ else _) = _; rw [if_neg e]
            subst ho
            have hkk : (fk.toList == k.toList) = false := by
              rw [beq_eq_false_iff_ne]
              exact fun q => e (array_inj q)
            refine wpIn_wide.2 ?_
            go_quiet (fail)
            gi_wp2
            have hS2 : Cells (((X.drewN nq).setCell ⟨w.heap.size + 1, 0, none⟩ (.slice none 0 0)).setCell ⟨w.heap.size + 1 + 1, 0, none⟩ (.int .i64 24)) (w.heap.size + 1) 42 [.slice none 0 0] := (hF.b2.set 0 _).move (Below.heap_setCell _ _ _ _ (by show w.heap.size + 1 ≠ w.heap.size + 1 + 1; omega))
            have hS3 : Cells (((X.drewN nq).setCell ⟨w.heap.size + 1, 0, none⟩ (.slice none 0 0)).setCell ⟨w.heap.size + 1 + 1, 0, none⟩ (.int .i64 24)) (w.heap.size + 1 + 1) 33 [.int .i64 24] := (Cells.move (w := X.drewN nq) hF.b3 (Below.heap_setCell _ _ _ _ (by show w.heap.size + 1 + 1 ≠ w.heap.size + 1; omega))).set 0 _
            have hSd : (((X.drewN nq).setCell ⟨w.heap.size + 1, 0, none⟩ (.slice none 0 0)).setCell ⟨w.heap.size + 1 + 1, 0, none⟩ (.int .i64 24)).heap[w3.heap.size]? = some (.deferred (some [])) := ((Below.heap_setCell _ _ _ _ N3.2).trans (Below.heap_setCell _ _ _ _ N3.1)).trans hF.dfr
            have hSb : Below w.heap.size w (((X.drewN nq).setCell ⟨w.heap.size + 1, 0, none⟩ (.slice none 0 0)).setCell ⟨w.heap.size + 1 + 1, 0, none⟩ (.int .i64 24)) := ((below_drewN hF.bel nq).setCell (p := ⟨w.heap.size + 1, 0, none⟩) (by show w.heap.size ≤ w.heap.size + 1; omega) _).setCell (p := ⟨w.heap.size + 1 + 1, 0, none⟩) (by show w.heap.size ≤ w.heap.size + 1 + 1; omega) _
            have hm := mark_facts (fs := []) hS2 hS3 hSd hSb H3.out.1.size (RowF.nil _ _ _)
            refine ⟨by simp, .inl ⟨_, _, rfl, run_takeDeferred hSd, ?_⟩⟩
            generalize (((X.drewN nq).setCell ⟨w.heap.size + 1, 0, none⟩ (.slice none 0 0)).setCell ⟨w.heap.size + 1 + 1, 0, none⟩ (.int .i64 24)).putObj w3.heap.size (.deferred none) = XF at hm ⊢
            have q2 := hm.1.cell (i := 0) rfl
            have q3 := hm.2.1.cell (i := 0) rfl
            exact ⟨.tuple #[.slice none 0 0, .int .i64 24], by simp [results, Tryd.results69, go_sem, q2, q3], ⟨_, rfl, hm.2.2.1, hm.2.2.2⟩⟩
      · refine ⟨hv, .inr ⟨x1, ?_⟩⟩
        have ho : on = ([], 24) := by rw [hone2.out, hno]
        subst ho
        have hlt := (Array.getElem?_eq_some_iff.1 x1).1
        have N12 : w.heap.size + 1 ≠ w3.heap.size + 1 ∧ w.heap.size + 1 + 1 ≠ w3.heap.size + 1 := by have := Hr1.out.2.2.2.1.size; have := Hr1.out.2.2.2.2; have := Hw13.out.size; omega
        have hSd : (W2.putObj (w3.heap.size + 1) (rc .exhausted (some .ret))).heap[w3.heap.size]? = some (.deferred (some [])) := (World.putObj_heap_other (by omega)).trans x2
        have hm := mark_facts (fs := []) (x3.move (World.putObj_heap_other (o := rc .exhausted (some .ret)) N12.1)) (x4.move (World.putObj_heap_other N12.2)) hSd (x5.grown (grownBy_putObj' _ _ _) x5.size (fun g e => by cases e; have := H3.out.1.size; omega)) H3.out.1.size (RowF.nil _ _ _)
        gi_wp2
        refine ⟨by simp, .inl ⟨_, _, rfl, run_takeDeferred hSd, ?_⟩⟩
        generalize (W2.putObj (w3.heap.size + 1) (rc .exhausted (some .ret))).putObj w3.heap.size (.deferred none) = XF at hm ⊢
        have q2 := hm.1.cell (i := 0) rfl
        have q3 := hm.2.1.cell (i := 0) rfl
        exact ⟨.tuple #[.slice none 0 0, .int .i64 24], by simp [results, Tryd.results69, go_sem, q2, q3], ⟨_, rfl, hm.2.2.1, hm.2.2.2⟩⟩
end
end Go.Proofs.YtghcfmkmndldoaaDoor

/-
  Open, block by block; rows of facts whose values the call owns, too.
-/
namespace Go.Proofs.YtghcfmkmndldoaaDoor
open Go.RowKit Go.Sort Go.Lib

/-- blocks' facts -/
def goC : List (ByteArray × List UInt8) → List Fc × Nat
  | [] => ([], 0)
  | (k, x) :: qs => if (oneF k x).2 ≠ 0 then ([], (oneF k x).2) else
    if (goC qs).2 ≠ 0 then ([], (goC qs).2) else ((oneF k x).1 ++ (goC qs).1, 0)
theorem goF_cuts : ∀ (ps : List (ByteArray × Nat)) (b : List UInt8), goF ps b = goC (cutsF ps b)
  | [], _ => rfl
  | (k, n) :: ps, b => by
    rw [goF, cutsF, goC, goF_cuts ps]
/-- what comes of the rest where out is told -/
def goR (out : List Fc) (qs : List (ByteArray × List UInt8)) : List Fc × Nat := if (goC qs).2 ≠ 0 then ([], (goC qs).2) else (out ++ (goC qs).1, 0)
theorem goC_err : ∀ (qs : List (ByteArray × List UInt8)), (goC qs).2 ≠ 0 → (goC qs).1 = []
  | [], h => rfl
  | (k, x) :: qs, h => by
    rw [goC] at h ⊢
    split
    · rfl
    · rename_i h1
      rw [if_neg h1] at h
      split
      · rfl
      · rename_i h2
        rw [if_neg h2] at h
        exact absurd rfl h
theorem goR_start (qs : List (ByteArray × List UInt8)) : goR [] qs = goC qs := by
  unfold goR
  by_cases h : (goC qs).2 = 0
  · rw [if_neg (by simp [h]), List.nil_append, ← h]
  · rw [if_pos h]
    exact Prod.ext (goC_err qs h).symm rfl
theorem goR_nil (out : List Fc) : goR out [] = (out, 0) := by simp [goR, goC]
theorem goR_cons (out : List Fc) (k : ByteArray) (x : List UInt8) (qs : List (ByteArray × List UInt8)) : goR out ((k, x) :: qs) = if (oneF k x).2 ≠ 0 then ([], (oneF k x).2) else goR (out ++ (oneF k x).1) qs := by
  unfold goR
  rw [goC]
  by_cases h : (oneF k x).2 = 0
  · by_cases h2 : (goC qs).2 = 0
    · simp [h, h2, List.append_assoc]
    · simp [h, h2]
  · simp [h]
theorem fcsF_len : ∀ (n : Nat) (b : List UInt8) (l : List Fc), b.length ≤ n → fcsF b = some l → l.length ≤ b.length
  | 0, b, l, hn, h => by
    have : b = [] := List.eq_nil_of_length_eq_zero (by omega)
    subst this
    rw [fcsF_nil] at h
    cases h
    exact Nat.le_refl _
  | n + 1, b, l, hn, h => by
    by_cases hb : b = []
    · subst hb
      rw [fcsF_nil] at h
      cases h
      exact Nat.le_refl _
    · cases hr : rdF b with
      | none => rw [fcsF_none hb hr] at h; cases h
      | some p =>
        obtain ⟨f, m⟩ := p
        rw [fcsF_some hb hr] at h
        have h1 := rdF_ok hr
        cases hq : fcsF (b.drop m) with
        | none => rw [hq] at h; cases h
        | some l' =>
          rw [hq] at h
          have := fcsF_len n (b.drop m) l' (by rw [List.length_drop]; omega) hq
          rw [List.length_drop] at this
          cases h
          rw [List.length_cons]
          omega
theorem unF_len {b x : List UInt8} (h : unF b = some x) : x.length ≤ b.length := by
  unfold unF at h
  split at h
  · cases h
    rw [List.length_drop]
    omega
  · cases h
theorem oneF_len (k : ByteArray) (x : List UInt8) : (oneF k x).1.length ≤ x.length := by
  unfold oneF
  split
  · exact Nat.zero_le _
  · rename_i y hy
    have h1 := unF_len hy
    split
    · rename_i f l hq
      have := fcsF_len _ _ _ (Nat.le_refl _) hq
      split
      · dsimp only; omega
      · exact Nat.zero_le _
    · exact Nat.zero_le _
def sumC (qs : List (ByteArray × List UInt8)) : Nat := (qs.map fun q => q.2.length).sum
theorem sumC_cuts : ∀ (ps : List (ByteArray × Nat)) (b : List UInt8), sumC (cutsF ps b) ≤ b.length
  | [], _ => Nat.zero_le _
  | (k, n) :: ps, b => by
    have := sumC_cuts ps (b.drop n)
    rw [List.length_drop] at this
    unfold sumC at this ⊢
    rw [cutsF, List.map_cons, List.sum_cons, List.length_take]
    omega
theorem partsF_len : ∀ (n : Nat) (x : List UInt8) (left : Nat) (ps : List (ByteArray × Nat)), x.length ≤ n → partsF x left = some ps → ps.length ≤ x.length
  | 0, x, left, ps, hn, h => by
    have : x = [] := List.eq_nil_of_length_eq_zero (by omega)
    subst this
    rw [partsF_nil] at h
    split at h
    · cases h; exact Nat.le_refl _
    · cases h
  | n + 1, x, left, ps, hn, h => by
    by_cases hx : x = []
    · subst hx
      rw [partsF_nil] at h
      split at h
      · cases h; exact Nat.le_refl _
      · cases h
    · cases hr : entR x left with
      | none => rw [partsF_none hx hr] at h; cases h
      | some p =>
        obtain ⟨q, m⟩ := p
        rw [partsF_some hx hr] at h
        have h1 := entR_ok hr
        cases hq : partsF (x.drop m) (left - q.2) with
        | none => rw [hq] at h; cases h
        | some ps' =>
          rw [hq] at h
          have := partsF_len n (x.drop m) _ ps' (by rw [List.length_drop]; omega) hq
          rw [List.length_drop] at this
          cases h
          rw [List.length_cons]
          omega
theorem cutsF_len : ∀ (ps : List (ByteArray × Nat)) (b : List UInt8), (cutsF ps b).length = ps.length
  | [], _ => rfl
  | (k, n) :: ps, b => by rw [cutsF, List.length_cons, List.length_cons, cutsF_len ps]
/-- what a table holds, over what its ends tell -/
theorem openF_err {b : List UInt8} (h : endsE b ≠ 0) : openF b = ([], endsE b) := by
  unfold openF endsE at *
  dsimp only at *
  split
  · rfl
  · rename_i h1
    rw [if_neg h1] at h
    split
    · rfl
    · rename_i h2
      rw [if_neg h2] at h
      split
      · rfl
      · rename_i h3
        rw [if_neg h3] at h
        cases hu : unF ((b.take (b.length - 12)).drop (b.length - 12 - leNat ((b.drop (b.length - 12)).take 4))) with
        | none => simp
        | some x => rw [hu] at h; simp at h
theorem openF_ok (b x : List UInt8) (m cnt : Nat) (h : endsE b = 0) (hm : m = b.length - 12 - leNat ((b.drop (b.length - 12)).take 4)) (hcnt : cnt = leNat (((b.drop (b.length - 12)).drop 4).take 4))
    (hx : unF ((b.take (b.length - 12)).drop (b.length - 12 - leNat ((b.drop (b.length - 12)).take 4))) = some x) :
    openF b = match partsF x m with
      | none => ([], 24)
      | some ps => if (goC (cutsF ps (b.take m))).2 ≠ 0 then ([], (goC (cutsF ps (b.take m))).2) else
        if (goC (cutsF ps (b.take m))).1.length = cnt ∧ rightF (goC (cutsF ps (b.take m))).1 = true then ((goC (cutsF ps (b.take m))).1, 0) else ([], 24) := by
  subst hm
  subst hcnt
  have hg : ∀ ps, goF ps ((b.take (b.length - 12)).take (b.length - 12 - leNat ((b.drop (b.length - 12)).take 4))) = goC (cutsF ps (b.take (b.length - 12 - leNat ((b.drop (b.length - 12)).take 4)))) := fun ps => by
    rw [goF_cuts, List.take_take, Nat.min_eq_left (by omega)]
  have hg2 : ∀ ps, goF ps (b.take (b.length - 12 - leNat ((b.drop (b.length - 12)).take 4))) = goC (cutsF ps (b.take (b.length - 12 - leNat ((b.drop (b.length - 12)).take 4)))) := fun ps => goF_cuts _ _
  unfold openF
  unfold endsE at h
  dsimp only at *
  by_cases h1 : b.length < 12
  · rw [if_pos h1] at h; cases h
  · rw [if_neg h1] at h ⊢
    by_cases h2 : leNat (((b.drop (b.length - 12)).drop 8).take 4) ≠ sumOf ((b.drop (b.length - 12)).take 8)
    · rw [if_pos h2] at h; cases h
    · rw [if_neg h2] at h ⊢
      by_cases h3 : b.length - 12 < leNat ((b.drop (b.length - 12)).take 4)
      · rw [if_pos h3] at h; cases h
      · rw [if_neg h3] at h ⊢
        rw [hx]
        dsimp only
        cases partsF x (b.length - 12 - leNat ((b.drop (b.length - 12)).take 4)) with
        | none => rfl
        | some ps => dsimp only; rw [hg2]

/-- THE CALL OWNS v, a slice of facts, and each fact's value -/
def RowO (w : World) (base : Nat) (v : Value) (fs : List Fc) : Prop := RowF w base v fs (Own w base)
section
variable {w w' w0 : World} {B base : Nat} {v v' u V : Value} {fs gs : List Fc} {qs : List (ByteArray × List UInt8)} {k : ByteArray} {x : List UInt8}
theorem RowO.nil (w : World) (base : Nat) : RowO w base (.slice none 0 0) [] := RowF.nil _ _ _
theorem RowO.below (h : RowO w base v fs) (hb : Below w.heap.size w w') : RowO w' base v fs := (RowF.below h hb).mono fun V x hO => hO.below hb
theorem RowO.wide (h : RowO w base v fs) (hb : B ≤ base) : RowO w B v fs := (h.wideB hb).mono fun V x hO => hO.wide hb
theorem RowO.drewN (h : RowO w base v fs) (n : Nat) : RowO (w.drewN n) base v fs := h
theorem RowO.rd (h : RowO w base v fs) : ∃ A c, v = .slice A fs.length c ∧ fs.length ≤ c ∧ (A = none → c = 0) ∧ RF w w.heap.size A fs ∧ ∀ b o, A = some ⟨b, o, none⟩ → base ≤ b := RowF.rd h fun V x hO => Vb.own hO
/-- a row of facts is no slice of bytes -/
theorem Own.notRow {ps : List (Fc × Value)} (h : Own w base V x) (hr : w.ownsRow base 40 3 v ps.length (cellsF ps)) : ∀ g, V.ownBlock = some g → v.ownBlock ≠ some g := fun g hg e => by
  rcases h.2 with ⟨e1, _⟩ | ⟨g', cap, cur, e1, _, hh, _⟩
  · rw [e1] at hg; cases hg
  · rw [e1] at hg
    cases hg
    rcases hr.2 with ⟨e2, _⟩ | ⟨g2, cap2, cur2, e2, _, hh2, _⟩
    · rw [e2] at e; cases e
    · rw [e2] at e
      cases e
      rw [hh] at hh2
      injection hh2 with hh2
      injection hh2 with _ h4 _
      revert h4
      decide
/-- append(v, u...) of rows that the call owns -/
theorem app_rowO {ops : Array Oper} {rest : List Oper} {o : Oper} {a : Act} {Q : Exit → Act → World → Prop} (hgd : o.guard = none) (s y : Operand)
    (ho : o.op = .call { callee := .builtin .append, args := #[s, y], argTypes := #[42, 42] })
    (hs : a.eval s = v) (hrow : RowO w base v fs) (hy : a.eval y = u) (hq : RowO w base u gs) (hlen : fs.length + gs.length ≤ 1099511627776) (hbase : base ≤ w.heap.size)
    (h : ∀ v' w', RowO w' base v' (fs ++ gs) → Below base w w' → wpList Tryd.prog ops Q rest (a.put o.dst v') w') :
    wpList Tryd.prog ops Q (o :: rest) a w := by
  obtain ⟨ps, e1, h1, h2⟩ := hrow
  obtain ⟨qs, e2, h3, h4⟩ := hq
  have l1 : fs.length = ps.length := by rw [← e1, List.length_map]
  have l2 : gs.length = qs.length := by rw [← e2, List.length_map]
  obtain ⟨A, c, rfl, _, _, _⟩ := ownF_shape h3
  have hrp : RP w w.heap.size A qs := by
    rcases h3.2 with ⟨hu, h0⟩ | ⟨g, cap, cur, hu, hb, hg, hn, _⟩
    · have : qs = [] := List.eq_nil_of_length_eq_zero h0
      subst this
      intro k p hk
      simp at hk
    · cases hu
      intro k p hk
      obtain ⟨c0, c1, c2⟩ := cellsF_get qs k p hk
      have q0 := World.ownsRow.cells (e := 40) (size := 3) h3 rfl (k * 3) _ c0
      have q1 := World.ownsRow.cells (e := 40) (size := 3) h3 rfl (k * 3 + 1) _ c1
      have q2 := World.ownsRow.cells (e := 40) (size := 3) h3 rfl (k * 3 + 2) _ c2
      rw [add_flat] at q0 q1 q2
      exact ⟨g, 0, rfl, (Array.getElem?_eq_some_iff.1 hg).1, q0, q1, q2⟩
  refine app_facts hgd s y ho hs h1 qs.length c hy rfl hrp (fun p hp => (Vb.own (h4 p hp).1).one) (by omega) hbase fun v' w' r1 r2 r3 => h v' w' ⟨ps ++ qs, by rw [List.map_append, e1, e2], r1, fun p hp => ?_⟩ ((Below.refl _ _).grown r2 hbase fun k hk => (World.ownsRow.lt h1 k hk).1)
  have hmv : ∀ {V2 : Value} {x2 : List UInt8}, Own w base V2 x2 → Own w' base V2 x2 := fun hO => hO.move fun g hg => r2.block g (hO.lt g hg).2 (fun e => hO.notRow h1 g hg e.symm)
  rcases List.mem_append.1 hp with hp | hp
  · exact ⟨hmv (h2 p hp).1, (h2 p hp).2⟩
  · exact ⟨hmv (h4 p hp).1, (h4 p hp).2⟩
theorem RowQ.at_ (h : RowQ w base v qs w0 B) {i : Nat} (hi : qs[i]? = some (k, x)) : ∃ g o c V, v = .slice (some ⟨g, o, none⟩) qs.length c ∧ w.cell? ⟨g, o + i * 2, none⟩ = some (.string k) ∧ w.cell? ⟨g, o + i * 2 + 1, none⟩ = some V ∧ Vb w0 B V x ∧ base ≤ g ∧ g < w.heap.size := by
  obtain ⟨ps, e, ho, hv⟩ := h
  have hl : qs.length = ps.length := by rw [← e, List.length_map]
  have hi2 : (ps[i]?).map Prod.fst = some (k, x) := by rw [← hi, ← e, List.getElem?_map]
  obtain ⟨p, hp, hp2⟩ := Option.map_eq_some_iff.1 hi2
  obtain ⟨⟨k', x'⟩, V⟩ := p
  cases hp2
  rcases ho.2 with ⟨rfl, h0⟩ | ⟨g, cap, cur, rfl, hb, hg, hn, _⟩
  · have : ps = [] := List.eq_nil_of_length_eq_zero h0
    subst this
    simp at hp
  · obtain ⟨c0, c1⟩ := cellsP_get ps i _ hp
    have q0 := World.ownsRow.cells (e := 128) (size := 2) ho rfl (i * 2) _ c0
    have q1 := World.ownsRow.cells (e := 128) (size := 2) ho rfl (i * 2 + 1) _ c1
    rw [add_flat] at q0 q1
    exact ⟨g, 0, cap, V, by rw [hl], q0, q1, hv _ (List.mem_of_getElem? hp), hb, (Array.getElem?_eq_some_iff.1 hg).1⟩
end
end Go.Proofs.YtghcfmkmndldoaaDoor

/-
  Open.
-/
namespace Go.Proofs.YtghcfmkmndldoaaDoor
open Go.RowKit Go.Sort Go.Lib

/-- what Open answers where there is no error: a table in a block of the call's own, which holds the facts -/
def OpenP (w w' : World) (v : Value) (r : List Fc × Nat) : Prop :=
  (r.2 ≠ 0 → v = .pointer none) ∧ (r.2 = 0 → ∃ g u, v = .pointer (some ⟨g, 0, none⟩) ∧ w.heap.size ≤ g ∧ g < w'.heap.size ∧ Cells w' g 131 [u] ∧ RowO w' w.heap.size u r.1)
/-- what a table whose ends are right holds -/
def OpenD (b : List UInt8) (R : List Fc × Nat) : Prop := ∀ (x : List UInt8) (m cnt : Nat), m = b.length - 12 - leNat ((b.drop (b.length - 12)).take 4) → cnt = leNat (((b.drop (b.length - 12)).drop 4).take 4) → unF ((b.take (b.length - 12)).drop (b.length - 12 - leNat ((b.drop (b.length - 12)).take 4))) = some x →
    R = match partsF x m with
      | none => ([], 24)
      | some ps => if (goC (cutsF ps (b.take m))).2 ≠ 0 then ([], (goC (cutsF ps (b.take m))).2) else
        if (goC (cutsF ps (b.take m))).1.length = cnt ∧ rightF (goC (cutsF ps (b.take m))).1 = true then ((goC (cutsF ps (b.take m))).1, 0) else ([], 24)
def OpenE (l : List UInt8) (er : Nat) (R : List Fc × Nat) : Prop := er = 0 → OpenD l R
/-- where the loop of Open stands -/
structure OSt (w2 wr : World) (lv : Value) (qs : List (ByteArray × List UInt8)) (i M : Nat) (R : List Fc × Nat) (out : List Fc) : Prop where
  row : RowO wr w2.heap.size lv out
  res : goR out (qs.drop i) = R
  len : out.length + sumC (qs.drop i) ≤ M
  bel : Below w2.heap.size w2 wr
section
set_option maxRecDepth 100000
set_option maxHeartbeats 8000000
theorem open_any (A : Option Addr) (c : Nat) (l : List UInt8) (w : World) (ht : Tab w) (hr : RB w w.heap.size A l) (hl : l.length ≤ 1099511627776) (hc : l.length ≤ c) :
    Calls Tryd.prog 30 #[.slice A l.length c] w fun e w' => ∃ v, e = .returned (.tuple #[v, .int .i64 ((openF l).2 : Nat)]) ∧ OpenP w w' v (openF l) ∧ Below w.heap.size w w' := by
  have HE := Lib.hid (ends_any A c l w ht hr hl hc)
  have Herr := Lib.hid (@openF_err l)
  have Hok : Hid (OpenE l (endsE l) (openF l)) := fun h x m cnt h1 h2 h3 => openF_ok l x m cnt h h1 h2 h3
  have Hl := Lib.hid hl
  have Ht := Lib.hid ht
  obtain ⟨er, her⟩ : ∃ er, er = endsE l := ⟨_, rfl⟩
  rw [← her] at HE Herr Hok
  obtain ⟨R0, hR0⟩ : ∃ R0, R0 = openF l := ⟨_, rfl⟩
  rw [← hR0] at Herr Hok ⊢
  generalize hn : l.length = n at HE ⊢
  have Hn := Lib.hid hn
  clear hr hl hc ht her hR0 hn
  by_cases he : er = 0
  · subst he
    have Hok := Lib.hid (Hok.out rfl)
    go_enter Tryd.func30, Tryd.ntmps30
    go_wp2_with fail
    refine HE.out.mono ?_
    rintro e w1 ⟨A1, A2, n1, n2, c1, c2, cnt, rfl, hb1, g1, g2, g3, g4, hP⟩
    obtain ⟨p1, p2, p3, x, p4, p5, p6⟩ := hP rfl
    have hop := Hok.out _ _ _ p2 p3 p4
    have hcnt : cnt < 4294967296 := by rw [p3]; exact leNat_lt4 _ (by rw [List.length_take]; omega)
    have hxl : x.length ≤ n := by
      have h1 := unF_len p4
      rw [List.length_drop, List.length_take] at h1
      have := Hn.out
      omega
    rw [← p2] at p1
    obtain ⟨body, hbody⟩ : ∃ body, body = l.take n1 := ⟨_, rfl⟩
    rw [← hbody] at p1 hop
    have hbl : body.length = n1 := by rw [hbody, List.length_take]; omega
    have hn1 : n1 ≤ n := by have := Hn.out; omega
    have Hb1 := Lib.hid hb1
    have HPa : Hid (Calls Tryd.prog 68 #[.slice A1 n1 c1, .slice A2 n2 c2] w1 fun e w' => ∃ A n c, e = .returned (.tuple #[.slice A n c, .bool (partsF x n1).isSome]) ∧ PartedP body x w1 w' (.slice A n c) ∧ Below w1.heap.size w1 w') := by
      have := parted_any A1 A2 c1 c2 body x w1 ((p1.below hb1).wide hb1.size) p6 (by omega) (by omega) g3 g4 (by have := Hl.out; have := Hn.out; omega) (by have := Hl.out; have := Hn.out; omega)
      rw [hbl, ← p5] at this
      exact this
    have HPd : Hid (∀ w' v, PartedP body x w1 w' v = ∀ ps, partsF x n1 = some ps → RowQ w' w1.heap.size v (cutsF ps body) w1 w1.heap.size) := fun w' v => by show (∀ ps, _ → _) = _; rw [hbl]
    have Hop := Lib.hid hop
    have Hcnt := Lib.hid hcnt
    have Hbl : Hid (body.length ≤ 1099511627776) := by show _ ≤ _; have := Hl.out; have := Hn.out; omega
    have HpL : Hid (∀ ps, partsF x n1 = some ps → ps.length ≤ 1099511627776) := fun ps h => by
      have := partsF_len _ x n1 ps (Nat.le_refl _) h
      have := Hl.out; have := Hn.out; omega
    clear hP p1 p2 p3 p4 p5 p6 hop hcnt hxl hbody hbl hb1 HE Herr Hok g1 g2 g3 g4
    generalize partsF x n1 = po at *
    rcases po with _ | ps
    · have hR : R0 = ([], 24) := Hop.out
      subst hR
      clear Hop HPd HpL
      go_wp2_with fail
      refine HPa.out.mono ?_
      rintro e w2 ⟨A3, n3, c3, rfl, _, hb2⟩
      have H2 : Hid (Below w.heap.size w w2) := Hb1.out.trans (hb2.mono Hb1.out.size)
      clear hb2 HPa
      go_wp2_with fail
      exact bodyPost_ret (v := .tuple #[.pointer none, .int .i64 24]) (by simp [results, Tryd.results30, go_sem]) rfl ⟨_, rfl, ⟨fun _ => rfl, fun h => by cases h⟩, H2.out⟩
    · have Hop2 : Hid (R0 = if (goC (cutsF ps body)).2 ≠ 0 then ([], (goC (cutsF ps body)).2) else if (goC (cutsF ps body)).1.length = cnt ∧ rightF (goC (cutsF ps body)).1 = true then ((goC (cutsF ps body)).1, 0) else ([], 24)) := Hop.out
      have hsum := sumC_cuts ps body
      have hql : (cutsF ps body).length ≤ 1099511627776 := by rw [cutsF_len]; exact HpL.out ps rfl
      have HPq : Hid (∀ w' v, PartedP body x w1 w' v → RowQ w' w1.heap.size v (cutsF ps body) w1 w1.heap.size) := fun w' v h => by
        rw [HPd.out w' v] at h
        exact h ps rfl
      obtain ⟨qs, hqs⟩ : ∃ qs, qs = cutsF ps body := ⟨_, rfl⟩
      rw [← hqs] at Hop2 hsum HPq hql
      have hst := goR_start qs
      obtain ⟨RC, hRC⟩ : ∃ RC, RC = goC qs := ⟨_, rfl⟩
      rw [← hRC] at hst Hop2
      have Hst := Lib.hid hst
      have Hsum := Lib.hid hsum
      have Hql := Lib.hid hql
      clear hql HpL hqs hsum hst hRC Hop HPd
      go_wp2_with fail
      refine HPa.out.mono ?_
      rintro e w2 ⟨A3, n3, c3, rfl, hq3, hb2⟩
      have hq := HPq.out _ _ hq3
      have H2 : Hid (Below w.heap.size w w2 ∧ Below w1.heap.size w1 w2) := ⟨Hb1.out.trans (hb2.mono Hb1.out.size), hb2⟩
      obtain ⟨A3', c3', e3, hc3⟩ := hq.shape
      cases e3
      obtain ⟨nq, hnq⟩ : ∃ nq, nq = qs.length := ⟨_, rfl⟩
      rw [← hnq] at hq ⊢
      have Hq := Lib.hid hq
      have Hnq := Lib.hid hnq
      have Hlen : Hid (∀ i : Nat, i < nq → ∃ q, qs[i]? = some q) := fun i hi => ⟨_, List.getElem?_eq_getElem (by rw [← hnq]; exact hi)⟩
      have hnql : (nq : Int) ≤ 1099511627776 := by have := Hql.out; omega
      clear hq hq3 hb2 HPa hc3 hnq HPq
      go_wp2_with fail
      go_loopw [10, 35] (fun lv iv wr => ∃ (i : Nat) (out : List Fc), iv = .int .i64 (i : Int) ∧ i ≤ nq ∧ Hid (OSt w2 wr lv qs i body.length RC out)) (fun _ iv _ => nq - (intOf iv).toNat)
      case atStart => exact ⟨0, [], rfl, Nat.zero_le _, ⟨RowO.nil _ _, Hst.out, by simpa using Hsum.out, Below.refl _ _⟩⟩
      case round =>
        obtain ⟨i, out, rfl, hi, hst⟩ := hrel
        obtain ⟨Al, cl, rfl, hcl, _⟩ := hst.out.row.shape
        by_cases hlt : i < nq
        · obtain ⟨⟨k, x'⟩, hqi⟩ := Hlen.out i hlt
          have hlt' : (i : Int) < (nq : Int) := by omega
          obtain ⟨g, o, cq, V, e3, q0, q1, ⟨Av, cv, rfl, v1, v2, v3⟩, q4, q5⟩ := (Hq.out.below hst.out.bel).at_ hqi
          cases e3
          have hdrop : qs.drop i = (k, x') :: qs.drop (i + 1) := by
            have h1 := List.getElem?_eq_some_iff.1 hqi
            rw [List.drop_eq_getElem_cons h1.1, h1.2]
          have hres := hst.out.res
          have hlen := hst.out.len
          have hol := oneF_len k x'
          rw [hdrop, goR_cons] at hres
          rw [hdrop] at hlen
          have hlen2 : out.length + x'.length + sumC (qs.drop (i + 1)) ≤ body.length := by
            unfold sumC at hlen ⊢
            rw [List.map_cons, List.sum_cons] at hlen
            dsimp only at hlen
            omega
          have HF : Hid (∀ W, Below w2.heap.size w2 W → Calls Tryd.prog 69 #[.agg #[.string k, .slice Av x'.length cv]] W fun e w' => ∃ v, e = .returned (.tuple #[v, .int .i64 ((oneF k x').2 : Nat)]) ∧ RowO w' w2.heap.size v (oneF k x').1 ∧ Below W.heap.size W w') := fun W hW => by
            have hbw : Below w1.heap.size w1 W := H2.out.2.trans (hW.mono H2.out.2.size)
            have hbw0 : Below w.heap.size w W := H2.out.1.trans (hW.mono H2.out.1.size)
            refine Calls.mono (facts_any k Av cv x' W (Ht.out.below hbw0 Ht.out.pos) ((v3.below hbw).wide hbw.size) (by have := Hbl.out; omega) v1 v2) ?_
            rintro e w' ⟨v, rfl, r1, r2⟩
            exact ⟨v, rfl, RowO.wide r1 hW.size, r2⟩
          have Hres := Lib.hid hres
          have Hlen2 : Hid (out.length + x'.length + sumC (qs.drop (i + 1)) ≤ body.length ∧ (oneF k x').1.length ≤ x'.length) := ⟨hlen2, hol⟩
          generalize oneF k x' = on at *
          obtain ⟨of, oe⟩ := on
          dsimp only at HF Hres Hlen2
          have Hst2 := hst
          clear hst hres hlen hlen2 hol hdrop hqi v1 v2 v3 q4 q5 Hq
          have hBW : Below w2.heap.size w2 (wr.alloc (.cells #[.string k, .slice Av x'.length cv] 128)) := Hst2.out.bel.alloc Hst2.out.bel.size _
          have HBW := Lib.hid hBW
          have HrowW : Hid (RowO (wr.alloc (.cells #[.string k, .slice Av x'.length cv] 128)) w2.heap.size (.slice Al out.length cl) out) := RowO.below Hst2.out.row ((Below.refl _ _).alloc (Nat.le_refl _) _)
          have hcW := Cells.new wr #[.string k, .slice Av x'.length cv] 128
          have z0 := hcW.cell (i := 0) rfl
          have z1 := hcW.cell (i := 1) rfl
          clear hBW hcW Hst2
          by_cases hoe : oe = 0
          · subst hoe
            have Hres2 : Hid (goR (out ++ of) (qs.drop (i + 1)) = RC) := by
              show _ = _
              have := Hres.out
              rw [if_neg (by simp)] at this
              exact this
            clear Hres Hop2
            go_wp2_with fail
            refine (HF.out _ HBW.out).mono ?_
            rintro e w3 ⟨v3, rfl, ho3, hb3⟩
            have H3 : Hid (Below w2.heap.size w2 w3 ∧ RowO w3 w2.heap.size (.slice Al out.length cl) out ∧ RowO w3 w2.heap.size v3 of) := ⟨HBW.out.trans (hb3.mono HBW.out.size), RowO.below HrowW.out hb3, ho3⟩
            clear ho3 hb3 HF HrowW
            go_wp2_with (at_builtin; go_must (refine app_rowO rfl (.tmp 47) (.tmp 48) rfl rfl H3.out.2.1 rfl H3.out.2.2 (by have := Hlen2.out; have := Hbl.out; omega) H3.out.1.size ?_); intro v4 w4 r4 b4; have H4 : Hid (RowO w4 w2.heap.size v4 (out ++ of) ∧ Below w2.heap.size w2 w4) := ⟨r4, H3.out.1.trans b4⟩; clear r4 b4)
            go_roundw
            case rel => exact ⟨i + 1, out ++ of, by go_num, by omega, ⟨H4.out.1, Hres2.out, by have := Hlen2.out; rw [List.length_append]; omega, H4.out.2⟩⟩
            case measure => simp [intOf]; omega
          · have hRC : RC = ([], oe) := by
              have := Hres.out
              rw [if_pos hoe] at this
              exact this.symm
            have hR : R0 = ([], oe) := by rw [Hop2.out, hRC, if_pos hoe]
            subst hR
            have ho' : ¬ (oe : Int) = 0 := by omega
            have ho2 : ((oe : Int) != 0) = true := by rw [bne_iff_ne]; exact ho'
            clear Hres Hop2 hRC
            go_wp2_with fail
            refine (HF.out _ HBW.out).mono ?_
            rintro e w3 ⟨v3, rfl, ho3, hb3⟩
            have H3 : Hid (Below w.heap.size w w3) := H2.out.1.trans ((HBW.out.trans (hb3.mono HBW.out.size)).mono H2.out.1.size)
            clear ho3 hb3 HF HrowW
            go_wp2_with fail
            exact bodyPost_ret (v := .tuple #[.pointer none, .int .i64 (oe : Int)]) (by simp [results, Tryd.results30, go_sem]) rfl ⟨_, rfl, ⟨fun _ => rfl, fun h => absurd h hoe⟩, H3.out⟩
        · obtain rfl : i = nq := by omega
          have hRC : RC = (out, 0) := by
            have := hst.out.res
            rw [Hnq.out, List.drop_eq_nil_of_le (Nat.le_refl _), goR_nil] at this
            exact this.symm
          have HR2 : Hid (R0 = if out.length = cnt ∧ rightF out = true then (out, 0) else ([], 24)) := by show _ = _; rw [Hop2.out, hRC]; simp
          have hol : out.length ≤ 1099511627776 := by have := hst.out.len; have := Hbl.out; omega
          have hwl : IntKind.u64.wrap (out.length : Int) = (out.length : Int) := by rw [IntKind.wrap_u64]; omega
          have hwc : IntKind.u64.wrap (cnt : Int) = (cnt : Int) := by rw [IntKind.wrap_u64]; have := Hcnt.out; omega
          obtain ⟨A8, c8, e8, _, _, hrf, _⟩ := RowO.rd hst.out.row
          cases e8
          have HRt := Lib.hid (right_any Al cl out wr hol hrf)
          have H4 : Hid (RowO wr w2.heap.size (.slice Al out.length cl) out ∧ Below w2.heap.size w2 wr ∧ Below w.heap.size w wr) := ⟨hst.out.row, hst.out.bel, H2.out.1.trans (hst.out.bel.mono H2.out.1.size)⟩
          have Hbs := Lib.hid H2.out.1.size
          obtain ⟨no, hno⟩ : ∃ no, no = out.length := ⟨_, rfl⟩
          rw [← hno] at hwl HRt HR2 H4 hcl ⊢
          clear hst Hop2 Hok hol hrf hRC Hq hno
          by_cases hcn : no = cnt
          · subst hcn
            cases hri : rightF out with
            | true =>
              obtain rfl : R0 = (out, 0) := by rw [HR2.out, if_pos ⟨rfl, hri⟩]
              rw [hri] at HRt
              clear HR2 hri
              go_wp2_with fail
              refine HRt.out.mono ?_
              rintro e w5 ⟨rfl, hg5⟩
              have H5 : Hid (RowO w5 w2.heap.size (.slice Al no cl) out ∧ Below w.heap.size w w5 ∧ w.heap.size ≤ w2.heap.size) := ⟨RowO.below H4.out.1 hg5.below, H4.out.2.2.trans (hg5.below.mono H4.out.2.2.size), Hbs.out⟩
              clear hg5 H4 HRt
              go_wp2_with fail
              exact bodyPost_ret (v := .tuple #[.pointer (some ⟨w5.heap.size, 0, none⟩), .int .i64 0]) (by simp [results, Tryd.results30, go_sem]) rfl ⟨_, rfl, ⟨fun h => absurd rfl h, fun _ => ⟨w5.heap.size, .slice Al no cl, rfl, H5.out.2.1.size, by simp, Cells.new w5 _ _, RowO.wide (RowO.below H5.out.1 ((Below.refl _ _).alloc (Nat.le_refl _) _)) H5.out.2.2⟩⟩, H5.out.2.1.alloc H5.out.2.1.size _⟩
            | false =>
              obtain rfl : R0 = ([], 24) := by rw [HR2.out, if_neg (by simp [hri])]
              rw [hri] at HRt
              clear HR2 hri
              go_wp2_with fail
              refine HRt.out.mono ?_
              rintro e w5 ⟨rfl, hg5⟩
              have H5 : Hid (Below w.heap.size w w5) := H4.out.2.2.trans (hg5.below.mono H4.out.2.2.size)
              clear hg5 H4 HRt
              go_wp2_with fail
              exact bodyPost_ret (v := .tuple #[.pointer none, .int .i64 24]) (by simp [results, Tryd.results30, go_sem]) rfl ⟨_, rfl, ⟨fun _ => rfl, fun h => by cases h⟩, H5.out⟩
          · obtain rfl : R0 = ([], 24) := by rw [HR2.out, if_neg (fun h => hcn h.1)]
            have hcn' : ¬ (no : Int) = (cnt : Int) := by omega
            have hcn2 : ((no : Int) != (cnt : Int)) = true := by rw [bne_iff_ne]; exact hcn'
            clear HR2 HRt
            go_wp2_with fail
            exact bodyPost_ret (v := .tuple #[.pointer none, .int .i64 24]) (by simp [results, Tryd.results30, go_sem]) rfl ⟨_, rfl, ⟨fun _ => rfl, fun h => by cases h⟩, H4.out.2.2⟩
  · have hR := Herr.out he
    subst hR
    have he' : ¬ (er : Int) = 0 := by omega
    have he2 : ((er : Int) != 0) = true := by rw [bne_iff_ne]; exact he'
    clear Hok Herr
    go_enter Tryd.func30, Tryd.ntmps30
    go_wp2_with fail
    refine HE.out.mono ?_
    rintro e w1 ⟨A1, A2, n1, n2, c1, c2, cnt, rfl, hb1, g1, g2, g3, g4, hP⟩
    have H1 := Lib.hid hb1
    clear hb1 hP
    go_wp2_with fail
    exact bodyPost_ret (v := .tuple #[.pointer none, .int .i64 (er : Int)]) (by simp [results, Tryd.results30, go_sem]) rfl ⟨_, rfl, ⟨fun _ => rfl, fun h => absurd h he⟩, H1.out⟩
end
end Go.Proofs.YtghcfmkmndldoaaDoor

/-
  The law's Few; Len.
-/
namespace Go.Proofs.YtghcfmkmndldoaaDoor
open Go.RowKit Go.Sort Go.Lib

def sumF (fs : List Fc) : Nat := (fs.map fun f => f.1.size + f.2.2.length).sum
theorem sumF_append (a b : List Fc) : sumF (a ++ b) = sumF a + sumF b := by simp [sumF]
theorem sumF_take {fs : List Fc} {i : Nat} {f : Fc} (h : fs[i]? = some f) : sumF (fs.take (i + 1)) = sumF (fs.take i) + (f.1.size + f.2.2.length) := by
  rw [List.take_add_one, h, sumF_append]
  simp [sumF]
theorem sumF_le (fs : List Fc) (i : Nat) : sumF (fs.take i) ≤ sumF fs := by
  have := sumF_append (fs.take i) (fs.drop i)
  rw [List.take_append_drop] at this
  omega
section
set_option maxRecDepth 100000
set_option maxHeartbeats 4000000
theorem few_any (A : Option Addr) (c : Nat) (fs : List Fc) (m : Int) (w : World) (hl : fs.length ≤ 1099511627776) (hs : sumF fs ≤ 4611686018427387904) (hr : RF w w.heap.size A fs) :
    Calls Tryd.prog 20 #[.slice A fs.length c, .int .i64 m] w fun e w' => e = .returned (.bool (decide ((fs.length : Int) ≤ m) && decide (sumF fs ≤ 131072))) ∧ Below w.heap.size w w' := by
  have Hr := Lib.hid hr
  have hl' : ((fs.length : Nat) : Int) ≤ 1099511627776 := by omega
  have Hlen : Hid (∀ k : Nat, k < fs.length → ∃ u, fs[k]? = some u) := fun k hk => ⟨_, List.getElem?_eq_getElem hk⟩
  obtain ⟨n, hn⟩ : ∃ n, n = fs.length := ⟨_, rfl⟩
  rw [← hn] at hl' Hlen ⊢
  have Hn := Lib.hid hn
  have Hs := Lib.hid hs
  obtain ⟨sf, hsf⟩ : ∃ sf, sf = sumF fs := ⟨_, rfl⟩
  rw [← hsf] at Hs ⊢
  have Hsf := Lib.hid hsf
  clear hr hl hn hs hsf
  go_enter Tryd.func20, Tryd.ntmps20
  go_wp2_with fail
  go_loopw [5, 6] (fun tv iv wr => ∃ i : Nat, iv = .int .i64 (i : Int) ∧ i ≤ n ∧ tv = .int .i64 ((sumF (fs.take i) : Nat) : Int) ∧ Hid (Below w.heap.size w wr)) (fun _ iv _ => n - (intOf iv).toNat)
  case atStart => exact ⟨0, rfl, Nat.zero_le _, rfl, Below.refl _ _⟩
  case round =>
    obtain ⟨i, rfl, hi, rfl, hg⟩ := hrel
    by_cases hlt : i < n
    · obtain ⟨f, hf⟩ := Hlen.out i hlt
      obtain ⟨b, o, V, rfl, hblt, c0, c1, c2, ⟨A2, cv, rfl, _⟩, _⟩ := (Hr.out.below hg.out).at_ hf
      have hlt' : (i : Int) < (n : Int) := by omega
      have ht := sumF_take hf
      have hle := sumF_le fs (i + 1)
      rw [← Hsf.out] at hle
      obtain ⟨k, s, x⟩ := f
      dsimp only at c0 c1 c2 ht
      generalize sumF (fs.take i) = tt at *
      have hw1 : IntKind.i64.wrap ((tt : Int) + (k.size : Int)) = (tt : Int) + (k.size : Int) := by rw [IntKind.wrap_i64]; have := Hs.out; omega
      have hw2 : IntKind.i64.wrap ((tt : Int) + (k.size : Int) + (x.length : Int)) = (tt : Int) + (k.size : Int) + (x.length : Int) := by rw [IntKind.wrap_i64]; have := Hs.out; omega
      have Ht : Hid ((tt : Int) + (k.size : Int) + (x.length : Int) = ((sumF (fs.take (i + 1)) : Nat) : Int)) := by show _ = _; rw [ht]; omega
      have Hg := hg
      clear hf hg hlt Hlen ht hle c1
      go_upto_region 5 with fail
      go_quiet (fail)
      go_wp2_with fail
      go_roundw
      case rel => exact ⟨i + 1, by go_num, by omega, by rw [Ht.out], below_drewN Hg.out nq⟩
      case measure => simp [intOf]; omega
    · obtain rfl : i = n := by omega
      have ht : sumF (fs.take i) = sf := by rw [Hsf.out, Hn.out, List.take_of_length_le (Nat.le_refl _)]
      rw [ht]
      have Hg := hg
      clear hg ht
      by_cases hm : (i : Int) ≤ m
      · by_cases hs : sf ≤ 131072
        · have hs' : (sf : Int) ≤ 131072 := by omega
          go_wp2_with fail
          go_ret
          exact ⟨by simp [hm, hs], Hg.out⟩
        · have hs' : ¬ (sf : Int) ≤ 131072 := by omega
          go_wp2_with fail
          go_ret
          exact ⟨by simp [hm, hs], Hg.out⟩
      · go_wp2_with fail
        go_ret
        exact ⟨by rw [decide_eq_false (p := (i : Int) ≤ m) (by omega)]; rfl, Hg.out⟩
/-- how many facts a table has -/
theorem len_any (g : Nat) (A : Option Addr) (n c : Nat) (w : World) (hc : Cells w g 131 [.slice A n c]) (hn : n ≤ 1099511627776) :
    Calls Tryd.prog 47 #[.pointer (some ⟨g, 0, none⟩)] w fun e w' => e = .returned (.int .i64 (n : Int)) ∧ w = w' := by
  have c0 := hc.cell (i := 0) rfl
  have hn' : (n : Int) ≤ 1099511627776 := by omega
  clear hc
  go_enter Tryd.func47, Tryd.ntmps47
  go_wp2_with fail
  go_ret
  exact ⟨rfl, rfl⟩
end
end Go.Proofs.YtghcfmkmndldoaaDoor

/-
  The second saying's summed; its Build's loop as plain data and in memory.
-/
namespace Go.Proofs.YtghcfmkmndldoaaDoor
open Go.RowKit

theorem RB.grow {w w' : World} {B : Nat} {A : Option Addr} {l : List UInt8} {v v' : Value} (h : RB w B A l) (g : Grow w w' v v') (hB : B ≤ w.heap.size) (ha : ∀ ad, A = some ad → v.ownBlock ≠ some ad.block) : RB w' w'.heap.size A l := fun k x hx => by
  obtain ⟨ad, e, hb, hc⟩ := h k x hx
  refine ⟨ad, e, by have := g.kept.size; omega, ?_⟩
  refine Eq.trans (World.cell?_of_block ?_) hc
  rw [add_block]
  exact g.kept.block _ (by omega) (ha ad e)

theorem Grow.drew {w w' : World} {v v' : Value} (h : Grow w.drew w' v v') : Grow w w' v v' := ⟨⟨h.kept.os, h.kept.tape, h.kept.output, h.kept.size, h.kept.block⟩, h.own⟩
/-- a key's bytes, made just now, behind a slice of the call's own -/
theorem rkey_any (k : ByteArray) (B : Nat) (nv : Value) (N : List UInt8) (w : World) (cap : Nat) (ob : Obj) (h1 : RB (w.drew.alloc ob) (w.heap.size + 1) (some ⟨w.heap.size, 0, none⟩) k.data.toList) (ho : Own w B nv N) (hB : B ≤ w.heap.size) (hN : N.length ≤ 1048576) (hk : k.size ≤ 1048576) :
    Calls Tryd.prog 61 #[nv, .slice (some ⟨w.heap.size, 0, none⟩) k.size cap] (w.drew.alloc ob) fun e w' => ∃ v, e = .returned v ∧ Own w' B v (N ++ bytL k.data.toList) ∧ Grow w w' nv v := by
  have hsz : k.data.toList.length = k.size := Array.length_toList
  have hs1 : (w.drew.alloc ob).heap.size = w.heap.size + 1 := by
    show (w.drew.alloc ob).heap.size = w.drew.heap.size + 1
    simp
  have := refBytesG_any B nv N (some ⟨w.heap.size, 0, none⟩) cap k.data.toList (w.drew.alloc ob) (Own.alloc (w := w.drew) ho ob) (by omega) (fun w' b' g => RB.grow h1 g (by omega) (fun ad e q => by
    cases e
    have h9 := (ho.lt _ q).2
    exact Nat.lt_irrefl _ h9)) hN (by omega)
  rw [hsz] at this
  refine this.mono ?_
  rintro e w' ⟨v, rfl, q1, q2⟩
  exact ⟨v, rfl, by unfold bytL; rw [hsz]; exact q1, Grow.drew (Grow.alloc ob nv q2)⟩

set_option maxRecDepth 20000 in
set_option maxHeartbeats 1000000 in
theorem rsummed_any (A : Option Addr) (c : Nat) (l : List UInt8) (w : World) (hr : RB w w.heap.size A l) (hl : l.length ≤ 1099511627776) :
    Calls Tryd.prog 63 #[.slice A l.length c] w fun e w' => ∃ b, e = .returned b ∧ Own w' w.heap.size b (sumdF l) ∧ Below w.heap.size w w' := by
  have HS := Lib.hid (refSum_any A c l w w.heap.size hr hl)
  have HF := Lib.hid (four_any w.heap.size (.slice none 0 0) [] (sumOf l) w (sumOf_lt l) (Own.nil _ _) (Nat.le_refl _) (by simp))
  have Hr := Lib.hid hr
  have Hl := Lib.hid hl
  have He : Hid (sumdF l = [] ++ leBytes 4 (sumOf l) ++ l) := rfl
  have Hf4 : Hid (([] ++ leBytes 4 (sumOf l)).length = 4) := by show _ = _; rw [List.nil_append, leBytes_length]
  generalize sumdF l = sd at *
  generalize [] ++ leBytes 4 (sumOf l) = four at *
  generalize sumOf l = so at *
  obtain ⟨n, hn⟩ : ∃ n, n = l.length := ⟨_, rfl⟩
  rw [← hn] at HS ⊢
  have Hn := Lib.hid hn
  clear hr hl hn
  go_enter Tryd.func63, Tryd.ntmps63
  go_wp2_with fail
  refine HS.out.mono ?_
  rintro e w' ⟨rfl, rfl⟩
  clear HS
  go_wp2_with fail
  refine HF.out.mono ?_
  rintro e w1 ⟨b1, rfl, ho1, hb1⟩
  have H1 : Hid (Own w1 w.heap.size b1 four ∧ Below w.heap.size w w1 ∧ RB w1 w1.heap.size A l) := ⟨ho1, hb1, (Hr.out.below hb1).wide hb1.size⟩
  obtain ⟨A1, c1, e1, _⟩ := ho1.rb
  rw [Hf4.out] at e1
  subst e1
  clear ho1 hb1 HF
  go_wp2_with (at_builtin; go_must (refine app_bytesG rfl (.tmp 5) (.tmp 6) rfl w.heap.size _ four rfl H1.out.1 _ A n c l rfl Hn.out H1.out.2.2 (by have := Hf4.out; have := Hl.out; omega) H1.out.2.1.size ?_); intro v5 w5 ho5 hb5 _ _; have H5 : Hid (Own w5 w.heap.size v5 sd ∧ Below w.heap.size w w5) := ⟨by rw [He.out]; exact ho5, H1.out.2.1.trans hb5⟩; clear ho5 hb5)
  go_ret
  exact ⟨_, rfl, H5.out.1, H5.out.2⟩

/-- facts that a play of the second saying's Build takes -/
def SFit (fs : List Fc) : Prop := fs.length ≤ 400 ∧ sumF fs ≤ 131072 ∧ ∀ f ∈ fs, f.2.1 < two64
theorem sumF_mem {fs : List Fc} {f : Fc} (h : f ∈ fs) : f.1.size + f.2.2.length ≤ sumF fs := by
  induction fs with
  | nil => cases h
  | cons g fs ih =>
    have e : sumF (g :: fs) = g.1.size + g.2.2.length + sumF fs := by simp [sumF]
    rcases List.mem_cons.1 h with rfl | h
    · omega
    · have := ih h; omega
theorem wrF_le (f : Fc) (hk : f.1.size < two64) (hs : f.2.1 < two64) (hx : f.2.2.length < two64) : (wrF f).length ≤ 30 + (f.1.size + f.2.2.length) := by
  have hsz : f.1.data.toList.length = f.1.size := Array.length_toList
  have h1 := bytL_le f.1.data.toList (by omega)
  have h2 := bytL_le f.2.2 hx
  have h3 := numBytes_ten hs
  unfold wrF
  rw [List.length_append, List.length_append]
  omega
theorem blkF_le : ∀ (fs : List Fc), (∀ f ∈ fs, f.1.size < two64 ∧ f.2.1 < two64 ∧ f.2.2.length < two64) → (blkF fs).length ≤ 30 * fs.length + sumF fs
  | [], _ => by simp [blkF]
  | f :: fs, h => by
    have e : sumF (f :: fs) = f.1.size + f.2.2.length + sumF fs := by simp [sumF]
    have h1 := blkF_le fs fun g hg => h g (List.mem_cons_of_mem _ hg)
    obtain ⟨a, b, c⟩ := h f List.mem_cons_self
    have h2 := wrF_le f a b c
    rw [show blkF (f :: fs) = wrF f ++ blkF fs from rfl, List.length_append, e, List.length_cons]
    omega
theorem SFit.blk {fs : List Fc} (h : SFit fs) : (blkF fs).length ≤ 143072 := by
  have h0 := h.1
  have h1 := h.2.1
  have := blkF_le fs fun f hf => by
    have := sumF_mem hf
    have := h.2.2 f hf
    rw [two64_eq] at *
    exact ⟨by omega, by omega, by omega⟩
  omega
theorem SFit.fit {fs : List Fc} (h : SFit fs) : Fit fs := ⟨fun f hf => by have := sumF_mem hf; have := h.2.1; omega, by have := h.blk; omega⟩
theorem drop_one {α : Type} {xs : List α} {i : Nat} {a : α} (h : xs[i]? = some a) : xs.drop i = a :: xs.drop (i + 1) := by
  obtain ⟨h1, h2⟩ := List.getElem?_eq_some_iff.1 h
  rw [List.drop_eq_getElem_cons h1, h2]
theorem blkF_one (f : Fc) : blkF [f] = wrF f := by simp [blkF]
/-- where the loop of the second saying's Build stands: facts up to j are in T and X; those from j to i are in N -/
structure RbP (block : Nat) (fs : List Fc) (i j : Nat) (T X N : List UInt8) : Prop where
  ji : j ≤ i
  iln : i ≤ fs.length
  one : T ++ (bodyF block (fs.drop j)).1 = (bodyF block fs).1
  two : X ++ (bodyF block (fs.drop j)).2 = (bodyF block fs).2
  now : N = blkF ((fs.drop j).take (i - j))
  frn : (i - j) + frontN block N.length (fs.drop i) = frontN block 0 (fs.drop j)
  fin : i = fs.length → j = fs.length
theorem RbP.start (block : Nat) (fs : List Fc) : RbP block fs 0 0 [] [] [] := ⟨Nat.le_refl _, Nat.zero_le _, rfl, rfl, rfl, by simp, fun h => h⟩
theorem take_more {α : Type} {xs : List α} {i j : Nat} {a : α} (h : xs[i]? = some a) (hji : j ≤ i) : (xs.drop j).take (i + 1 - j) = (xs.drop j).take (i - j) ++ [a] := by
  rw [show i + 1 - j = (i - j) + 1 by omega, List.take_add_one, List.getElem?_drop, show j + (i - j) = i by omega, h]
  rfl
theorem RbP.more {block : Nat} {fs : List Fc} {i j : Nat} {T X N : List UInt8} {f : Fc} (h : RbP block fs i j T X N) (hf : fs[i]? = some f) (hb : (N ++ wrF f).length < block) (hi : i + 1 ≠ fs.length) : RbP block fs (i + 1) j T X (N ++ wrF f) := by
  have hlt := (List.getElem?_eq_some_iff.1 hf).1
  refine ⟨by have := h.ji; omega, by omega, h.one, h.two, ?_, ?_, fun e => absurd e hi⟩
  · rw [take_more hf h.ji, blkF_append, ← h.now, blkF_one]
  · have := h.frn
    rw [drop_one hf, frontN, if_neg (by rw [List.length_append] at hb; omega)] at this
    rw [List.length_append, ← this]
    have := h.ji
    omega
theorem RbP.close {block : Nat} {fs : List Fc} {i j : Nat} {T X N : List UInt8} {f g : Fc} (h : RbP block fs i j T X N) (hf : fs[i]? = some f) (hg : fs[j]? = some g) (hb : block ≤ (N ++ wrF f).length ∨ i + 1 = fs.length) :
    RbP block fs (i + 1) (i + 1) (T ++ sumdF (N ++ wrF f)) (X ++ entF g.1 (4 + (N ++ wrF f).length)) [] := by
  have hlt := (List.getElem?_eq_some_iff.1 hf).1
  have hji := h.ji
  have hm : frontN block 0 (fs.drop j) = i + 1 - j := by
    have := h.frn
    rw [drop_one hf, frontN] at this
    split at this
    · omega
    · rename_i hn
      rcases hb with hb | hb
      · rw [List.length_append] at hb; omega
      · have : fs.drop (i + 1) = [] := List.drop_eq_nil_of_le (by omega)
        rename_i h9
        rw [this, frontN] at h9
        omega
  have hN : blkF ((fs.drop j).take (i + 1 - j)) = N ++ wrF f := by rw [take_more hf hji, blkF_append, ← h.now, blkF_one]
  have hd : (fs.drop j).drop (i + 1 - j) = fs.drop (i + 1) := by rw [List.drop_drop]; congr 1; omega
  have ho := h.one
  have ht := h.two
  rw [drop_one hg, bodyF_cons, ← drop_one hg, hm, hN, hd] at ho ht
  refine ⟨Nat.le_refl _, by omega, by rw [← ho, List.append_assoc], by rw [← ht, List.append_assoc], by simp [blkF], by simp, fun e => e⟩
theorem RbP.lens {block : Nat} {fs : List Fc} {i j : Nat} {T X N : List UInt8} (h : RbP block fs i j T X N) (hs : SFit fs) : T.length ≤ 144672 ∧ X.length ≤ 151072 ∧ N.length ≤ 143072 := by
  have hb := hs.blk
  obtain ⟨h1, h2⟩ := bodyF_len block fs.length fs (Nat.le_refl _) (by omega)
  have h3 := hs.1
  rw [← h.one, List.length_append] at h1
  rw [← h.two, List.length_append] at h2
  refine ⟨by omega, by omega, ?_⟩
  rw [h.now]
  have h4 := blkF_take_le (fs.drop j) (i - j)
  have h5 := blkF_split fs j
  omega
theorem RbP.finish {block : Nat} {fs : List Fc} {j : Nat} {T X N : List UInt8} (h : RbP block fs fs.length j T X N) : T = (bodyF block fs).1 ∧ X = (bodyF block fs).2 := by
  have hj := h.fin rfl
  have h1 := h.one
  have h2 := h.two
  rw [hj, List.drop_eq_nil_of_le (Nat.le_refl _), bodyF_nil, List.append_nil] at h1 h2
  exact ⟨h1, h2⟩
/-- three byte slices of the call's own, in blocks of their own -/
structure Trio (w : World) (B : Nat) (u v n : Value) (T X N : List UInt8) : Prop where
  t : Own w B u T
  x : Own w B v X
  own3 : Own w B n N
  tx : ∀ g, u.ownBlock = some g → v.ownBlock ≠ some g
  tn : ∀ g, u.ownBlock = some g → n.ownBlock ≠ some g
  xn : ∀ g, v.ownBlock = some g → n.ownBlock ≠ some g
section
variable {w w' : World} {B : Nat} {u v n u' : Value} {T X N R : List UInt8}
theorem Trio.below (h : Trio w B u v n T X N) (hb : Below w.heap.size w w') : Trio w' B u v n T X N := ⟨h.t.below hb, h.x.below hb, h.own3.below hb, h.tx, h.tn, h.xn⟩
theorem Trio.growN (h : Trio w B u v n T X N) (ho : Own w' B u' R) (g : Grow w w' n u') : Trio w' B u v u' T X R := by
  obtain ⟨a1, a2⟩ := g.other h.t h.tn
  obtain ⟨b1, b2⟩ := g.other h.x h.xn
  exact ⟨a1, b1, ho, h.tx, a2, b2⟩
theorem Trio.growX (h : Trio w B u v n T X N) (ho : Own w' B u' R) (g : Grow w w' v u') : Trio w' B u u' n T R N := by
  obtain ⟨a1, a2⟩ := g.other h.t h.tx
  obtain ⟨b1, b2⟩ := g.other h.own3 (fun k h1 h2 => h.xn k h2 h1)
  exact ⟨a1, ho, b1, a2, h.tn, fun k h1 h2 => b2 k h2 h1⟩
theorem Trio.growT (h : Trio w B u v n T X N) (ho : Own w' B u' R) (g : Grow w w' u u') : Trio w' B u' v n R X N := by
  obtain ⟨a1, a2⟩ := g.other h.x (fun k h1 h2 => h.tx k h2 h1)
  obtain ⟨b1, b2⟩ := g.other h.own3 (fun k h1 h2 => h.tn k h2 h1)
  exact ⟨ho, a1, b1, fun k h1 h2 => a2 k h2 h1, fun k h1 h2 => b2 k h2 h1, h.xn⟩
theorem Trio.off (h : Trio w B u v n T X N) : Trio w B u v (.slice none 0 0) T X [] := ⟨h.t, h.x, Own.nil _ _, h.tx, (fun g _ e => by cases e), (fun g _ e => by cases e)⟩
end
end Go.Proofs.YtghcfmkmndldoaaDoor

/-
  Merge.
-/
namespace Go.Proofs.YtghcfmkmndldoaaDoor
open Go.RowKit Go.Sort Go.Lib

theorem eqlF_nil (w : World) (A : Option Addr) (n c : Nat) : (binOp .eql 42 (.slice A n c) (.slice none 0 0)).run Tryd.prog w = .ok (.bool A.isNone) w :=
  Lib.run_eql_slice_nil w _ 40 A n c 0 0 Tryd.underlying42
theorem RF.none_nil {w : World} {B : Nat} {fs : List Fc} (h : RF w B none fs) : fs = [] := by
  obtain ⟨ps, e, hp, _⟩ := h
  rcases ps with _ | ⟨p, ps⟩
  · exact e.symm
  · obtain ⟨b, o, e2, _⟩ := hp 0 p rfl
    cases e2
section
set_option maxRecDepth 100000
set_option maxHeartbeats 8000000
theorem cloneF_any (A : Option Addr) (c : Nat) (fs : List Fc) (w : World) (hr : RF w w.heap.size A fs) (hl : fs.length ≤ 1099511627776) :
    Calls Tryd.prog 51 #[.slice A fs.length c] w fun e w' => ∃ v, e = .returned v ∧ RowF w' w.heap.size v fs (Vb w w.heap.size) ∧ Below w.heap.size w w' := by
  have Hr := Lib.hid hr
  have Hl := Lib.hid hl
  clear hr hl
  rcases A with _ | ad
  · have h0 : fs = [] := Hr.out.none_nil
    subst h0
    have hq := fun W => eqlF_nil W none 0 c
    go_enter Tryd.func51, Tryd.ntmps51
    go_wp2_with fail
    go_ret
    exact ⟨_, rfl, RowF.nil _ _ _, Below.refl _ _⟩
  · have hq := fun W => eqlF_nil W (some ad) fs.length c
    have Hm : Hid (RowF (w.alloc (.cells #[] 40)) w.heap.size (.slice (some ⟨w.heap.size, 0, none⟩) 0 0) [] (Vb w w.heap.size)) := ⟨[], rfl, World.ownsRow_made w #[] 0 (Nat.le_refl _) (by simp [maxLen]) (by simp), fun p hp => by simp at hp⟩
    go_enter Tryd.func51, Tryd.ntmps51
    go_wp2_with (at_builtin; refine app_row rfl (.tmp 5) (.tmp 6) rfl rfl Hm.out Hr.out ((Below.refl _ _).alloc (Nat.le_refl _) _) fs.length c rfl rfl (by have := Hl.out; simp; omega) (by simp) ?_; intro v1 w1 hown hbel)
    go_ret
    exact ⟨v1, rfl, by simpa using hown, ((Below.refl _ _).alloc (Nat.le_refl _) _).trans hbel⟩
end
theorem ownsRow_set {w : World} {base g n c m size : Nat} {e : TypeId} {xs : List Value} (h : w.ownsRow base e size (.slice (some ⟨g, 0, none⟩) n c) m xs) (i : Nat) (u : Value) : (w.setCell ⟨g, i, none⟩ u).ownsRow base e size (.slice (some ⟨g, 0, none⟩) n c) m (xs.set i u) := by
  refine ⟨by rw [List.length_set]; exact h.1, ?_⟩
  rcases h.2 with ⟨hv, _⟩ | ⟨g', cap, cur, hv, hb, hg, h1, h2, h3, h4⟩
  · cases hv
  · injection hv with e1 e2 e3
    injection e1 with e1
    injection e1 with e1
    subst e1
    have hc : Cells w g e cur.toList := by unfold Cells; simpa using hg
    have := hc.set i u
    refine .inr ⟨g, cap, (cur.toList.set i u).toArray, by rw [e2, e3], hb, this, h1, h2, by simp [h3], ?_⟩
    show (cur.toList.set i u).take _ = _
    rw [List.take_set, h4]
theorem cellsF_set : ∀ (ps : List (Fc × Value)) (i : Nat) (p : Fc × Value), i < ps.length → cellsF (ps.set i p) = (((cellsF ps).set (i * 3) (.string p.1.1)).set (i * 3 + 1) (.int .u64 (p.1.2.1 : Int))).set (i * 3 + 2) p.2
  | [], i, p, h => by simp at h
  | q :: ps, 0, p, _ => rfl
  | q :: ps, i + 1, p, h => by
    rw [List.set_cons_succ, show cellsF (q :: ps.set i p) = .string q.1.1 :: .int .u64 (q.1.2.1 : Int) :: q.2 :: cellsF (ps.set i p) from rfl, cellsF_set ps i p (by simpa using h), show cellsF (q :: ps) = .string q.1.1 :: .int .u64 (q.1.2.1 : Int) :: q.2 :: cellsF ps from rfl,
      show (i + 1) * 3 = i * 3 + 1 + 1 + 1 by omega, show i * 3 + 1 + 1 + 1 + 1 = (i * 3 + 1) + 1 + 1 + 1 by omega, show i * 3 + 1 + 1 + 1 + 2 = (i * 3 + 2) + 1 + 1 + 1 by omega]
    simp only [List.set_cons_succ]
/-- where the loop stands that copies each value of a row: i of them are the call's own -/
structure MSt (w1 wr : World) (v : Value) (fs : List Fc) (i : Nat) : Prop where
  ex : ∃ ps : List (Fc × Value), ps.map Prod.fst = fs ∧ wr.ownsRow w1.heap.size 40 3 v ps.length (cellsF ps) ∧ ∀ k p, ps[k]? = some p → p.1.2.1 < two64 ∧ (k < i → Own wr w1.heap.size p.2 p.1.2.2) ∧ (i ≤ k → Vb w1 w1.heap.size p.2 p.1.2.2)
  bel : Below w1.heap.size w1 wr
section
variable {w1 wr w3 : World} {v V V' : Value} {fs : List Fc} {i : Nat} {f : Fc}
theorem MSt.start (h : RowF wr w1.heap.size v fs (Vb w1 w1.heap.size)) (hb : Below w1.heap.size w1 wr) : MSt w1 wr v fs 0 := by
  obtain ⟨ps, e, ho, hv⟩ := h
  exact ⟨⟨ps, e, ho, fun k p hk => ⟨(hv p (List.mem_of_getElem? hk)).2, fun h => by omega, fun _ => (hv p (List.mem_of_getElem? hk)).1⟩⟩, hb⟩
theorem MSt.finish (h : MSt w1 wr v fs fs.length) : RowO wr w1.heap.size v fs := by
  obtain ⟨ps, e, ho, hv⟩ := h.ex
  have hl : fs.length = ps.length := by rw [← e, List.length_map]
  refine ⟨ps, e, ho, fun p hp => ?_⟩
  obtain ⟨k, hk⟩ := List.getElem?_of_mem hp
  have := (List.getElem?_eq_some_iff.1 hk).1
  exact ⟨(hv k p hk).2.1 (by omega), (hv k p hk).1⟩
theorem MSt.shape (h : MSt w1 wr v fs i) : ∃ A c, v = .slice A fs.length c ∧ fs.length ≤ c := by
  obtain ⟨ps, e, ho, hv⟩ := h.ex
  have hl : fs.length = ps.length := by rw [← e, List.length_map]
  obtain ⟨A, c, e1, h1, _⟩ := ownF_shape ho
  exact ⟨A, c, by rw [hl]; exact e1, by omega⟩
theorem MSt.at_ (h : MSt w1 wr v fs i) (hi : fs[i]? = some f) : ∃ g o c V, v = .slice (some ⟨g, o, none⟩) fs.length c ∧ o = 0 ∧ g < wr.heap.size ∧ w1.heap.size ≤ g ∧ (∀ j, wr.frozen? ⟨g, j, none⟩ = false) ∧
    wr.cell? ⟨g, o + i * 3, none⟩ = some (.string f.1) ∧ wr.cell? ⟨g, o + i * 3 + 1, none⟩ = some (.int .u64 (f.2.1 : Int)) ∧ wr.cell? ⟨g, o + i * 3 + 2, none⟩ = some V ∧ Vb w1 w1.heap.size V f.2.2 ∧ f.2.1 < two64 := by
  obtain ⟨ps, e, ho, hv⟩ := h.ex
  have hl : fs.length = ps.length := by rw [← e, List.length_map]
  have hi2 : (ps[i]?).map Prod.fst = some f := by rw [← hi, ← e, List.getElem?_map]
  obtain ⟨p, hp, hp2⟩ := Option.map_eq_some_iff.1 hi2
  obtain ⟨f', V⟩ := p
  cases hp2
  rcases ho.2 with ⟨_, h0⟩ | ⟨g, cap, cur, rfl, hb, hg, hn, _⟩
  · have : ps = [] := List.eq_nil_of_length_eq_zero h0
    subst this
    simp at hp
  · obtain ⟨c0, c1, c2⟩ := cellsF_get ps i _ hp
    have q0 := World.ownsRow.cells (e := 40) (size := 3) ho rfl (i * 3) _ c0
    have q1 := World.ownsRow.cells (e := 40) (size := 3) ho rfl (i * 3 + 1) _ c1
    have q2 := World.ownsRow.cells (e := 40) (size := 3) ho rfl (i * 3 + 2) _ c2
    rw [add_flat] at q0 q1 q2
    exact ⟨g, 0, cap, V, by rw [hl], rfl, (Array.getElem?_eq_some_iff.1 hg).1, hb, fun j => by simp [World.frozen?, hg], q0, q1, q2, (hv i _ hp).2.2 (Nat.le_refl _), (hv i _ hp).1⟩
theorem MSt.step {g o n c : Nat} (h : MSt w1 wr (.slice (some ⟨g, o, none⟩) n c) fs i) (ho : o = 0) (hi : fs[i]? = some f) (hb : Below wr.heap.size wr w3) (hO : Own w3 wr.heap.size V' f.2.2) :
    MSt w1 (((w3.setCell ⟨g, o + i * 3, none⟩ (.string f.1)).setCell ⟨g, o + i * 3 + 1, none⟩ (.int .u64 (f.2.1 : Int))).setCell ⟨g, o + i * 3 + 2, none⟩ V') (.slice (some ⟨g, o, none⟩) n c) fs (i + 1) := by
  subst ho
  obtain ⟨ps, e, how, hv⟩ := h.ex
  have hi2 : (ps[i]?).map Prod.fst = some f := by rw [← hi, ← e, List.getElem?_map]
  obtain ⟨p, hp, hp2⟩ := Option.map_eq_some_iff.1 hi2
  have hil := (List.getElem?_eq_some_iff.1 hp).1
  have hge := World.ownsRow.lt how g rfl
  have h3 : w3.ownsRow w1.heap.size 40 3 (.slice (some ⟨g, 0, none⟩) n c) ps.length (cellsF ps) := by
    refine ⟨how.1, ?_⟩
    rcases how.2 with q | ⟨g', cap, cur, hv', hg, hh, r⟩
    · exact .inl q
    · exact .inr ⟨g', cap, cur, hv', hg, (hb.block g' (Array.getElem?_eq_some_iff.1 hh).1).trans hh, r⟩
  have hset := ownsRow_set (ownsRow_set (ownsRow_set h3 (i * 3) (.string f.1)) (i * 3 + 1) (.int .u64 (f.2.1 : Int))) (i * 3 + 2) V'
  rw [← cellsF_set ps i (f, V') hil] at hset
  simp only [Nat.zero_add]
  have hlen : (ps.set i (f, V')).length = ps.length := List.length_set
  rw [← hlen] at hset
  have hmv : ∀ (b : Nat), b ≠ g → (((w3.setCell ⟨g, i * 3, none⟩ (.string f.1)).setCell ⟨g, i * 3 + 1, none⟩ (.int .u64 (f.2.1 : Int))).setCell ⟨g, i * 3 + 2, none⟩ V').heap[b]? = w3.heap[b]? := fun b hb => ((Below.heap_setCell _ _ _ _ hb).trans (Below.heap_setCell _ _ _ _ hb)).trans (Below.heap_setCell _ _ _ _ hb)
  refine ⟨⟨ps.set i (f, V'), ?_, hset, fun k q hk => ?_⟩, ?_⟩
  · rw [List.map_set, e]
    apply List.ext_getElem?
    intro j
    rw [List.getElem?_set]
    split
    · rename_i hj
      subst hj
      have hl : i < fs.length := (List.getElem?_eq_some_iff.1 hi).1
      rw [if_pos hl, hi]
    · rfl
  · rw [List.getElem?_set] at hk
    split at hk
    · rename_i hj
      subst hj
      try rw [if_pos hil] at hk
      cases hk
      have hs : f.2.1 < two64 := by have := (hv i p hp).1; rw [hp2] at this; exact this
      exact ⟨hs, fun _ => (hO.wide h.bel.size).move fun g' hg' => hmv g' (by have := (hO.lt g' hg').1; omega), fun h => by omega⟩
    · rename_i hj
      obtain ⟨r1, r2, r3⟩ := hv k q hk
      refine ⟨r1, fun hk2 => ?_, fun hk2 => r3 (by omega)⟩
      have hOq := r2 (by omega)
      exact (hOq.below hb).move fun g' hg' => hmv g' fun e => hOq.notRow how g' hg' (by rw [e]; rfl)
  · exact (((h.bel.trans (hb.mono h.bel.size)).setCell hge.1 _).setCell hge.1 _).setCell hge.1 _
end
end Go.Proofs.YtghcfmkmndldoaaDoor

/-
  Merge: the walk.
-/
namespace Go.Proofs.YtghcfmkmndldoaaDoor
open Go.RowKit Go.Sort Go.Lib

def mergE (ls : List (List Fc)) : Nat := if ls.all rightF = true then 0 else 25
def mergB (ls : List (List Fc)) : List Fc := if mergE ls = 0 then mergeF ls else []
section
set_option maxRecDepth 100000
set_option maxHeartbeats 8000000
theorem merge_any (A : Option Addr) (c : Nat) (ls : List (List Fc)) (w : World) (hl : ls.length ≤ 1099511627776) (hc : ls.length ≤ c) (hs : sumL ls ≤ 1099511627776) (hx : ∀ l ∈ ls, ∀ f ∈ l, f.2.2.length ≤ 1099511627776) (hr : RFF w w.heap.size A ls) :
    Calls Tryd.prog 25 #[.slice A ls.length c] w fun e w' => ∃ v, e = .returned (.tuple #[v, .int .i64 (mergE ls : Nat)]) ∧ RowO w' w.heap.size v (mergB ls) ∧ Below w.heap.size w w' := by
  have Hr := Lib.hid hr
  have Hs : Hid (sumL ls ≤ 1099511627776 ∧ ls.length ≤ c ∧ ls.length ≤ 1099511627776 ∧ ∀ l ∈ ls, ∀ f ∈ l, f.2.2.length ≤ 1099511627776) := ⟨hs, hc, hl, hx⟩
  have hE : Hid (mergE ls = if ls.all rightF = true then 0 else 25) := rfl
  have hB : Hid (mergB ls = if mergE ls = 0 then mergeF ls else []) := rfl
  have Hlen : Hid (∀ k : Nat, k < ls.length → ∃ u, ls[k]? = some u) := fun k hk => ⟨_, List.getElem?_eq_getElem hk⟩
  have hn1 : (ls.length : Int) ≤ 1099511627776 := by omega
  obtain ⟨n, hn⟩ : ∃ n, n = ls.length := ⟨_, rfl⟩
  obtain ⟨me, hme⟩ : ∃ me, me = mergE ls := ⟨_, rfl⟩
  rw [← hme] at hE hB
  rw [← hn] at hn1 Hlen
  rw [← hn, ← hme]
  have Hn := Lib.hid hn
  obtain ⟨mb, hmb⟩ : ∃ mb, mb = mergB ls := ⟨_, rfl⟩
  rw [← hmb] at hB ⊢
  clear hr hl hc hs hx hn hme hmb
  go_enter Tryd.func25, Tryd.ntmps25
  go_wp2_with fail
  go_loopw [11] (fun iv wr => ∃ i : Nat, iv = .int .i64 (i : Int) ∧ i ≤ n ∧ Hid ((ls.take i).all rightF = true) ∧ Hid (Gr w wr)) (fun iv _ => n - (intOf iv).toNat)
  case atStart => exact ⟨0, rfl, Nat.zero_le _, rfl, Gr.refl w⟩
  case round =>
    obtain ⟨i, rfl, hi, hall, hg⟩ := hrel
    by_cases hlt : i < n
    · obtain ⟨l, hli⟩ := Hlen.out i hlt
      obtain ⟨b, o, A', cl, rfl, hblt, x0, x1, x2⟩ := (Hr.out.below hg.out.below) i l hli
      have hlt' : (i : Int) < (n : Int) := by omega
      have hll : l.length ≤ 1099511627776 := by
        have hm : l ∈ ls := List.mem_of_getElem? hli
        have := sumL_mem hm
        have := Hs.out.1
        omega
      have HRt := Lib.hid (right_any A' cl l wr hll (x2.wide hg.out.below.size))
      have Hall : Hid (rightF l = true → (ls.take (i + 1)).all rightF = true) := fun hq => by
        rw [List.take_add_one, hli, List.all_append, hall.out]
        simp [hq]
      have Hno : Hid (rightF l = false → me = 25) := fun hq => by
        rw [hE.out, if_neg]
        intro h
        have := List.all_eq_true.1 h l (List.mem_of_getElem? hli)
        rw [hq] at this
        cases this
      have Hw : Hid (∀ w2, Gr wr w2 → Gr w w2) := fun w2 h2 => hg.out.trans h2
      generalize rightF l = q at HRt Hall Hno
      clear hli hall hg hlt Hlen x1 x2 hll hblt
      cases q with
      | true =>
        have Ha := Lib.hid (Hall.out rfl)
        clear Hall Hno
        go_wp2_with fail
        refine HRt.out.mono ?_
        rintro e w2 ⟨rfl, hg2⟩
        have Hg2 := Lib.hid (Hw.out w2 hg2)
        clear hg2 HRt x0 Hw
        go_wp2_with fail
        go_roundw
        case rel => exact ⟨i + 1, by go_num, by omega, Ha.out, Hg2.out⟩
        case measure => simp [intOf]; omega
      | false =>
        obtain rfl : me = 25 := Hno.out rfl
        have hmb : mb = [] := by rw [hB.out, if_neg (by decide)]
        subst hmb
        clear Hall Hno hE hB
        go_wp2_with fail
        refine HRt.out.mono ?_
        rintro e w2 ⟨rfl, hg2⟩
        have Hg2 := Lib.hid (Hw.out w2 hg2).below
        clear hg2 HRt x0 Hw
        go_wp2_with fail
        exact bodyPost_ret (v := .tuple #[.slice none 0 0, .int .i64 25]) (by simp [results, Tryd.results25, go_sem]) rfl ⟨_, rfl, RowO.nil _ _, Hg2.out⟩
    · obtain rfl : i = n := by omega
      have hal : ls.all rightF = true := by
        have := hall.out
        rw [Hn.out, List.take_of_length_le (Nat.le_refl _)] at this
        exact this
      obtain rfl : me = 0 := by rw [hE.out, if_pos hal]
      have hmb : mb = mergeF ls := by rw [hB.out, if_pos rfl]
      have hpw : ∀ l ∈ ls, l.Pairwise Ahead := fun l hl => rightF_pair.1 (List.all_eq_true.1 hal l hl)
      have hmx : ∀ f ∈ mergeF ls, f.2.2.length ≤ 1099511627776 := fun f hf => by
        obtain ⟨l, h1, h2⟩ := mergeF_mem hf
        exact Hs.out.2.2.2 l h1 f h2
      have hml := mergeF_length ls hpw
      have HM : Hid (Calls Tryd.prog 52 #[.slice A i c] wr fun e w' => ∃ A' c', e = .returned (.slice A' (mergeF ls).length c') ∧ (mergeF ls).length ≤ c' ∧ RF w' w'.heap.size A' (mergeF ls) ∧ Below wr.heap.size wr w') := by
        rw [Hn.out]
        exact merged_any _ A c ls wr (Nat.le_refl _) Hs.out.2.2.1 Hs.out.2.1 Hs.out.1 hpw ((Hr.out.below hg.out.below).wide hg.out.below.size)
      have Hmx := Lib.hid hmx
      have Hml : Hid ((mergeF ls).length ≤ 1099511627776) := by show _ ≤ _; have := Hs.out.1; omega
      have Hb0 := Lib.hid hg.out.below
      generalize mergeF ls = mm at *
      obtain rfl : mm = mb := hmb.symm
      clear hpw hmx hml hal hall hg hE hB Hlen
      go_wp2_with fail
      refine HM.out.mono ?_
      rintro e w2 ⟨A2, c2, rfl, g2, r2, b2⟩
      have HC := Lib.hid (cloneF_any A2 c2 mm w2 r2 Hml.out)
      have Hb2 : Hid (Below w.heap.size w w2) := Hb0.out.trans (b2.mono Hb0.out.size)
      clear HM g2 r2 b2
      go_wp2_with fail
      refine HC.out.mono ?_
      rintro e w3 ⟨v, rfl, hrow, b3⟩
      have Hst := Lib.hid (MSt.start hrow b3)
      obtain ⟨A3, c3, rfl, _⟩ := Hst.out.shape
      have Hmlen : Hid (∀ k : Nat, k < mm.length → ∃ f, mm[k]? = some f) := fun k hk => ⟨_, List.getElem?_eq_getElem hk⟩
      have hm1 : (mm.length : Int) ≤ 1099511627776 := by have := Hml.out; omega
      obtain ⟨nm, hnm⟩ : ∃ nm, nm = mm.length := ⟨_, rfl⟩
      rw [← hnm] at hm1 Hmlen Hst ⊢
      have Hnm := Lib.hid hnm
      clear HC hrow b3 hnm
      go_wp2_with fail
      go_loopw [24] (fun iv wr => ∃ j : Nat, iv = .int .i64 (j : Int) ∧ j ≤ nm ∧ Hid (MSt w2 wr (.slice A3 nm c3) mm j)) (fun iv _ => nm - (intOf iv).toNat)
      case atStart => exact ⟨0, rfl, Nat.zero_le _, Hst.out⟩
      case round =>
        obtain ⟨j, rfl, hj, hst⟩ := hrel
        by_cases hlt : j < nm
        · obtain ⟨f, hf⟩ := Hmlen.out j hlt
          have hlt' : (j : Int) < (nm : Int) := by omega
          obtain ⟨g, o, c4, V, e4, ho, q1, q2, q3, x0, x1, x2, ⟨Av, cv, rfl, v1, v2, v3⟩, hsq⟩ := hst.out.at_ hf
          injection e4 with e5 e6 e7
          subst e5
          subst e7
          clear e6
          have hfx := Hmx.out f (List.mem_of_getElem? hf)
          have HW : Hid (Below wr.heap.size wr (wr.alloc (.cells #[.string f.1, .int .u64 (f.2.1 : Int), .slice Av f.2.2.length cv] 40))) := (Below.refl _ _).alloc (Nat.le_refl _) _
          have HC := Lib.hid (copied_any f (.slice Av f.2.2.length cv) (wr.alloc (.cells #[.string f.1, .int .u64 (f.2.1 : Int), .slice Av f.2.2.length cv] 40)) (Vb.wide (Vb.below (V := .slice Av f.2.2.length cv) ⟨Av, cv, rfl, v1, v2, v3⟩ (hst.out.bel.trans (HW.out.mono hst.out.bel.size))) (Nat.le_trans hst.out.bel.size HW.out.size)) hfx)
          have Hstep : Hid (∀ w4 V', Below wr.heap.size wr w4 → Own w4 wr.heap.size V' f.2.2 → MSt w2 (((w4.setCell ⟨g, o + j * 3, none⟩ (.string f.1)).setCell ⟨g, o + j * 3 + 1, none⟩ (.int .u64 (f.2.1 : Int))).setCell ⟨g, o + j * 3 + 2, none⟩ V') (.slice (some ⟨g, o, none⟩) nm c3) mm (j + 1)) := fun w4 V' h1 h2 => hst.out.step ho hf h1 h2
          have Hrd : Hid (∀ w4, Below wr.heap.size wr w4 → w4.cell? ⟨g, o + j * 3, none⟩ = some (.string f.1) ∧ w4.cell? ⟨g, o + j * 3 + 1, none⟩ = some (.int .u64 (f.2.1 : Int)) ∧ w4.cell? ⟨g, o + j * 3 + 2, none⟩ = some (.slice Av f.2.2.length cv) ∧ ∀ k, w4.frozen? ⟨g, k, none⟩ = false) := fun w4 h => ⟨(h.cell (p := ⟨g, o + j * 3, none⟩) q1).trans x0, (h.cell (p := ⟨g, o + j * 3 + 1, none⟩) q1).trans x1, (h.cell (p := ⟨g, o + j * 3 + 2, none⟩) q1).trans x2, fun k => (h.frozen (p := ⟨g, k, none⟩) q1).trans (q3 k)⟩
          unfold fcV at HC
          obtain ⟨k, s, x⟩ := f
          dsimp only at HC Hstep Hrd x0 x1 x2
          clear hst ho hf v1 v2 v3 hsq hfx hlt q1 q2 q3 Hmlen
          go_wp2_with fail
          refine HC.out.mono ?_
          rintro e w4 ⟨V', rfl, ho4, hb4⟩
          have Hb4 : Hid (Below wr.heap.size wr w4) := HW.out.trans (hb4.mono HW.out.size)
          have Hnew := Lib.hid (Hstep.out w4 V' Hb4.out (ho4.wide HW.out.size))
          obtain ⟨y0, y1, y2, y3⟩ := Hrd.out w4 Hb4.out
          have z0 := y3 (o + j * 3)
          have z1 := y3 (o + j * 3 + 1)
          have z2 := y3 (o + j * 3 + 2)
          have hsh := ho4.rb
          clear HC Hstep Hrd ho4 hb4 x0 x1 x2 y3
          obtain ⟨A5, c5, rfl, _⟩ := hsh
          go_upto_region 12 with fail
          generalize (((w4.setCell ⟨g, o + j * 3, none⟩ (.string k)).setCell ⟨g, o + j * 3 + 1, none⟩ (.int .u64 (s : Int))).setCell ⟨g, o + j * 3 + 2, none⟩ (.slice A5 x.length c5)) = w6 at Hnew ⊢
          clear y0 y1 y2 z0 z1 z2
          go_wp2_with fail
          go_roundw
          case rel => exact ⟨j + 1, by go_num, by omega, Hnew.out⟩
          case measure => simp [intOf]; omega
        · obtain rfl : j = nm := by omega
          have Hfin : Hid (RowO wr w2.heap.size (.slice A3 j c3) mm ∧ Below w.heap.size w wr ∧ w.heap.size ≤ w2.heap.size) := by
            have h1 := hst.out
            rw [Hnm.out] at h1 ⊢
            exact ⟨h1.finish, Hb2.out.trans (h1.bel.mono Hb2.out.size), Hb2.out.size⟩
          clear hst
          go_wp2_with fail
          exact bodyPost_ret (v := .tuple #[.slice A3 j c3, .int .i64 0]) (by simp [results, Tryd.results25, go_sem]) rfl ⟨_, rfl, RowO.wide Hfin.out.1 Hfin.out.2.2, Hfin.out.2.1⟩
end
end Go.Proofs.YtghcfmkmndldoaaDoor

/-
  Get of a table.
-/
namespace Go.Proofs.YtghcfmkmndldoaaDoor
open Go.RowKit Go.Sort Go.Lib

section
set_option maxRecDepth 100000
set_option maxHeartbeats 8000000
/-- where facts of a key begin -/
theorem place_any (g : Nat) (A : Option Addr) (c : Nat) (fs : List Fc) (k : ByteArray) (w : World) (hc : Cells w g 131 [.slice A fs.length c]) (hl : fs.length ≤ 1099511627776) (hri : fs.Pairwise Ahead) (hr : RF w w.heap.size A fs) :
    Calls Tryd.prog 77 #[.pointer (some ⟨g, 0, none⟩), .string k] w fun e w' => ∃ i : Nat, e = .returned (.int .i64 (i : Int)) ∧ PosF fs (k, 18446744073709551615, []) i ∧ Gr w w' := by
  obtain ⟨W, hW⟩ : ∃ W, W = w.alloc (.cells #[.string k, .int .u64 18446744073709551615, .slice none 0 0] 40) := ⟨_, rfl⟩
  have hC : Cells W w.heap.size 40 [.string k, .int .u64 18446744073709551615, .slice none 0 0] := by rw [hW]; exact Cells.new w _ _
  have hG : Gr w W := by rw [hW]; exact Gr.alloc w _
  have hT : Cells W g 131 [.slice A fs.length c] := hc.move (hG.below.block g hc.lt)
  have HS := Lib.hid (search_any A c fs (k, 18446744073709551615, []) (.slice none 0 0) W hl hri ((hr.gr hG (Nat.le_refl _)).wide hG.below.size))
  have HSd := Lib.hid (search_any A c fs (k, 18446744073709551615, []) (.slice none 0 0) W.drew hl hri ((hr.gr hG (Nat.le_refl _)).wide hG.below.size))
  have c0 := hC.cell (i := 0) rfl
  have c1 := hC.cell (i := 1) rfl
  have c2 := hC.cell (i := 2) rfl
  have t0 := hT.cell (i := 0) rfl
  have d0 : W.drew.cell? ⟨w.heap.size, 0, none⟩ = some (.string k) := c0
  have d1 : W.drew.cell? ⟨w.heap.size, 1, none⟩ = some (.int .u64 18446744073709551615) := c1
  have d2 : W.drew.cell? ⟨w.heap.size, 2, none⟩ = some (.slice none 0 0) := c2
  have s0 : W.drew.cell? ⟨g, 0, none⟩ = some (.slice A fs.length c) := t0
  have HG := Lib.hid hG
  unfold fcV at HS HSd
  dsimp only at HS HSd
  obtain ⟨n, hn⟩ : ∃ n, n = fs.length := ⟨_, rfl⟩
  rw [← hn] at HS HSd t0 s0
  clear hc hC hG hT hr hl hn hri
  go_enter Tryd.func77, Tryd.ntmps77
  go_upto_region 2 with fail
  rw [← hW]
  clear hW
  go_region_with (go_at_call 108; refine Calls.mono (by first | exact HS.out | exact HSd.out) ?_; rintro e w3 ⟨i, v3, rfl, h1, h2⟩; have H3 : Hid (PosF fs (k, 18446744073709551615, []) i ∧ Gr w w3) := ⟨h1, (by first | exact HG.out.trans h2 | exact HG.out.trans ((Gr.drewN W 1).trans h2))⟩; clear h1 h2)
  all_goals
    go_wp2_with fail
    go_ret
    exact ⟨i, rfl, H3.out.1, H3.out.2⟩
end
end Go.Proofs.YtghcfmkmndldoaaDoor
