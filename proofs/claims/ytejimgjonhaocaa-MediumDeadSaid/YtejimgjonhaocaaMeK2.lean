/-
  slices.AppendSeq and Collect of an iterator of numbers.
-/
import Derived.Test.YtejimgjonhaocaaMeK0
import Derived.Shelf.SlIter.Collect
namespace Go.Proofs.Ytejimgjonhaocaa
open Go.RowKit Go.Maps Go.Lib Go.Shelf

attribute [local go_sem] Oper.semAt_some

theorem info_u64 : (Try.prog.info? 34).map (fun i => (i.zero, i.size, i.bytes)) = some (some (.int .u64 0), 1, 8) := by kernel_rfl
/-- where AppendSeq's loop stands: the box, the deferred calls' block, the loop's record; the row in a block of its own -/
structure ApS (w : World) (rc : Obj) (ss : List Nat) (X : World) : Prop where
  rcd : X.heap[w.heap.size + 2]? = some rc
  dfr : X.heap[w.heap.size + 1]? = some (.deferred (some []))
  row : ∃ v, X.heap[w.heap.size]? = some (.cells #[v] 23 (0, 0)) ∧ X.ownsRow w.heap.size 34 1 v ss.length (ss.map kV)
  bel : Below w.heap.size w X
theorem ApS.abides {w : World} {rc : Obj} (hrc : rc.isWalk = false) (B : Nat) (hB : w.heap.size ≤ B) : AbidesFrom B (fun ss X => ApS w rc ss X) := fun s X X' row h hg hrow => by
  have hrow' : ∀ r, row = some r → ∃ o : Obj, X.heap[r]? = some o ∧ o.isWalk = true := fun r e => (hrow r e).2
  obtain ⟨v, hv, hr⟩ := h.row
  exact ⟨(grownBy_keeps hg hrow' h.rcd hrc).trans h.rcd, (grownBy_keeps hg hrow' h.dfr rfl).trans h.dfr, ⟨v, (grownBy_keeps hg hrow' hv rfl).trans hv, ownsRow_abides_a hr hg hrow'⟩, h.bel.grown hg h.bel.size (fun k e => Nat.le_trans hB (hrow k e).1)⟩
/-- the record is turned -/
theorem ApS.turn {w X : World} {rc : Obj} {ss : List Nat} (h : ApS w rc ss X) (hnc : ∀ cs t z, rc ≠ .cells cs t z) (ro : Obj) : ApS w ro ss (X.putObj (w.heap.size + 2) ro) := by
  have hlt := (Array.getElem?_eq_some_iff.1 h.rcd).1
  obtain ⟨v, hv, hr⟩ := h.row
  exact ⟨World.putObj_heap_same hlt, (World.putObj_heap_other (by omega)).trans h.dfr, ⟨v, (World.putObj_heap_other (by omega)).trans hv, hr.kept (grownBy_putObj_a _ _ _) (ownsRow_ne_a hr h.rcd (fun cur e => hnc _ _ _ e))⟩,
    h.bel.grown (grownBy_putObj_a _ _ _) h.bel.size (fun k e => by cases e; omega)⟩
/-- one number is appended and stored in the box -/
theorem ApS.step {w Wb w' : World} {rb rr : Obj} {ss : List Nat} {x : Nat} {v v' : Value} (h : ApS w rb ss Wb) (hv : Wb.heap[w.heap.size]? = some (.cells #[v] 23 (0, 0))) (hr : Wb.ownsRow w.heap.size 34 1 v ss.length (ss.map kV))
    (ho : w'.ownsRow w.heap.size 34 1 v' (ss.length + 1) (ss.map kV ++ [kV x])) (hg : (Wb.alloc (.cells #[kV x] 34)).grownBy w' v.ownBlock) (hnc : ∀ cs t z, rb ≠ .cells cs t z) (hwk : rb.isWalk = false) :
    (w'.cell? ⟨w.heap.size, 0, none⟩ = some v ∧ w'.frozen? ⟨w.heap.size, 0, none⟩ = false) ∧ (w'.setCell ⟨w.heap.size, 0, none⟩ v').heap[w.heap.size + 2]? = some rb ∧ ApS w rr (ss ++ [x]) ((w'.setCell ⟨w.heap.size, 0, none⟩ v').putObj (w.heap.size + 2) rr) ∧ KeepsWalks Wb ((w'.setCell ⟨w.heap.size, 0, none⟩ v').putObj (w.heap.size + 2) rr) := by
  have hlt : ∀ {b o}, Wb.heap[b]? = some o → b < Wb.heap.size := fun e => (Array.getElem?_eq_some_iff.1 e).1
  have hne : ∀ {j : Nat} {o : Obj}, Wb.heap[j]? = some o → (∀ cur, o ≠ .cells cur 34 (0, 0)) → some j ≠ v.ownBlock := fun hj hno => by
    rcases ownsRow_ne_a hr hj hno with e | e
    · rw [e]; simp
    · exact fun e' => e e'.symm
  have old : ∀ {j : Nat} {o : Obj}, Wb.heap[j]? = some o → (∀ cur, o ≠ .cells cur 34 (0, 0)) → w'.heap[j]? = some o := fun hj hno =>
    (hg.block _ (by have := hlt hj; simp; omega) (hne hj hno)).trans ((Below.heap_alloc _ _ _ (hlt hj)).trans hj)
  have hv1 := old hv (fun cur e => by injection e with _ e _; exact absurd e (by decide))
  have hl1 := old h.rcd (fun cur e => hnc _ _ _ e)
  have hd1 := old h.dfr (fun cur e => by cases e)
  have hb1 : Below w.heap.size w w' := (h.bel.alloc h.bel.size _).grown hg (by have := h.bel.size; simp; omega) (fun k e => (hr.lt k e).1)
  have hg2 : w'.grownBy (w'.setCell ⟨w.heap.size, 0, none⟩ v') (some w.heap.size) := grownBy_setCell0_a _ _ _
  have hl2 : (w'.setCell ⟨w.heap.size, 0, none⟩ v').heap[w.heap.size + 2]? = some rb := (hg2.block _ (Array.getElem?_eq_some_iff.1 hl1).1 (fun e => by injection e with e; omega)).trans hl1
  have hd2 : (w'.setCell ⟨w.heap.size, 0, none⟩ v').heap[w.heap.size + 1]? = some (.deferred (some [])) := (hg2.block _ (Array.getElem?_eq_some_iff.1 hd1).1 (fun e => by injection e with e; omega)).trans hd1
  have hA : ApS w rb (ss ++ [x]) (w'.setCell ⟨w.heap.size, 0, none⟩ v') := ⟨hl2, hd2, ⟨v', heap_setCell_box_a _ hv1, by
      have := ho.kept hg2 (ownsRow_ne_a ho hv1 (fun cur e => by injection e with _ e _; exact absurd e (by decide)))
      simpa using this⟩, hb1.grown hg2 hb1.size (fun k e => by cases e; exact Nat.le_refl _)⟩
  exact ⟨cell_of_box_a hv1, hl2, hA.turn hnc rr, (((KeepsWalks.alloc Wb _).trans (KeepsWalks.of_grownBy hg (ownsRow_not_walk_a (hr.alloc _)))).trans (KeepsWalks.setCell _ _ _)).trans (KeepsWalks.putObj _ hl2 hwk)⟩
theorem row_shape {X : World} {base n : Nat} {v : Value} {xs : List Value} (h : X.ownsRow base 34 1 v n xs) : ∃ A c, v = .slice A n c := by
  rcases h.2 with ⟨e, h0⟩ | ⟨g, cap, cur, e, _⟩
  · exact ⟨none, 0, by rw [e, h0]⟩
  · exact ⟨_, _, e⟩
section
set_option maxRecDepth 100000
set_option maxHeartbeats 8000000
theorem append_any (m g : Nat) (lb : Array Value) (eg : ∀ args w, (callFunc g args).run Try.prog w = .ok (.enter g args) w) (S : List Nat → Prop) (N : Nat) (hN : N ≤ 1000000) (w : World) (hseq : SeqGives Fence.wide m Try.prog g lb kV S N w) :
    CallsIn Fence.wide (m + 1) Try.prog 46 #[.slice none 0 0, .func (.func g) #[] lb] w fun e w' => ∃ (v : Value) (ss : List Nat), e = .returned v ∧ S ss ∧ w'.ownsRow w.heap.size 34 1 v ss.length (ss.map kV) ∧ Below w.heap.size w w' := by
  refine callsIn_of_wp_marks Try.func46 rfl trivial ?_ rfl
  simp only [Try.ntmps46, List.size_toArray, List.length_cons, List.length_nil, Nat.reduceAdd, Nat.reduceSub, Array.replicate_succ, Array.replicate_zero, List.push_toArray, List.append_toArray, List.nil_append, List.cons_append]
  gi_wp2
  obtain ⟨W0, hW0⟩ : ∃ W0, w.alloc (.cells #[.slice none 0 0] 23) = W0 := ⟨_, rfl⟩
  have hs0 : W0.heap.size = w.heap.size + 1 := by rw [← hW0]; simp
  have hv0 : W0.heap[w.heap.size]? = some (.cells #[.slice none 0 0] 23 (0, 0)) := by rw [← hW0]; exact World.alloc_heap_new w _
  have hb0 : Below w.heap.size w W0 := by rw [← hW0]; exact (Below.refl _ w).alloc (Nat.le_refl _) _
  rw [hW0]
  refine range_wp rfl rfl rfl trivial eg ?_
  intro fn hfn
  generalize hrc : lrec fn _ _ _ _ W0.heap.size = rc
  have hcell : ∀ st pe (cs : Array Value) t z, rc st pe ≠ .cells cs t z := fun st pe cs t z e => by rw [← hrc] at e; cases e
  have hwk : ∀ st pe, (rc st pe).isWalk = false := fun st pe => by rw [← hrc]; rfl
  have hs1 : (W0.alloc (.deferred (some []))).heap.size = w.heap.size + 2 := by simp [hs0]
  have hL : W0.heap.size + 1 = w.heap.size + 2 := by omega
  have hM : ApS w (rc .ready none) [] ((W0.alloc (.deferred (some []))).alloc (rc .ready none)) := by
    refine ⟨?_, ?_, ⟨.slice none 0 0, ?_, World.ownsRow_nil _ _ _ _⟩, ?_⟩
    · have := World.alloc_heap_new (W0.alloc (.deferred (some []))) (rc .ready none)
      rwa [hs1] at this
    · have := World.alloc_heap_new W0 (.deferred (some []))
      rw [hs0] at this
      exact (Below.heap_alloc _ _ _ (by rw [hs1]; omega)).trans this
    · exact (Below.heap_alloc _ _ _ (by rw [hs1]; omega)).trans ((Below.heap_alloc _ _ _ (by omega)).trans hv0)
    · exact (hb0.alloc (by omega) _).alloc (by rw [hs1]; omega) _
  refine (hseq (W0.heap.size + 1) (fun ss X => ApS w (rc .ready none) ss X) _ hM.bel (ApS.abides (hwk _ _) _ hM.bel.size) ?hY hM).mono ?fin
  case hY =>
    intro pre x W1 h hlen
    have hl := h.rcd
    rw [← hs1] at hl
    simp only [World.size_alloc] at hl
    rw [← hrc] at hl
    refine round_yields trivial rfl hl ?_
    simp only [hrc]
    rw [hL]
    unfold kV
    gi_wp2
    refine ⟨h.rcd, ?_⟩
    have hB : ApS w (rc .busy none) pre (W1.putObj (w.heap.size + 2) (rc .busy none)) := h.turn (hcell _ _) _
    have hK1 : KeepsWalks W1 (W1.putObj (w.heap.size + 2) (rc .busy none)) := KeepsWalks.putObj _ h.rcd (hwk _ _)
    generalize W1.putObj (w.heap.size + 2) (rc .busy none) = Wb at *
    obtain ⟨v, hv, hr⟩ := hB.row
    obtain ⟨Av, cv, rfl⟩ := row_shape hr
    have c0 := (cell_of_box_a hv).1
    obtain ⟨i0, hi0, hz0, hz1, hz2⟩ := info_parts info_u64
    have HS := Lib.hid fun v' w' q1 q2 => hB.step (w' := w') (v' := v') (rr := rc .ready none) (x := x) hv hr q1 q2 (hcell _ _) (hwk _ _)
    have Hr := Lib.hid hr
    have HW : Hid (w.heap.size ≤ Wb.heap.size ∧ pre.length < N ∧ N ≤ 1000000) := ⟨hB.bel.size, hlen, hN⟩
    have HK := Lib.hid hK1
    clear hB hK1 hv hr h hlen hM hseq hb0 hv0
    gi_wp2_with (gi_at_builtin; refine wpListIn_append_own _ rfl _ _ 23 rfl w.heap.size 34 i0 _ 1 8 Try.underlying23 hi0 hz0 hz1 hz2 rfl (by omega) _ pre.length (pre.map kV) rfl (World.ownsRow.alloc Hr.out _) ⟨Wb.heap.size, 0, none⟩ 1 1 [.int .u64 (x : Int)] rfl rfl (fun j u hj => by rw [add_flat, Nat.zero_add]; exact (Cells.new Wb _ _).cell hj) (by intro u hu; simp only [List.mem_cons, List.not_mem_nil, or_false] at hu; rcases hu with rfl; rfl) (by have := HW.out; simp only [maxLen]; omega) (by have := HW.out; omega) (by have := HW.out.1; simp; omega) ?_; intro v' w4 q1 q2 _; obtain ⟨A4, c4, rfl⟩ := row_shape q1; have hst := HS.out _ _ q1 q2; have d6 := hst.1.1; have z6 := hst.1.2; have H5 := Lib.hid hst.2; clear hst q1 q2)
    exact ⟨H5.out.1, rfl, H5.out.2.1, HK.out.trans H5.out.2.2⟩
  case fin =>
    rintro e W2 ⟨⟨v0, rfl⟩, ss, hS, h2⟩
    rw [hL]
    refine ⟨⟨_, rfl⟩, .inl ⟨h2.rcd, ?_⟩⟩
    have hF := h2.turn (hcell _ _) (rc .exhausted none)
    generalize W2.putObj (w.heap.size + 2) (rc .exhausted none) = X at hF ⊢
    obtain ⟨v, hv, hr⟩ := hF.row
    obtain ⟨Av, cv, rfl⟩ := row_shape hr
    have c0 := (cell_of_box_a hv).1
    have hd := hF.dfr
    gi_wp2
    refine ⟨by simp, .inl ⟨_, _, rfl, run_takeDeferred hd, ?_⟩⟩
    exact ⟨_, results_tmp rfl _ _ _, .slice Av ss.length cv, rfl, ss, hS, hr.kept (grownBy_putObj_a _ _ _) (ownsRow_ne_a hr hd (fun cur e => by cases e)), hF.bel.grown (grownBy_putObj_a _ _ _) hF.bel.size (fun k e => by cases e; omega)⟩
theorem collect_any (m g : Nat) (lb : Array Value) (eg : ∀ args w, (callFunc g args).run Try.prog w = .ok (.enter g args) w) (S : List Nat → Prop) (N : Nat) (hN : N ≤ 1000000) (w : World) (hseq : SeqGives Fence.wide m Try.prog g lb kV S N w) :
    CallsIn Fence.wide (m + 1 + 1) Try.prog 43 #[.func (.func g) #[] lb] w fun e w' => ∃ (v : Value) (ss : List Nat), e = .returned v ∧ S ss ∧ w'.ownsRow w.heap.size 34 1 v ss.length (ss.map kV) ∧ Below w.heap.size w w' := by
  have HA := Lib.hid (append_any m g lb eg S N hN w hseq)
  clear hseq
  refine callsIn_of_wp Try.func43 rfl trivial ?_ rfl
  simp only [Try.ntmps43, List.size_toArray, List.length_cons, List.length_nil, Nat.reduceAdd, Nat.reduceSub, Array.replicate_succ, Array.replicate_zero, List.push_toArray, List.append_toArray, List.nil_append, List.cons_append]
  gi_wp2
  refine ⟨trivial, HA.out.mono ?_⟩
  rintro e w2 ⟨v, ss, rfl, hS, hr, hb⟩
  have H2 : Hid (S ss ∧ w2.ownsRow w.heap.size 34 1 v ss.length (ss.map kV) ∧ Below w.heap.size w w2) := ⟨hS, hr, hb⟩
  obtain ⟨Av, cv, rfl⟩ := row_shape hr
  clear hS hr hb HA
  gi_wp2
  go_ret
  exact ⟨_, ss, rfl, H2.out⟩
end
end Go.Proofs.Ytejimgjonhaocaa
