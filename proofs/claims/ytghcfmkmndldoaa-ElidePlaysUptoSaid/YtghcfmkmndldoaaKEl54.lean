/-
  Forget, Len.
-/
import Derived.Test.YtghcfmkmndldoaaKEl37
import Derived.Test.YtghcfmkmndldoaaEl50
import Derived.Test.YtghcfmkmndldoaaKEl17
namespace Go.Proofs.Ytghcfmkmndldoaa
open Go.RowKit Go.Sort Go.Lib

section
set_option maxRecDepth 100000
set_option maxHeartbeats 8000000
theorem deleO_any (up ub base n c : Nat) (A : Option Addr) (es : List Ec) (w : World) (ho : OwnE w base (.slice A n c) es) (hn : n = es.length) (hu : Cells w ub 24 [.int .u64 (up : Int)]) (hl : n ≤ 1000000000) :
    Calls Try.prog 39 #[.slice A n c, .func (.func 40) #[] #[.pointer (some ⟨ub, 0, none⟩)]] w fun r w' => ∃ A' m c', r = .returned (.slice A' m c') ∧ OwnE w' base (.slice A' m c') (es.filter (newB up)) ∧ Kept (fun k => (Value.slice A n c).ownBlock ≠ some k) w w' ∧ (Value.slice A' m c').ownBlock = (Value.slice A n c).ownBlock := by
  have hform := ho.2
  rcases hform with ⟨e, h0⟩ | ⟨g, cap, cur, e, _⟩
  · cases e
    have hes : es = [] := List.eq_nil_of_length_eq_zero h0
    subst hes
    have HI := Lib.hid (idxE_any up ub none 0 [] w (RE.nil _ _ _) (by simp) hu)
    have H0 := Lib.hid ho
    clear ho hn hu hl h0
    show Calls _ _ #[.slice none 0 0, _] _ _
    rw [show ([] : List Ec).length = 0 from rfl] at HI
    go_enter Try.func39, Try.ntmps39
    go_wp2_with fail
    refine HI.out.mono ?_
    rintro r w1 ⟨z, rfl, hz, hb1⟩
    have hz1 : z = -1 := by
      rcases hz with ⟨q, _⟩ | ⟨i, _, q, _⟩
      · exact q
      · exact absurd q (Nat.not_lt_zero _)
    subst hz1
    have Hf : Hid (OwnE w1 base (.slice none 0 0) [] ∧ Kept (fun k => (Value.slice none 0 0).ownBlock ≠ some k) w w1) := ⟨OwnE.nil _ _, (Kept.refl _ _).below hb1⟩
    clear hz hb1 HI
    go_wp2_with fail
    go_ret
    exact ⟨none, 0, 0, rfl, Hf.out.1, Hf.out.2, rfl⟩
  · cases e
    obtain ⟨L, hR, hLt, hbg, hnc, hcm, _⟩ := ho.row
    have hug : ub ≠ g := fun q => by
      subst q
      unfold Cells at hu
      rw [hR.at_] at hu
      cases hu
    refine (dele_any up ub base g es.length c es L w hR hLt rfl hbg hcm hnc hu hug (by omega)).mono ?_
    rintro r w' ⟨m, rfl, h1, h2⟩
    exact ⟨_, m, c, rfl, h1, h2.mono fun k _ q e => q (by rw [e]; rfl), rfl⟩
theorem plen_any (g base : Nat) (l : List Ec) (w : World) (h : SetAt w base g l) :
    Calls Try.prog 19 #[.pointer (some ⟨g, 0, none⟩)] w fun r w' => r = .returned (.int .i64 (l.length : Int)) ∧ Below w.heap.size w w' := by
  obtain ⟨v, hg, ho⟩ := h.cell
  obtain ⟨A, c, rfl, -⟩ := ho.rd
  have g0 := hg.cell (i := 0) rfl
  clear h hg ho
  go_enter Try.func19, Try.ntmps19
  go_wp2_with fail
  go_ret
  exact ⟨rfl, Below.refl _ _⟩
theorem pforget_any (up base g : Nat) (vs : Value) (l : List Ec) (w : World) (h : SetV w base g vs l) (hb : base ≤ w.heap.size) (hl : l.length ≤ 1000000000) :
    Calls Try.prog 14 #[.pointer (some ⟨g, 0, none⟩), .int .u64 (up : Int)] w fun r w' => r = .returned (.int .i64 ((l.length - (l.filter (newB up)).length : Nat) : Int)) ∧ ∃ v', SetV w' base g v' (l.filter (newB up)) ∧ v'.ownBlock = vs.ownBlock ∧ Below base w w' ∧ Kept (fun k => k ≠ g ∧ vs.ownBlock ≠ some k) w w' := by
  obtain ⟨W1, hW1⟩ : ∃ W1, W1 = w.alloc (.cells #[.int .u64 (up : Int)] 24) := ⟨_, rfl⟩
  have hb1 : Below w.heap.size w W1 := by rw [hW1]; exact (Below.refl _ _).alloc (Nat.le_refl _) _
  have hu : Cells W1 w.heap.size 24 [.int .u64 (up : Int)] := by rw [hW1]; exact Cells.new w _ _
  have h1 := h.below hb1
  have hg := h1.cell
  have ho := h1.own
  obtain ⟨A, c, ev, -⟩ := ho.rd
  obtain ⟨n, hn⟩ : ∃ n, n = l.length := ⟨_, rfl⟩
  rw [← hn] at ev hl ⊢
  subst ev
  have g0 := hg.cell (i := 0) rfl
  have hfl : (l.filter (newB up)).length ≤ n := by rw [hn]; exact List.length_filter_le _ _
  have HD : Hid (Calls Try.prog 39 #[.slice A n c, .func (.func 40) #[] #[.pointer (some ⟨w.heap.size, 0, none⟩)]] W1 fun r w' => ∃ A' c', r = .returned (.slice A' (l.filter (newB up)).length c') ∧ Cells w' g 65 [.slice A n c] ∧ SetV (w'.setCell ⟨g, 0, none⟩ (.slice A' (l.filter (newB up)).length c')) base g (.slice A' (l.filter (newB up)).length c') (l.filter (newB up)) ∧ Below base w (w'.setCell ⟨g, 0, none⟩ (.slice A' (l.filter (newB up)).length c')) ∧ Kept (fun k => k ≠ g ∧ (Value.slice A n c).ownBlock ≠ some k) w (w'.setCell ⟨g, 0, none⟩ (.slice A' (l.filter (newB up)).length c')) ∧ (Value.slice A' (l.filter (newB up)).length c').ownBlock = (Value.slice A n c).ownBlock) := by
    show Calls _ _ _ _ _
    refine (deleO_any up w.heap.size base n c A l W1 ho hn hu hl).mono ?_
    rintro r w' ⟨A', m, c', rfl, ho', hk, hsame⟩
    obtain ⟨A9, c9, e9, -⟩ := ho'.rd
    cases e9
    have hg' := hg.move (hk.block _ hg.lt (ho.notPSet hg))
    have hk2 : Below base W1 w' := hk.to_below (fun k hkb q => by have := (ho.ge k q).1; omega) (Nat.le_trans hb hb1.size)
    have hge := h1.ge
    refine ⟨A', c', rfl, hg', ⟨hg'.set 0 _, ho'.move fun k hk9 => Below.heap_setCell _ _ _ _ (fun q => ho'.notPSet hg' (by rw [hk9]; exact congrArg some q)), h1.plain.sub List.filter_sublist, hge, by omega⟩, ((hb1.mono hb).trans hk2).setCell (p := ⟨g, 0, none⟩) hge _, ?_, hsame⟩
    exact ((((Kept.refl _ _).below hb1).trans (hk.mono fun k _ q => q.2))).setCell (p := ⟨g, 0, none⟩) (fun q => q.1 rfl) _
  generalize hfn : (l.filter (newB up)).length = fn at *
  have hn9 : (n : Int) ≤ 1000000000 := by omega
  have hw1 : IntKind.i64.wrap ((n : Int) - (fn : Int)) = ((n - fn : Nat) : Int) := by rw [IntKind.wrap_i64]; omega
  clear h hb hb1 hu h1 hg ho hn hl hfn
  rw [hW1] at g0
  go_enter Try.func14, Try.ntmps14
  go_wp2_with fail
  rw [← hW1]
  clear hW1 g0
  refine HD.out.mono ?_
  rintro r w2 ⟨A2, c2, rfl, hc2, hs2, hb2, hk2, hsame⟩
  have x0 := hc2.cell (i := 0) rfl
  have z0 := hc2.frozen 0
  have H2 : Hid (∃ v', SetV (w2.setCell ⟨g, 0, none⟩ (.slice A2 fn c2)) base g v' (l.filter (newB up)) ∧ v'.ownBlock = (Value.slice A n c).ownBlock ∧ Below base w (w2.setCell ⟨g, 0, none⟩ (.slice A2 fn c2)) ∧ Kept (fun k => k ≠ g ∧ (Value.slice A n c).ownBlock ≠ some k) w (w2.setCell ⟨g, 0, none⟩ (.slice A2 fn c2))) := ⟨_, hs2, hsame, hb2, hk2⟩
  clear hc2 hs2 hb2 HD hk2 hsame
  go_wp2_with fail
  go_ret
  exact ⟨by first | rfl | (rw [hw1]; rfl), H2.out⟩
end
end Go.Proofs.Ytghcfmkmndldoaa

/-
  Both sets side by side.
-/
namespace Go.Proofs.Ytghcfmkmndldoaa
open Go.RowKit Go.Sort Go.Lib

theorem len_bound : ∀ (ks B : List ByteArray), SortB ks → (∀ k ∈ ks, k ∈ B) → ks.length ≤ B.length
  | [], _, _, _ => Nat.zero_le _
  | k :: ks, B, hs, hm => by
    obtain ⟨h1, h2⟩ := List.pairwise_cons.1 hs
    have hlt : (B.filter fun y => decide (y ≠ k)).length < B.length := by
      rw [List.length_filter_lt_length_iff_exists]
      exact ⟨k, hm k List.mem_cons_self, by simp⟩
    have := len_bound ks (B.filter fun y => decide (y ≠ k)) h2 fun y hy => List.mem_filter.2 ⟨hm y (List.mem_cons_of_mem _ hy), by
      have : y ≠ k := fun e => by
        have := h1 y hy
        rw [e] at this
        exact kl_irrefl _ this
      simpa using this⟩
    rw [List.length_cons]
    omega
theorem plain_len {ls : List Ec} {B : List ByteArray} (h : PlainE ls) (hm : ∀ x ∈ ls, x.1 ∈ B) : ls.length ≤ B.length := by
  have h1 : SortB (ls.map fun x => x.1) := by
    refine List.pairwise_map.2 (List.pairwise_iff_getElem.2 fun i j hi hj hij => ?_)
    have := plain_rise h (List.getElem?_eq_getElem hi) (List.getElem?_eq_getElem hj) hij
    exact kl_ke (h.ok _ (List.getElem_mem hi)) this
  have := len_bound _ B h1 fun k hk => by
    obtain ⟨x, hx, rfl⟩ := List.mem_map.1 hk
    exact hm x hx
  simpa using this
/-- BOTH SETS SIDE BY SIDE -/
structure PairAt (w wr : World) (gP gR : Nat) (B : List ByteArray) (K : Nat) (vP : Value) (out : List Ec) (vR : Value) (L : List Ec) : Prop where
  p : SetV wr w.heap.size gP vP out
  r : RefSet wr w.heap.size gR vR L
  dis : ∀ b, vP.ownBlock = some b → vR.ownBlock ≠ some b
  bnd : ∀ y ∈ bndE L, y ∈ B
  ge : w.heap.size ≤ gR
  len : L.length ≤ K
  bel : Below w.heap.size w wr
section
variable {w wr w' : World} {gP gR K : Nat} {B : List ByteArray} {vP vR vP' vR' : Value} {out out' L L' : List Ec}
theorem PairAt.below (h : PairAt w wr gP gR B K vP out vR L) (hb : Below wr.heap.size wr w') : PairAt w w' gP gR B K vP out vR L :=
  ⟨h.p.below hb, h.r.below hb, h.dis, h.bnd, h.ge, h.len, h.bel.trans (hb.mono h.bel.size)⟩
theorem PairAt.ne (h : PairAt w wr gP gR B K vP out vR L) : gP ≠ gR := fun e => by
  have h1 := h.p.cell
  have h2 := h.r.cell
  subst e
  unfold Cells at h1 h2
  rw [h1] at h2
  cases h2
theorem PairAt.stepP (h : PairAt w wr gP gR B K vP out vR L) (hS : SetV w' w.heap.size gP vP' out') (hK : Kept (fun k => k ≠ gP ∧ vP.ownBlock ≠ some k) wr w') (hN : ∀ b, vP'.ownBlock = some b → vP.ownBlock = some b ∨ wr.heap.size ≤ b) : PairAt w w' gP gR B K vP' out' vR L := by
  have hne := h.ne
  have hc := h.r.cell.move (hK.block _ h.r.cell.lt ⟨fun e => hne e.symm, h.p.own.notSet h.r.cell⟩)
  have ho := h.r.own.move (w' := w') fun b hb => hK.block b (h.r.own.ge b hb).2 ⟨fun e => h.r.own.notPSet h.p.cell (by rw [hb, e]), fun q => h.dis b q hb⟩
  refine ⟨hS, ⟨hc, ho, h.r.len⟩, fun b hb q => ?_, h.bnd, h.ge, h.len, h.bel.trans (hK.to_below (fun k hk => ⟨by have := h.p.ge; omega, fun q => by have := (h.p.own.ge k q).1; omega⟩) h.bel.size)⟩
  rcases hN b hb with p | p
  · exact h.dis b p q
  · have := (h.r.own.ge b q).2
    omega
theorem PairAt.stepR (h : PairAt w wr gP gR B K vP out vR L) (hR : RefSet w' w.heap.size gR vR' L') (hK : Kept (fun k => k ≠ gR ∧ vR.ownBlock ≠ some k) wr w') (hN : ∀ b, vR'.ownBlock = some b → vR.ownBlock = some b ∨ wr.heap.size ≤ b) {K' : Nat} (hl : L'.length ≤ K') (hbn : ∀ y ∈ bndE L', y ∈ B) : PairAt w w' gP gR B K' vP out vR' L' := by
  have hne := h.ne
  have hc := h.p.cell.move (hK.block _ h.p.cell.lt ⟨hne, h.r.own.notPSet h.p.cell⟩)
  have ho := h.p.own.move (w' := w') fun b hb => hK.block b (h.p.own.ge b hb).2 ⟨fun e => h.p.own.notSet h.r.cell (by rw [hb, e]), fun q => h.dis b hb q⟩
  refine ⟨⟨hc, ho, h.p.plain, h.p.ge, h.p.len⟩, hR, fun b hb q => ?_, hbn, h.ge, hl, h.bel.trans (hK.to_below (fun k hk => ⟨by have := h.ge; omega, fun q => by have := (h.r.own.ge k q).1; omega⟩) h.bel.size)⟩
  rcases hN b q with p | p
  · exact h.dis b hb p
  · have := (h.p.own.ge b hb).2
    omega
theorem bnd_snoc {l : List Ec} {e : Ec} {y : ByteArray} (h : y ∈ bndE (l ++ [e])) : y ∈ bndE l ∨ y = e.1 ∨ y = e.2.1 := by
  rw [bnd_append] at h
  rcases List.mem_append.1 h with h | h
  · exact .inl h
  · simp [bndE] at h
    exact .inr h
theorem bnd_sub {l m : List Ec} (h : m ⊆ l) {y : ByteArray} (hy : y ∈ bndE m) : y ∈ bndE l := by
  obtain ⟨e, he, q⟩ := List.mem_flatMap.1 hy
  exact List.mem_flatMap.2 ⟨e, h he, q⟩
end
end Go.Proofs.Ytghcfmkmndldoaa

/-
  Over.
-/
namespace Go.Proofs.Ytghcfmkmndldoaa
open Go.RowKit Go.Sort Go.Lib

theorem filter_range {p : Ec → Bool} {l : List Ec} {a b : Nat} (hab : a ≤ b) (h : ∀ i x, l[i]? = some x → (p x = true ↔ a ≤ i ∧ i < b)) : l.filter p = (l.take b).drop a := by
  have e1 : l = l.take a ++ (l.take b).drop a ++ l.drop b := by
    have : l.take a = (l.take b).take a := by rw [List.take_take, Nat.min_eq_left hab]
    rw [this, List.take_append_drop, List.take_append_drop]
  conv => lhs; rw [e1]
  rw [List.filter_append, List.filter_append]
  have f1 : (l.take a).filter p = [] := List.filter_eq_nil_iff.2 fun x hx => by
    obtain ⟨j, hj⟩ := List.getElem?_of_mem hx
    rw [List.getElem?_take] at hj
    split at hj
    · rw [h j x hj]; omega
    · cases hj
  have f2 : ((l.take b).drop a).filter p = (l.take b).drop a := List.filter_eq_self.2 fun x hx => by
    obtain ⟨j, hj⟩ := List.getElem?_of_mem hx
    rw [List.getElem?_drop, List.getElem?_take] at hj
    split at hj
    · rename_i q
      exact (h _ x hj).2 ⟨by omega, q⟩
    · cases hj
  have f3 : (l.drop b).filter p = [] := List.filter_eq_nil_iff.2 fun x hx => by
    obtain ⟨j, hj⟩ := List.getElem?_of_mem hx
    rw [List.getElem?_drop] at hj
    rw [h _ x hj]; omega
  rw [f1, f2, f3, List.nil_append, List.append_nil]
theorem mono_lo {l : List Ec} (h : PlainE l) (k : ByteArray) : MonoE l (fun x => Op.bytesLess x.1.toList k.toList) := fun i j x y hij hx hy hq => by
  rcases Nat.lt_or_ge i j with q | q
  · have h1 := plain_rise h hx hy q
    have h2 := h.ok x (List.mem_of_getElem? hx)
    exact kl_trans (kl_ke h2 h1) hq
  · obtain rfl : i = j := by omega
    rw [hx] at hy
    cases hy
    exact hq
theorem over_cuts {l : List Ec} {lo hi : ByteArray} {a b : Nat} (hp : PlainE l) (hlh : kl lo hi) (ha : CntP l (fun x => leB x.2.1 lo) a) (hb : CntP l (fun x => Op.bytesLess x.1.toList hi.toList) b) :
    a ≤ b ∧ l.filter (ovB lo hi) = (l.take b).drop a := by
  have hab : a ≤ b := Decidable.byContradiction fun q => by
    have hlt : b < l.length := by have := ha.1; omega
    obtain ⟨x, hx⟩ : ∃ x, l[b]? = some x := ⟨_, List.getElem?_eq_getElem hlt⟩
    have h1 := leB_iff.1 ((ha.2 b x hx).2 (by omega))
    have h2 : kl x.1 hi := kl_trans (kl_ke (hp.ok x (List.mem_of_getElem? hx)) h1) hlh
    have := (hb.2 b x hx).1 h2
    omega
  refine ⟨hab, filter_range hab fun i x hx => ?_⟩
  have h1 := ha.2 i x hx
  have h2 := hb.2 i x hx
  unfold ovB
  rw [show Op.bytesLess lo.toList hi.toList = true from hlh, Bool.true_and, Bool.and_eq_true, h2]
  have h3 : Op.bytesLess lo.toList x.2.1.toList = true ↔ ¬ i < a := by
    rw [← h1, leB_iff, ke_iff]
    exact Decidable.not_not.symm
  rw [h3]
  omega
section
set_option maxRecDepth 100000
set_option maxHeartbeats 8000000
theorem pover_any (base g : Nat) (l : List Ec) (lo hi : ByteArray) (w : World) (h : SetAt w base g l) (hl : l.length ≤ 1000000000) :
    Calls Try.prog 24 #[.pointer (some ⟨g, 0, none⟩), .string lo, .string hi] w fun r w' => ∃ v', r = .returned v' ∧ OwnE w' w.heap.size v' (l.filter (ovB lo hi)) ∧ Below w.heap.size w w' := by
  obtain ⟨W1, hW1⟩ : ∃ W1, W1 = (w.alloc (.cells #[.string lo] 9)).alloc (.cells #[.string hi] 9) := ⟨_, rfl⟩
  have hb1 : Below w.heap.size w W1 := by rw [hW1]; exact ((Below.refl _ _).alloc (Nat.le_refl _) _).alloc (by simp) _
  have hC1 : Cells W1 w.heap.size 9 [.string lo] := by rw [hW1]; exact (Cells.new w _ _).alloc _
  have hC2 : Cells W1 (w.heap.size + 1) 9 [.string hi] := by
    rw [hW1]
    have := Cells.new (w.alloc (.cells #[.string lo] 9)) #[.string hi] 9
    rwa [show (w.alloc (.cells #[.string lo] 9)).heap.size = w.heap.size + 1 by simp] at this
  have H1 : Hid (SetAt W1 base g l ∧ Cells W1 w.heap.size 9 [.string lo] ∧ Cells W1 (w.heap.size + 1) 9 [.string hi] ∧ Below w.heap.size w W1) := ⟨h.below hb1, hC1, hC2, hb1⟩
  have e0 := hC1.cell (i := 0) rfl
  have e1 := hC2.cell (i := 0) rfl
  cases hlh : Op.bytesLess lo.toList hi.toList with
  | false =>
    have hf : l.filter (ovB lo hi) = [] := List.filter_eq_nil_iff.2 fun x _ => by unfold ovB; rw [hlh]; simp
    rw [hf]
    have hasym : Op.bytesLess lo.toList hi.toList = false := hlh
    clear h hl hb1 hC1 hC2 hf
    rw [hW1] at e0 e1
    go_enter Try.func24, Try.ntmps24
    go_wp2_with fail
    rw [← hW1]
    go_ret
    exact ⟨_, rfl, OwnE.nil _ _, H1.out.2.2.2⟩
  | true =>
    have HA := Lib.hid (overA_cnt lo w.heap.size g base l W1 H1.out.1 (mono_hi h.plain lo) hC1)
    have hasym := less_asymm hlh
    have Hlh : Hid (kl lo hi) := hlh
    have hne : (lo.toList == hi.toList) = false := by
      rw [beq_eq_false_iff_ne]
      intro e
      rw [e, less_irrefl] at hlh
      cases hlh
    have hne2 : (hi.toList == lo.toList) = false := by
      rw [beq_eq_false_iff_ne]
      intro e
      rw [e, less_irrefl] at hlh
      cases hlh
    clear h hb1 hC1 hC2
    rw [hW1] at e0 e1
    go_enter Try.func24, Try.ntmps24
    go_wp2_with fail
    rw [← hW1]
    clear hW1 e0 e1
    refine HA.out.mono ?_
    rintro r w2 ⟨a, rfl, ha, hb2⟩
    have H2 : Hid (SetAt w2 base g l ∧ Cells w2 (w.heap.size + 1) 9 [.string hi] ∧ Below w.heap.size w w2 ∧ CntP l (fun x => leB x.2.1 lo) a) := ⟨H1.out.1.below hb2, H1.out.2.2.1.move (hb2.block _ H1.out.2.2.1.lt), H1.out.2.2.2.trans (hb2.mono H1.out.2.2.2.size), ha⟩
    clear ha hb2 HA H1
    have HB := Lib.hid (overB_cnt hi (w.heap.size + 1) g base l w2 H2.out.1 (mono_lo H2.out.1.plain hi) H2.out.2.1)
    go_wp2_with fail
    refine HB.out.mono ?_
    rintro r w3 ⟨b, rfl, hb, hb3⟩
    have hcut := over_cuts H2.out.1.plain Hlh.out H2.out.2.2.2 hb
    have hbw : Below w.heap.size w w3 := H2.out.2.2.1.trans (hb3.mono H2.out.2.2.1.size)
    have hbl := hb.1
    obtain ⟨v, hg, ho⟩ := (H2.out.1.below hb3).cell
    obtain ⟨A, c, rfl, hlc, hA0, hr, -⟩ := ho.rd
    obtain ⟨n, hn⟩ : ∃ n, n = l.length := ⟨_, rfl⟩
    rw [← hn] at hg ho hlc hbl hl
    have g0 := hg.cell (i := 0) rfl
    have hsl : ((l.take b).drop a).length = b - a := by rw [List.length_drop, List.length_take]; omega
    have HC : Hid (∀ As cs, RE w3 w3.heap.size As ((l.take b).drop a) → Calls Try.prog 41 #[.slice As (b - a) cs] w3 fun r w' => ∃ A' m c', r = .returned (.slice A' m c') ∧ OwnE w' w.heap.size (.slice A' m c') (l.filter (ovB lo hi)) ∧ Below w.heap.size w w') := fun As cs hRE => by
      have := cloneE_any As cs ((l.take b).drop a) w3 hRE (by omega)
      rw [hsl] at this
      refine this.mono ?_
      rintro r w' ⟨v', rfl, h1, h2⟩
      obtain ⟨A9, c9, rfl, -⟩ := h1.rd
      exact ⟨A9, _, c9, rfl, by rw [hcut.2]; exact h1.wideB hbw.size, hbw.trans (h2.mono hbw.size)⟩
    have hcmx : c ≤ maxLen ∨ c = 0 := by
      rcases ho.2 with ⟨e9, _⟩ | ⟨g9, cap, cur, e9, _, _, h1, h2, _⟩
      · cases e9; right; rfl
      · cases e9; left; exact h2
    have hc9 : c ≤ 9223372036854775807 := by rcases hcmx with q | q <;> (try simp only [maxLen] at q) <;> omega
    have hab := hcut.1
    have hab' : (a : Int) ≤ (b : Int) := by omega
    have hbn' : (b : Int) ≤ (n : Int) := by omega
    have hbc' : (b : Int) ≤ (c : Int) := by omega
    have hac' : (a : Int) ≤ (c : Int) := by omega
    rcases Decidable.em (c = a) with hca | hca
    · obtain rfl : b = a := by omega
      have HC1 := Lib.hid (HC.out A 0 (by rw [List.drop_eq_nil_of_le (by rw [List.length_take]; omega)]; exact RE.nil _ _ _))
      rw [Nat.sub_self] at HC1
      subst hca
      clear hcmx hab hcut hbl hg ho hlc hA0 hr hsl HC hn hbw HB H2 hb hb3 hl
      go_wp2_with fail
      refine HC1.out.mono ?_
      rintro r w4 ⟨A4, m4, c4, rfl, h4⟩
      have H4 := Lib.hid h4
      clear h4 HC1
      go_wp2_with fail
      go_ret
      exact ⟨_, rfl, H4.out⟩
    · obtain ⟨gb, rfl⟩ : ∃ gb, A = some ⟨gb, 0, none⟩ := by
        rcases ho.2 with ⟨e9, _⟩ | ⟨g9, cap, cur, e9, _⟩
        · cases e9; omega
        · cases e9; exact ⟨g9, rfl⟩
      have HC1 := Lib.hid (HC.out (some ⟨gb, a * 3, none⟩) (c - a) (by have := (hr.take b).cut a; rwa [Nat.zero_add] at this))
      clear hcmx hab hcut hbl hg ho hlc hA0 hr hsl HC hn hbw HB H2 hb hb3 hl
      go_wp2_with fail
      refine HC1.out.mono ?_
      rintro r w4 ⟨A4, m4, c4, rfl, h4⟩
      have H4 := Lib.hid h4
      clear h4 HC1
      go_wp2_with fail
      go_ret
      exact ⟨_, rfl, H4.out⟩
end
end Go.Proofs.Ytghcfmkmndldoaa
