/-
  Places in slices; Chain walked.
-/
import Derived.Test.YtejimgjonhaocaaMe9
namespace Go.Proofs.Ytejimgjonhaocaa
open Go.RowKit Go.Maps Go.Lib Go.Sort

def cellsP (l : List (Nat × Nat)) : List Value := l.flatMap fun p => [.int .u64 (p.1 : Int), .int .i64 (p.2 : Int)]
theorem cellsP_append (l r : List (Nat × Nat)) : cellsP (l ++ r) = cellsP l ++ cellsP r := by simp [cellsP]
theorem cellsP_length (l : List (Nat × Nat)) : (cellsP l).length = l.length * 2 := by
  induction l with
  | nil => rfl
  | cons p l ih => rw [show cellsP (p :: l) = [.int .u64 (p.1 : Int), .int .i64 (p.2 : Int)] ++ cellsP l from rfl, List.length_append, ih]; simp; omega
theorem cellsP_get (l : List (Nat × Nat)) : ∀ (k : Nat) (p : Nat × Nat), l[k]? = some p → (cellsP l)[k * 2]? = some (.int .u64 (p.1 : Int)) ∧ (cellsP l)[k * 2 + 1]? = some (.int .i64 (p.2 : Int)) := by
  induction l with
  | nil => intro k p h; simp at h
  | cons q l ih =>
    intro k p h
    rw [show cellsP (q :: l) = .int .u64 (q.1 : Int) :: .int .i64 (q.2 : Int) :: cellsP l from rfl]
    cases k with
    | zero => simp at h; subst h; exact ⟨rfl, rfl⟩
    | succ k =>
      have := ih k p (by simpa using h)
      rw [show (k + 1) * 2 = k * 2 + 1 + 1 by omega]
      exact this
/-- THE CALL OWNS v, a slice of places -/
def OwnP (w : World) (base : Nat) (v : Value) (l : List (Nat × Nat)) : Prop := w.ownsRow base 60 2 v l.length (cellsP l)
theorem info_place : (Try.prog.info? 60).map (fun i => (i.zero, i.size, i.bytes)) = some (some (.agg #[.int .u64 0, .int .i64 0]), 2, 16) := by kernel_rfl
section
variable {w w' : World} {base B : Nat} {v : Value} {l : List (Nat × Nat)}
theorem OwnP.nil (w : World) (base : Nat) : OwnP w base (.slice none 0 0) [] := World.ownsRow_nil _ _ _ _
theorem OwnP.move (h : OwnP w base v l) (hk : ∀ g, v.ownBlock = some g → w'.heap[g]? = w.heap[g]?) : OwnP w' base v l := by
  refine ⟨h.1, ?_⟩
  rcases h.2 with q | ⟨g, cap, cur, hv, hg, hh, r⟩
  · exact .inl q
  · exact .inr ⟨g, cap, cur, hv, hg, (hk g (by rw [hv]; rfl)).trans hh, r⟩
theorem OwnP.ge (h : OwnP w base v l) : ∀ k, v.ownBlock = some k → base ≤ k ∧ k < w.heap.size := fun k hk => World.ownsRow.lt h k hk
theorem OwnP.below (h : OwnP w base v l) (hb : Below w.heap.size w w') : OwnP w' base v l := h.move fun g hg => hb.block g (h.ge g hg).2
theorem OwnP.wide (h : OwnP w base v l) (hb : B ≤ base) : OwnP w B v l := by
  refine ⟨h.1, ?_⟩
  rcases h.2 with h | ⟨g, cap, cur, hv, hg, r⟩
  · exact .inl h
  · exact .inr ⟨g, cap, cur, hv, Nat.le_trans hb hg, r⟩
/-- an owned slice of places, read -/
theorem OwnP.rd (h : OwnP w base v l) : ∃ A c, v = .slice A l.length c ∧ l.length ≤ c ∧ (A = none → c = 0) ∧ ∀ k p, l[k]? = some p → ∃ b, A = some ⟨b, 0, none⟩ ∧ base ≤ b ∧ b < w.heap.size ∧ w.cell? ⟨b, k * 2, none⟩ = some (.int .u64 (p.1 : Int)) ∧ w.cell? ⟨b, k * 2 + 1, none⟩ = some (.int .i64 (p.2 : Int)) := by
  rcases h.2 with ⟨rfl, h0⟩ | ⟨g, cap, cur, rfl, hb, hg, hn, hm, hs, ht⟩
  · have : l = [] := List.eq_nil_of_length_eq_zero h0
    subst this
    exact ⟨none, 0, rfl, Nat.le_refl _, fun _ => rfl, fun k p h => by simp at h⟩
  · refine ⟨_, cap, rfl, hn, (fun e => by cases e), fun k p hk => ⟨g, rfl, hb, (Array.getElem?_eq_some_iff.1 hg).1, ?_⟩⟩
    obtain ⟨c0, c1⟩ := cellsP_get l k p hk
    have q0 := World.ownsRow.cells (e := 60) (size := 2) h rfl (k * 2) _ c0
    have q1 := World.ownsRow.cells (e := 60) (size := 2) h rfl (k * 2 + 1) _ c1
    rw [add_flat, Nat.zero_add] at q0 q1
    exact ⟨q0, q1⟩
/-- append(v, one place) at an operation of a walk -/
theorem app_place {ops : Array Oper} {rest : List Oper} {o : Oper} {a : Act} {Q : Exit → Act → World → Prop} (hgd : o.guard = none) (s x : Operand)
    (ho : o.op = .call { callee := .builtin .append, args := #[s, x], argTypes := #[48, 48] })
    (hs : a.eval s = v) (hown : OwnP w base v l) (g c : Nat) (hx : a.eval x = .slice (some ⟨g, 0, none⟩) 1 c) (n b : Nat) (hr : Cells w g 60 [.int .u64 (n : Int), .int .i64 (b : Int)]) (hlen : l.length ≤ 1000000) (hbase : base ≤ w.heap.size)
    (h : ∀ v' w', OwnP w' base v' (l ++ [(n, b)]) → w.grownBy w' v.ownBlock → wpList Try.prog ops Q rest (a.put o.dst v') w') :
    wpList Try.prog ops Q (o :: rest) a w := by
  refine wpList_plain hgd fun K hK => ?_
  obtain ⟨i0, hi0, hz0, hz1, hz2⟩ := info_parts info_place
  obtain ⟨v', w', hrun, r2, r3, _, r5⟩ := run_append_own_at (P := Try.prog) w base 48 o.type 60 i0 _ 2 16 Try.underlying48 hi0 hz0 hz1 hz2 rfl (by omega) v l.length (cellsP l) hown ⟨g, 0, none⟩ 1 c [.int .u64 (n : Int), .int .i64 (b : Int)]
      (by simp) (fun j u hj => by rw [add_flat, Nat.zero_add]; exact hr.cell hj) (by intro u hu; simp at hu; rcases hu with rfl | rfl <;> rfl) (by simp only [maxLen]; omega) (by omega) hbase
  unfold Oper.wp execOp
  simp only [ho, resolve, invoke, builtin, Sem.run_bind, Sem.run_pure, Result.andThen_ok, List.map_toArray, List.map_cons, List.map_nil, hs, hx]
  rw [show (Builtin.append_ #[48, 48] o.type #[v, .slice (some ⟨g, 0, none⟩) 1 c]).run Try.prog w = .ok v' w' from hrun]
  exact hK _ _ (h v' w' (by unfold OwnP; rw [List.length_append, cellsP_append]; exact r2) r3)
end

/-- Chain under way -/
structure ChSt (w wr : World) (L : List Md) (C : List (Nat × Nat)) (k c : Nat) (pv : Value) (out : List (Nat × Nat)) : Prop where
  own : OwnP wr w.heap.size pv out
  hb : Below w.heap.size w wr
  hk : k < T64
  hc : out ++ chainB L k c = C
  hl : out.length + deepL L k ≤ 64
section
set_option maxRecDepth 20000
set_option maxHeartbeats 1600000
variable {w w' : World} {tb mb dep nxt N : Nat} {L : List Md}
theorem chain_any (h : TabG w tb mb dep nxt (rowG L) N) (ho : Ok dep nxt L) (hx : nxt ≤ 1000000) {n : Nat} (hn : n < T64) (b : Int) :
    Calls Try.prog 18 #[.pointer (some ⟨tb, 0, none⟩), .int .u64 (n : Int), .int .i64 b] w fun e w' => ∃ v, e = .returned v ∧ OwnP w' w.heap.size v (chainL L n b) ∧ Below w.heap.size w w' := by
  by_cases hneg : b < 0
  · rw [chainL_neg L n hneg]
    have hb' : ¬ 0 ≤ b := by omega
    clear h ho hn hneg
    go_enter Try.func18, Try.ntmps18
    go_wp2_with fail
    go_loopw [1, 2, 7] (fun nv bv pv wr => wr = w ∧ bv = .int .i64 b ∧ pv = .slice none 0 0) (fun _ _ _ _ => 0)
    case atStart => exact ⟨rfl, rfl, rfl⟩
    case round =>
      obtain ⟨rfl, rfl, rfl⟩ := hrel
      go_wp2_with fail
      go_ret
      exact ⟨_, rfl, OwnP.nil _ _, Below.refl _ _⟩
  obtain ⟨b, rfl⟩ : ∃ k : Nat, b = (k : Int) := ⟨b.toNat, by omega⟩
  rw [chainL_nat]
  have H := Lib.hid h
  have Ho := Lib.hid ho
  have Hn := Lib.hid hn
  obtain ⟨C, hC⟩ : ∃ C, C = chainB L n b := ⟨_, rfl⟩
  rw [← hC]
  have H0 : Hid (ChSt w w L C n b (.slice none 0 0) []) := ⟨OwnP.nil _ _, Below.refl _ _, hn, hC.symm, by have := deepL_le ho n; have := ho.d2; simp; omega⟩
  clear h ho hn hC hneg
  go_enter Try.func18, Try.ntmps18
  go_wp2_with fail
  go_loopw [1, 2, 7] (fun nv bv pv wr => ∃ (k c : Nat) (out : List (Nat × Nat)), nv = .int .u64 (k : Int) ∧ bv = .int .i64 (c : Int) ∧ Hid (ChSt w wr L C k c pv out)) (fun nv _ _ _ => (intOf nv).toNat)
  case atStart => exact ⟨n, b, [], rfl, rfl, H0⟩
  case round =>
    obtain ⟨k, c, out, rfl, rfl, Hs⟩ := hrel
    have HTr := Lib.hid (H.out.below Hs.out.hb)
    have c2 := HTr.out.t2
    have hge : (0 : Int) ≤ (c : Int) := by omega
    have ho2 := fun m hm => And.intro (Ho.out.size m hm).2 (Ho.out.off m hm)
    have ho3 := Ho.out.down
    obtain ⟨A, cp, rfl, -⟩ := Hs.out.own.rd
    cases hm : look L k with
    | none =>
      have hlk := HTr.out.fetch_none Hs.out.hk (rowG_none hm)
      unfold rowZ at hlk
      have Hf : Hid (out = C) := by have := Hs.out.hc; rw [chainB_none hm, List.append_nil] at this; exact this
      clear hm
      go_wp2_with fail
      go_ret
      exact ⟨_, rfl, by rw [← Hf.out]; exact Hs.out.own.below ((Below.refl _ _).alloc (Nat.le_refl _) _), Hs.out.hb.alloc Hs.out.hb.size _⟩
    | some m =>
      have hlk := HTr.out.fetch_some Hs.out.hk (rowG_some hm)
      unfold rowV at hlk
      obtain ⟨q1, q2⟩ := look_mem hm
      have hch := Hs.out.hc
      rw [chainB_some Ho.out.down Ho.out.look_zero hm] at hch
      by_cases hcs : c < m.size
      · rw [if_pos hcs] at hch
        have hlt2 : ¬ (m.size : Int) ≤ (c : Int) := by omega
        have hlt3 : (c : Int) < (m.size : Int) := by omega
        have hsz := (ho2 m q1).1
        have hof := (ho2 m q1).2
        have hdn := (ho3 m q1)
        have hl := Hs.out.hl
        rw [deepL_some Ho.out.down Ho.out.look_zero hm] at hl
        obtain ⟨W2, hW2⟩ : ∃ W, W = (wr.alloc (.cells #[.int .u64 (m.id : Int), .int .u64 (m.tgt : Int), .int .i64 (m.off : Int), .int .i64 (m.size : Int), .bool m.fixed, .int .i64 (ups L k : Nat)] 75)).alloc (.cells #[.int .u64 (k : Int), .int .i64 (c : Int)] 60) := ⟨_, rfl⟩
        have e1 : (wr.alloc (.cells #[.int .u64 (m.id : Int), .int .u64 (m.tgt : Int), .int .i64 (m.off : Int), .int .i64 (m.size : Int), .bool m.fixed, .int .i64 (ups L k : Nat)] 75)).heap.size = wr.heap.size + 1 := by simp
        have hbw : Below wr.heap.size wr W2 := by rw [hW2]; exact ((Below.refl _ _).alloc (Nat.le_refl _) _).alloc (by rw [e1]; omega) _
        have Hcr : Hid (Cells W2 wr.heap.size 75 [.int .u64 (m.id : Int), .int .u64 (m.tgt : Int), .int .i64 (m.off : Int), .int .i64 (m.size : Int), .bool m.fixed, .int .i64 (ups L k : Nat)]) := by rw [hW2]; exact (Cells.new wr _ _).alloc _
        have Hcp : Hid (Cells W2 (wr.heap.size + 1) 60 [.int .u64 (k : Int), .int .i64 (c : Int)]) := by rw [hW2, ← e1]; exact Cells.new _ _ _
        have Hb1 : Hid (Below w.heap.size w W2) := Hs.out.hb.trans (hbw.mono Hs.out.hb.size)
        have Hw1 : Hid (OwnP W2 w.heap.size (.slice A out.length cp) out) := Hs.out.own.below hbw
        have Hob : Hid (∀ g, (Value.slice A out.length cp).ownBlock = some g → w.heap.size ≤ g ∧ g ≠ wr.heap.size) := fun g hg => ⟨(Hs.out.own.ge g hg).1, by have := (Hs.out.own.ge g hg).2; omega⟩
        have Hch : Hid (out ++ (k, c) :: chainB L m.tgt (c + m.off) = C ∧ m.tgt < T64 ∧ m.tgt < k ∧ out.length + (1 + deepL L m.tgt) ≤ 64) := ⟨hch, Nat.lt_of_lt_of_le hdn (by have := Hs.out.hk; omega), by omega, hl⟩
        have hszb : (c : Int) ≤ 1048576 := by omega
        have hofb : (m.off : Int) ≤ 1048576 := by omega
        have HW2 := Lib.hid hW2
        clear hm hch q1 q2 hcs Hs HTr hsz hdn e1 hbw hW2 hof ho2 ho3 hl
        go_wp2_with (at_builtin; rw [← HW2.out]; refine app_place rfl (.tmp 30) (.tmp 34) rfl rfl Hw1.out (wr.heap.size + 1) 1 rfl k c Hcp.out (by have := Hch.out.2.2.2; omega) Hb1.out.size ?_; intro pv5 w5 hown5 hgrow5; have H5 : Hid (OwnP w5 w.heap.size pv5 (out ++ [(k, c)]) ∧ Below w.heap.size w w5 ∧ Cells w5 wr.heap.size 75 [.int .u64 (m.id : Int), .int .u64 (m.tgt : Int), .int .i64 (m.off : Int), .int .i64 (m.size : Int), .bool m.fixed, .int .i64 (ups L k : Nat)]) := ⟨hown5, Hb1.out.grown hgrow5 Hb1.out.size (fun g hg => (Hob.out g hg).1), Hcr.out.move (hgrow5.block _ Hcr.out.lt (fun e => (Hob.out _ e.symm).2 rfl))⟩; clear hown5 hgrow5)
        have k1 := H5.out.2.2.cell (i := 1) rfl
        have k2 := H5.out.2.2.cell (i := 2) rfl
        have hwr : wrap64 ((c : Int) + (m.off : Int)) = ((c + m.off : Nat) : Int) := by unfold wrap64; omega
        clear c2 hlk hlt3 Hcr Hcp Hb1 Hw1 Hob HW2
        go_quiet (fail)
        have H6 : Hid (OwnP (w5.drewN nq) w.heap.size pv5 (out ++ [(k, c)]) ∧ Below w.heap.size w (w5.drewN nq)) := ⟨H5.out.1, H5.out.2.1.os, H5.out.2.1.tape, H5.out.2.1.output, H5.out.2.1.size, H5.out.2.1.block⟩
        clear k1 k2 H5
        go_wp2_with fail
        go_roundw
        case rel =>
          refine ⟨m.tgt, c + m.off, out ++ [(k, c)], rfl, rfl, ?_⟩
          exact ⟨H6.out.1, H6.out.2, Hch.out.2.1, by rw [List.append_assoc]; exact Hch.out.1, by have := Hch.out.2.2.2; simp only [List.length_append, List.length_cons, List.length_nil]; omega⟩
        case measure => have := Hch.out.2.2.1; simp [intOf]; omega
      · rw [if_neg hcs, List.append_nil] at hch
        have hge2 : (m.size : Int) ≤ (c : Int) := by omega
        have Hf := Lib.hid hch
        clear hm hch q1 q2 hcs
        go_wp2_with fail
        go_ret
        exact ⟨_, rfl, by rw [← Hf.out]; exact Hs.out.own.below ((Below.refl _ _).alloc (Nat.le_refl _) _), Hs.out.hb.alloc Hs.out.hb.size _⟩
end
end Go.Proofs.Ytejimgjonhaocaa
