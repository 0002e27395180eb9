/-
  (*Table).List: the mediums, by rising numbers.
-/
import Derived.Test.YtejimgjonhaocaaMeD1
namespace Go.Proofs.Ytejimgjonhaocaa
open Go.RowKit Go.Maps Go.Lib Go.Sort

def cellM (m : Md) : List Value := [.int .u64 (m.id : Int), .int .u64 (m.tgt : Int), .int .i64 (m.off : Int), .int .i64 (m.size : Int), .bool m.fixed]
def cellsM (l : List Md) : List Value := l.flatMap cellM
theorem cellsM_append (l r : List Md) : cellsM (l ++ r) = cellsM l ++ cellsM r := by simp [cellsM]
theorem cellsM_one (m : Md) : cellsM [m] = cellM m := by simp [cellsM]
/-- THE CALL OWNS v, a slice of mediums -/
def OwnM (w : World) (base : Nat) (v : Value) (l : List Md) : Prop := w.ownsRow base 43 5 v l.length (cellsM l)
theorem info_med : (Try.prog.info? 43).map (fun i => (i.zero, i.size, i.bytes)) = some (some (.agg #[.int .u64 0, .int .u64 0, .int .i64 0, .int .i64 0, .bool false]), 5, 40) := by kernel_rfl
section
variable {w w' : World} {base : Nat} {v : Value} {l : List Md}
theorem OwnM.nil (w : World) (base : Nat) : OwnM w base (.slice none 0 0) [] := World.ownsRow_nil _ _ _ _
theorem OwnM.below (h : OwnM w base v l) (hb : Below w.heap.size w w') : OwnM w' base v l := by
  refine ⟨h.1, ?_⟩
  rcases h.2 with q | ⟨g, cap, cur, hv, hg, hh, r⟩
  · exact .inl q
  · exact .inr ⟨g, cap, cur, hv, hg, (hb.block g (Array.getElem?_eq_some_iff.1 hh).1).trans hh, r⟩
theorem OwnM.shape (h : OwnM w base v l) : ∃ A c, v = .slice A l.length c := by
  rcases h.2 with ⟨e, h0⟩ | ⟨g, cap, cur, e, _⟩
  · exact ⟨none, 0, by rw [e, h0]⟩
  · exact ⟨_, _, e⟩
theorem OwnM.wide {B : Nat} (h : OwnM w base v l) (hb : B ≤ base) : OwnM w B v l := by
  refine ⟨h.1, ?_⟩
  rcases h.2 with h | ⟨g, cap, cur, hv, hg, r⟩
  · exact .inl h
  · exact .inr ⟨g, cap, cur, hv, Nat.le_trans hb hg, r⟩
/-- append(v, one medium) at an operation of a walk -/
theorem app_med {ops : Array Oper} {rest : List Oper} {o : Oper} {a : Act} {Q : Exit → Act → World → Prop} (hgd : o.guard = none) (s x : Operand)
    (ho : o.op = .call { callee := .builtin .append, args := #[s, x], argTypes := #[37, 37] })
    (hs : a.eval s = v) (hown : OwnM w base v l) (g c : Nat) (hx : a.eval x = .slice (some ⟨g, 0, none⟩) 1 c) (m : Md) (hr : Cells w g 43 (cellM m)) (hlen : l.length ≤ 1000000) (hbase : base ≤ w.heap.size)
    (h : ∀ v' w', OwnM w' base v' (l ++ [m]) → w.grownBy w' v.ownBlock → wpList Try.prog ops Q rest (a.put o.dst v') w') :
    wpList Try.prog ops Q (o :: rest) a w := by
  refine wpList_plain hgd fun K hK => ?_
  obtain ⟨i0, hi0, hz0, hz1, hz2⟩ := info_parts info_med
  obtain ⟨v', w', hrun, r2, r3, _, r5⟩ := run_append_own_at (P := Try.prog) w base 37 o.type 43 i0 _ 5 40 Try.underlying37 hi0 hz0 hz1 hz2 rfl (by omega) v l.length (cellsM l) hown ⟨g, 0, none⟩ 1 c (cellM m)
      (by simp [cellM]) (fun j u hj => by rw [add_flat, Nat.zero_add]; exact hr.cell hj) (by intro u hu; simp [cellM] at hu; rcases hu with rfl | rfl | rfl | rfl | rfl <;> rfl) (by simp only [maxLen]; omega) (by omega) hbase
  unfold Oper.wp execOp
  simp only [ho, resolve, invoke, builtin, Sem.run_bind, Sem.run_pure, Result.andThen_ok, List.map_toArray, List.map_cons, List.map_nil, hs, hx]
  rw [show (Builtin.append_ #[37, 37] o.type #[v, .slice (some ⟨g, 0, none⟩) 1 c]).run Try.prog w = .ok v' w' from hrun]
  exact hK _ _ (h v' w' (by unfold OwnM; rw [List.length_append, cellsM_append, cellsM_one]; exact r2) r3)
end
/-- the numbers' slice, read -/
theorem row_read {w : World} {base : Nat} {v : Value} {l : List Nat} (h : w.ownsRow base 34 1 v l.length (l.map kV)) : ∃ A c, v = .slice A l.length c ∧ ∀ k n : Nat, l[k]? = some n → ∃ b, A = some ⟨b, 0, none⟩ ∧ base ≤ b ∧ b < w.heap.size ∧ w.cell? ⟨b, k, none⟩ = some (.int .u64 (n : Int)) := by
  rcases h.2 with ⟨rfl, h0⟩ | ⟨g, cap, cur, rfl, hb, hg, hn, hm, hs, ht⟩
  · have : l = [] := List.eq_nil_of_length_eq_zero h0
    subst this
    exact ⟨none, 0, rfl, fun k p h => by simp at h⟩
  · refine ⟨_, cap, rfl, fun k n hk => ⟨g, rfl, hb, (Array.getElem?_eq_some_iff.1 hg).1, ?_⟩⟩
    have q0 := World.ownsRow.cells (e := 34) (size := 1) h rfl k (kV n) (by rw [List.getElem?_map, hk]; rfl)
    rw [add_flat, Nat.zero_add] at q0
    exact q0
/-- List under way -/
structure LsSt (w1 wr : World) (L : List Md) (i : Nat) (lv : Value) : Prop where
  own : OwnM wr w1.heap.size lv (L.take i)
  hb : Below w1.heap.size w1 wr
section
set_option maxRecDepth 100000
set_option maxHeartbeats 4000000
theorem list_any {w : World} {tb mb dep nxt N : Nat} {L : List Md} (hT : TabG w tb mb dep nxt (rowG L) N) (hO : Ok dep nxt L) (hn : nxt ≤ T64) (hN : N ≤ 255) (hL : L.length ≤ 255) :
    Calls Try.prog 11 #[.pointer (some ⟨tb, 0, none⟩)] w fun e w' => ∃ v, e = .returned v ∧ OwnM w' w.heap.size v L ∧ Below w.heap.size w w' := by
  have HI := Lib.hid (ids_any hT hO hn hN)
  have HT := Lib.hid hT
  have HO := Lib.hid hO
  have HL := Lib.hid (And.intro hL hn)
  clear hT hO hn hN hL
  go_enter Try.func11, Try.ntmps11
  go_wp2_with (go_at_call 35; refine HI.out.mono ?_; rintro e w1 ⟨v, rfl, hr, hb⟩; have hr2 : w1.ownsRow w.heap.size 34 1 v (L.map Md.id).length ((L.map Md.id).map kV) := (by rw [List.length_map]; exact hr); obtain ⟨A, c, rfl, hrd⟩ := row_read hr2; rw [List.length_map]; have HR := Lib.hid hrd; have HB := Lib.hid hb; clear hr hr2 hb hrd)
  have H0 : Hid (LsSt w1 w1 L 0 (.slice none 0 0)) := ⟨OwnM.nil _ _, Below.refl _ _⟩
  clear HI
  go_loopw [9, 3] (fun iv lv wr => ∃ i : Nat, iv = .int .i64 (i : Int) ∧ i ≤ L.length ∧ Hid (LsSt w1 wr L i lv)) (fun iv _ _ => L.length - (intOf iv).toNat)
  case atStart => exact ⟨0, rfl, Nat.zero_le _, H0⟩
  case round =>
    obtain ⟨i, rfl, hi, Hs⟩ := hrel
    clear H0
    obtain ⟨A3, c3, rfl⟩ := Hs.out.own.shape
    have hi255 : (i : Int) ≤ 255 := by have := HL.out.1; omega
    have hl255 : (L.length : Int) ≤ 255 := by have := HL.out.1; omega
    by_cases hlt : i < L.length
    case neg =>
      have hnl : ¬ (i : Int) < (L.length : Int) := by omega
      have Hf : Hid (OwnM wr w1.heap.size (.slice A3 (L.take i).length c3) L) := by have := Hs.out.own; rwa [List.take_of_length_le (by omega)] at this ⊢
      generalize (L.take i).length = n3 at Hf ⊢
      go_wp2_with fail
      go_ret
      exact ⟨_, rfl, Hf.out.wide HB.out.size, HB.out.trans (Hs.out.hb.mono HB.out.size)⟩
    obtain ⟨m, hm⟩ : ∃ m, L[i]? = some m := ⟨L[i], by simp [hlt]⟩
    have hmem : m ∈ L := List.mem_of_getElem? hm
    obtain ⟨bA, rfl, hb1, hb2, hc⟩ := HR.out i m.id (by rw [List.getElem?_map, hm]; rfl)
    have q0 : wr.cell? ⟨bA, i, none⟩ = some (.int .u64 (m.id : Int)) := (Hs.out.hb.cell (p := ⟨bA, i, none⟩) hb2).trans hc
    have HTr := Lib.hid ((HT.out.below HB.out).below Hs.out.hb)
    have c2 := HTr.out.t2
    have hlk := HTr.out.mc.look1 Try.underlying65 (zero_row wr) (n := m.id) (Nat.lt_of_lt_of_le (HO.out.hi m hmem) HL.out.2)
    rw [rowG_some (look_of_mem HO.out.rise hmem)] at hlk
    unfold kV rowV at hlk
    dsimp only [Option.getD_some] at hlk
    have hli : (i : Int) < (L.length : Int) := by omega
    have ht : L.take (i + 1) = L.take i ++ [m] := by rw [List.take_add_one, hm]; rfl
    have Htk := Lib.hid ht
    have Hlen : Hid ((L.take i).length = i) := by show _ = _; rw [List.length_take]; omega
    clear hm hmem hc hlt hb1 hb2 ht
    obtain ⟨n3, hn3⟩ : ∃ n, n = (L.take i).length := ⟨_, rfl⟩
    have hown := Hs.out.own
    rw [← hn3] at hown ⊢
    obtain ⟨W2, hW2⟩ : ∃ W, W = wr.alloc (.cells #[.int .u64 (m.id : Int), .int .u64 (m.tgt : Int), .int .i64 (m.off : Int), .int .i64 (m.size : Int), .bool m.fixed] 43) := ⟨_, rfl⟩
    have hbw : Below wr.heap.size wr W2 := by rw [hW2]; exact (Below.refl _ _).alloc (Nat.le_refl _) _
    have Hcp : Hid (Cells W2 wr.heap.size 43 (cellM m)) := by rw [hW2]; exact Cells.new wr _ _
    have Hw1 : Hid (OwnM W2 w1.heap.size (.slice A3 n3 c3) (L.take i)) := hown.below hbw
    have Hb1 : Hid (Below w1.heap.size w1 W2) := Hs.out.hb.trans (hbw.mono Hs.out.hb.size)
    have HW2 := Lib.hid hW2
    have Hil : Hid (i < L.length ∧ L.length ≤ 255) := ⟨by omega, HL.out.1⟩
    clear hown hbw hW2 hn3 Hs
    have hfd : ∀ w : World, (Instr.field 75 (.agg #[.int .u64 (m.id : Int), .int .u64 (m.tgt : Int), .int .i64 (m.off : Int), .int .i64 (m.size : Int), .bool m.fixed, .int .i64 (ups L m.id : Nat)]) 0).run Try.prog w = .ok (.agg #[.int .u64 (m.id : Int), .int .u64 (m.tgt : Int), .int .i64 (m.off : Int), .int .i64 (m.size : Int), .bool m.fixed]) w := fun _ => by kernel_rfl
    go_wp2_with (at_builtin; rw [← HW2.out]; refine app_med rfl (.tmp 13) (.tmp 21) rfl rfl Hw1.out wr.heap.size 1 rfl m Hcp.out (by have := Hil.out; have := Hlen.out; omega) Hb1.out.size ?_; intro pv5 w5 hown5 hgrow5; have H5 : Hid (LsSt w1 w5 L (i + 1) pv5) := ⟨by rw [Htk.out]; exact hown5, Hb1.out.grown hgrow5 Hb1.out.size (fun g hg => (World.ownsRow.lt Hw1.out g hg).1)⟩; obtain ⟨A5, c5, rfl⟩ := hown5.shape; clear hown5 hgrow5)
    go_roundw
    case rel => exact ⟨i + 1, (by first | rfl | simp), Hil.out.1, (by have h := H5; rw [List.length_append, Hlen.out] at h; exact h)⟩
    case measure => have := Hil.out.1; simp [intOf]; omega
end
end Go.Proofs.Ytejimgjonhaocaa
