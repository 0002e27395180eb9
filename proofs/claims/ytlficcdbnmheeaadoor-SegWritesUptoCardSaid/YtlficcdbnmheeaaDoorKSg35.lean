/-
  The second saying's writer: Left; rows compared.
-/
import Derived.Test.YtlficcdbnmheeaaDoorKSg9
import Derived.Test.YtlficcdbnmheeaaDoorKSg23
import Derived.Test.YtlficcdbnmheeaaDoorSg18
import Derived.Test.YtlficcdbnmheeaaDoorKSg11
import Derived.Deep.RegionHeld3
namespace Go.Proofs.YtlficcdbnmheeaaDoor
open Go.RowKit Go.Sort Go.Lib

/-- THE SECOND SAYING's WRITER at rb: its stream, t rows told -/
structure RWr (w : World) (rb base : Nat) (k c : Nat) (P G : Int) (id t : Nat) (bv : Value) (B : List UInt8) : Prop where
  wr : Cells w rb 58 [.int .i64 (k : Int), .int .i64 P, .int .i64 G, .int .u64 (id : Int), bv, .int .i64 (t : Int)]
  own : Own w base bv B
  hok : okS k P G = true
  hcG : roomOf G = (c : Int)
  hid : id < two64
  hB : (B.length : Int) ≤ roomS k P G
/-- a slice of rows of pages reads as Ms -/
def RMR (w : World) (A : Option Addr) (Ms : List Mtx) : Prop := ∀ (k : Nat) (M : Mtx), Ms[k]? = some M → ∃ (b o : Nat) (A' : Option Addr) (c : Nat), A = some ⟨b, o, none⟩ ∧ b < w.heap.size ∧ w.cell? ⟨b, o + k, none⟩ = some (.slice A' M.length c) ∧ RM w w.heap.size A' M
theorem RTM.rmr {w : World} {O : Nat → Nat} {A : Option Addr} {Ms : List Mtx} (h : RTM w O A Ms) : RMR w A Ms := fun k M hM => by
  obtain ⟨b, o, A', c, e, _, h2, h3, h4⟩ := h k M hM
  exact ⟨b, o, A', c, e, h2, h3, h4.rm⟩
theorem RMR.below {w w' : World} {A : Option Addr} {Ms : List Mtx} (h : RMR w A Ms) (hb : Below w.heap.size w w') : RMR w' A Ms := fun k M hM => by
  obtain ⟨b, o, A', c, e, h2, h3, h4⟩ := h k M hM
  exact ⟨b, o, A', c, e, Nat.lt_of_lt_of_le h2 hb.size, (hb.cell (p := ⟨b, o + k, none⟩) h2).trans h3, (h4.below hb).wide hb.size⟩
section
set_option maxRecDepth 20000
set_option maxHeartbeats 1600000
variable {w w' : World} {rb base k c : Nat} {P G : Int} {id t : Nat} {bv : Value} {B : List UInt8}
theorem RWr.below (h : RWr w rb base k c P G id t bv B) (hb : Below w.heap.size w w') : RWr w' rb base k c P G id t bv B :=
  ⟨h.wr.move (hb.block _ h.wr.lt), h.own.below hb, h.hok, h.hcG, h.hid, h.hB⟩
theorem rleft_any (h : RWr w rb base k c P G id t bv B) : Calls Tryd.prog 36 #[.pointer (some ⟨rb, 0, none⟩)] w fun e w' => e = .returned (.int .i64 (roomS k P G - (B.length : Int))) ∧ Gr w w' := by
  obtain ⟨h1, h2, h3, h4, _⟩ := okS_facts h.hok
  obtain ⟨r0, r1⟩ := roomS_range _ _ _ h.hok
  have hB := h.hB
  obtain ⟨A, cp, rfl, hc, _, _⟩ := h.own.rb
  have Hr := Lib.hid fun W => rsroom_any (k : Int) P G (by omega) W
  unfold shV at Hr
  have hl := h.wr.lt
  have c0 : ∀ n os, (grow (w.drewN n) os).cell? ⟨rb, 0, none⟩ = some (.int .i64 (k : Int)) := fun n os => cell_grown (a := ⟨rb, 0, none⟩) hl (h.wr.cell rfl) n os
  have c1 : ∀ n os, (grow (w.drewN n) os).cell? ⟨rb, 1, none⟩ = some (.int .i64 P) := fun n os => cell_grown (a := ⟨rb, 1, none⟩) hl (h.wr.cell rfl) n os
  have c2 : ∀ n os, (grow (w.drewN n) os).cell? ⟨rb, 2, none⟩ = some (.int .i64 G) := fun n os => cell_grown (a := ⟨rb, 2, none⟩) hl (h.wr.cell rfl) n os
  have c4 : ∀ n os, (grow (w.drewN n) os).cell? ⟨rb, 4, none⟩ = some (.slice A B.length cp) := fun n os => cell_grown (a := ⟨rb, 4, none⟩) hl (h.wr.cell rfl) n os
  have HG : Hid (∀ n os, Gr w (grow (w.drewN n) os)) := fun n os => ⟨n, os, rfl⟩
  generalize B.length = n at *
  generalize roomS k P G = RR at *
  have hval : IntKind.i64.wrap (RR - (n : Int)) = RR - (n : Int) := by rw [IntKind.wrap_i64]; omega
  have hval2 : wrap64 (RR - (n : Int)) = RR - (n : Int) := by
    have := hval
    simp only [IntWalk.i64_left] at this
    exact this
  have Hval := Lib.hid hval2
  clear h hl hc h1 h2 h3 h4 hB hval hval2
  go_enter Tryd.func36, Tryd.ntmps36
  go_wp2_with fail
  refine wp_region_quiet_grown (by kernel_rfl) (by kernel_rfl) ?_
  try simp only [List.append]
  repeat (go_big_quiet_step (first | (go_at_call 17; refine Calls.grown_of (Hr.out _))))
  refine wpQuiet_nil ?_
  intro _ hw'
  obtain ⟨⟨nq, osq⟩, hw''⟩ := hw'
  subst hw''
  go_wp2_with fail
  go_ret
  exact ⟨by have := Hval.out; simpa using this, HG.out _ _⟩
theorem rows_same (A A2 : Option Addr) (c c2 N : Nat) (Ms : List Mtx) (hN : N = Ms.length) (hN2 : N ≤ 17179869184) (w : World) (h : RMR w A Ms) (h2 : RMR w A2 Ms) (hl : ∀ (k : Nat) (M : Mtx), Ms[k]? = some M → M.length ≤ 64) :
    Calls Tryd.prog 29 #[.slice A N c, .slice A2 N c2] w fun e w' => e = .returned (.bool true) ∧ Gr w w' := by
  have Hh := Lib.hid h
  have Hh2 := Lib.hid h2
  have Hl := Lib.hid hl
  have HN := Lib.hid hN
  have hNb : (N : Int) ≤ 17179869184 := by omega
  have hne : ((N : Int) != (N : Int)) = false := by simp
  clear h h2 hl hN hN2
  go_enter Tryd.func29, Tryd.ntmps29
  go_wp2_with fail
  clear hne
  go_loopw [5] (fun iv wr => ∃ i : Nat, iv = .int .i64 (i : Int) ∧ i ≤ N ∧ Hid (Gr w wr)) (fun iv _ => N - (intOf iv).toNat)
  case atStart => exact ⟨0, rfl, Nat.zero_le _, Gr.refl w⟩
  case round =>
    obtain ⟨i, rfl, hi, hrel⟩ := hrel
    by_cases hlt : i < N
    · have hlt' : (i : Int) < (N : Int) := by omega
      have Hlt : Hid (i < N) := hlt
      obtain ⟨M, hM⟩ : ∃ M, Ms[i]? = some M := ⟨_, List.getElem?_eq_getElem (by rw [← HN.out]; exact hlt)⟩
      obtain ⟨b, o, A', c', rfl, hb, hc, hr⟩ := (Hh.out.below hrel.out.below) i M hM
      obtain ⟨b2, o2, A2', c2', rfl, hb2, hc2, hr2⟩ := (Hh2.out.below hrel.out.below) i M hM
      have d1 : ∀ n os, (grow (wr.drewN n) os).cell? ⟨b, o + i, none⟩ = some (.slice A' M.length c') := fun n os => cell_grown (a := ⟨b, o + i, none⟩) hb hc n os
      have d2 : ∀ n os, (grow (wr.drewN n) os).cell? ⟨b2, o2 + i, none⟩ = some (.slice A2' M.length c2') := fun n os => cell_grown (a := ⟨b2, o2 + i, none⟩) hb2 hc2 n os
      have HP : Hid (∀ X, Gr wr X → Calls Tryd.prog 20 #[.slice A' M.length c', .slice A2' M.length c2'] X fun e w' => e = .returned (.bool true) ∧ Gr X w') := fun X hX => by
        refine (spages_any A' A2' c' c2' M M X X.heap.size ((hr.below hX.below).wide hX.below.size) ((hr2.below hX.below).wide hX.below.size) (by have := Hl.out i M hM; omega)).mono ?_
        rintro e w' ⟨he, q, rfl⟩
        exact ⟨by rw [he]; simp, Gr.drewN _ _⟩
      have HG : Hid (∀ n os, Gr wr (grow (wr.drewN n) os)) := fun n os => ⟨n, os, rfl⟩
      generalize M.length = m at *
      clear hM hb hc hr hb2 hc2 hr2 hlt
      go_wp2_with fail
      refine wp_region_quiet_grown (by kernel_rfl) (by kernel_rfl) ?_
      try simp only [List.append]
      repeat (go_big_quiet_step (first | (go_at_call 20; refine Calls.grown_of (HP.out _ ⟨_, _, rfl⟩))))
      refine wpQuiet_nil ?_
      intro _ hw'
      obtain ⟨⟨nq, osq⟩, hw''⟩ := hw'
      subst hw''
      go_wp2_with fail
      go_roundw
      case rel => exact ⟨i + 1, by go_num, by have := Hlt.out; omega, hrel.out.trans (HG.out _ _)⟩
      case measure => have := Hlt.out; simp [intOf]; omega
    · obtain rfl : i = N := by omega
      have hlt' : ¬ (i : Int) < (i : Int) := by omega
      clear hlt
      go_wp2_with fail
      go_ret
      exact ⟨rfl, hrel.out⟩
end
end Go.Proofs.YtlficcdbnmheeaaDoor

/-
  SegHolds' memory between an Add and the next one.
-/
namespace Go.Proofs.YtlficcdbnmheeaaDoor
open Go.RowKit Go.Sort Go.Lib

theorem info_intS : (Tryd.prog.info? 3).map (fun i => (i.zero, i.size, i.bytes)) = some (some (.int .i64 0), 1, 8) := by kernel_rfl
theorem info_rows : (Tryd.prog.info? 34).map (fun i => (i.zero, i.size, i.bytes)) = some (some (.slice none 0 0), 1, 24) := by kernel_rfl
/-- rows are told by an Add (or a Pad), and not taken yet -/
def Mid (w4 w : World) (wb k c : Nat) (P G : Int) (id t n g : Nat) (sv av tv : Value) (S0 S : List UInt8) (ats : List Int) (hs : List Value) (rest l : List UInt8) : Prop :=
  ∃ (O : Nat → Nat) (v' : Value), HSt w4 w O wb k c P G id (t + n) v' ((rest ++ l).drop (n * (k * c))) sv av tv S ats hs (rowsM k c G id 0 (cutN S0 (k * c) t)) ∧ RTM w O (some ⟨g, 0, none⟩) (rowsM k c G id t (cutN (rest ++ l) (k * c) n))
section
variable {w4 w w' : World} {O : Nat → Nat} {wb k c : Nat} {P G : Int} {id t n g : Nat} {v v' sv av tv : Value} {S0 S : List UInt8} {ats : List Int} {hs : List Value} {rest l : List UInt8}
theorem Mid.start (h : HSt w4 w O wb k c P G id t v rest sv av tv S ats hs (rowsM k c G id 0 (cutN S (k * c) t))) (hT : Told w w' wb w4.heap.size k c P G id t v rest l n g v') : Mid w4 w' wb k c P G id t n g sv av tv S S ats hs rest l := by
  obtain ⟨O', q1, q2⟩ := h.add hT
  exact ⟨O', v', q1, q2⟩
theorem Mid.below (h : Mid w4 w wb k c P G id t n g sv av tv S0 S ats hs rest l) (hb : Below w.heap.size w w') : Mid w4 w' wb k c P G id t n g sv av tv S0 S ats hs rest l := by
  obtain ⟨O, v, q1, q2⟩ := h
  exact ⟨O, v, q1.below hb, q2.stp (Stp.below O 9 hb) (by omega)⟩
theorem Mid.pushA {av' : Value} {a : Int} (h : Mid w4 w wb k c P G id t n g sv av tv S0 S ats hs rest l) (ho : OwnV w' w4.heap.size 3 av' (ats.map (Value.int .i64) ++ [.int .i64 a])) (hg : w.grownBy w' av.ownBlock) (hv : av'.ownBlock = av.ownBlock ∨ av'.ownBlock = some w.heap.size) :
    (∃ A c, av' = .slice A (ats.length + 1) c) ∧ Mid w4 w' wb k c P G id t n g sv av' tv S0 S (ats ++ [a]) hs rest l := by
  obtain ⟨O, v, q1, q2⟩ := h
  obtain ⟨O', s, q3⟩ := q1.pushA ho hg hv
  obtain ⟨A, c, e, _⟩ := q3.at_.rd
  rw [List.length_map, List.length_append] at e
  exact ⟨⟨A, c, e⟩, O', v, q3, q2.stp s (by omega)⟩
theorem Mid.pushS {sv' : Value} (h : Mid w4 w wb k c P G id t n g sv av tv S0 S ats hs rest l) (b : List UInt8) (ho : Own w' w4.heap.size sv' (S ++ b)) (hg : w.grownBy w' sv.ownBlock) (hv : sv'.ownBlock = sv.ownBlock ∨ sv'.ownBlock = some w.heap.size) :
    (∃ A c, sv' = .slice A (S.length + b.length) c) ∧ Mid w4 w' wb k c P G id t n g sv' av tv S0 (S ++ b) ats hs rest l := by
  obtain ⟨O, v, q1, q2⟩ := h
  obtain ⟨O', s, q3⟩ := q1.pushS ho hg hv
  obtain ⟨A, c, e, _⟩ := q3.st.rb
  rw [List.length_append] at e
  exact ⟨⟨A, c, e⟩, O', v, q3, q2.stp s (by omega)⟩
theorem Mid.facts (h : Mid w4 w wb k c P G id t n g sv av tv S0 S ats hs rest l) : OwnV w w4.heap.size 3 av (ats.map (Value.int .i64)) ∧ Own w w4.heap.size sv S ∧ OwnV w w4.heap.size 34 tv hs ∧ hs.length = t ∧ Below w4.heap.size w4 w := by
  obtain ⟨O, v, q1, q2⟩ := h
  refine ⟨q1.at_, q1.st, q1.tl, ?_, q1.bel⟩
  have := q1.rows.1
  rw [rowsM_len, cutN_len] at this
  exact this
/-- the rows are taken -/
theorem Mid.pushT (h : Mid w4 w wb k c P G id t n g sv av tv S0 S ats hs rest l) : ∃ us : List Value, us.length = n ∧ (∀ (j : Nat) (u : Value), us[j]? = some u → w.cell? ⟨g, j, none⟩ = some u) ∧ (∀ u ∈ us, u.oneCell' = true) ∧
    ∀ tv' w', OwnV w' w4.heap.size 34 tv' (hs ++ us) → w.grownBy w' tv.ownBlock → (tv'.ownBlock = tv.ownBlock ∨ tv'.ownBlock = some w.heap.size) →
      (∃ A c, tv' = .slice A (t + n) c) ∧ ∃ (O : Nat → Nat) (v' : Value), HSt w4 w' O wb k c P G id (t + n) v' ((rest ++ l).drop (n * (k * c))) sv av tv' S ats (hs ++ us) (rowsM k c G id 0 (cutN S0 (k * c) t) ++ rowsM k c G id t (cutN (rest ++ l) (k * c) n)) := by
  obtain ⟨O, v, q1, q2⟩ := h
  obtain ⟨us, u1, u2, u3, u4⟩ := q2.headers
  rw [rowsM_len, cutN_len] at u1
  refine ⟨us, u1, u2, u3, fun tv' w' ho hg hv => ?_⟩
  obtain ⟨O', s, q3⟩ := q1.pushT u4 ho hg hv
  obtain ⟨A, cc, e, _⟩ := q3.tl.rd
  have hl := q1.rows.1
  rw [rowsM_len, cutN_len] at hl
  rw [List.length_append, hl, u1] at e
  exact ⟨⟨A, cc, e⟩, O', v, q3⟩
end
/-- append(v, nothing...) -/
theorem app_nilV {w : World} {ops : Array Oper} {rest : List Oper} {o : Oper} {a : Act} {Q : Exit → Act → World → Prop} (hgd : o.guard = none) (s x : Operand) (t e : TypeId)
    (ho : o.op = .call { callee := .builtin .append, args := #[s, x], argTypes := #[t, t] })
    (hu : Tryd.prog.underlying t = some (.slice e)) (z : Value) (bytes : Nat) (hi : (Tryd.prog.info? e).map (fun i => (i.zero, i.size, i.bytes)) = some (some z, 1, bytes))
    (base : Nat) (v : Value) (xs : List Value) (hs : a.eval s = v) (hown : OwnV w base e v xs) (hx : a.eval x = .slice none 0 0)
    (h : wpList Tryd.prog ops Q rest (a.put o.dst v) w) :
    wpList Tryd.prog ops Q (o :: rest) a w := by
  obtain ⟨i0, hi0, hz0, hz1, hz2⟩ := info_parts hi
  refine wpList_plain hgd fun K hK => ?_
  have hrun : (Builtin.append_ #[t, t] o.type #[v, .slice none 0 0]).run Tryd.prog w = .ok v w := by
    rcases hown.2 with ⟨rfl, _⟩ | ⟨g, cap, cur, rfl, _, _, hnc, _⟩
    · simp [Builtin.append_, run_underlying hu, sizeOf, typeInfo, hi0, Builtin.lenOf, Builtin.firstCells]
    · simp [Builtin.append_, run_underlying hu, sizeOf, typeInfo, hi0, Builtin.lenOf, Builtin.firstCells, hnc, storeCells, loadCells]
  unfold Oper.wp execOp
  simp only [ho, resolve, invoke, builtin, Sem.run_bind, Sem.run_pure, Result.andThen_ok, List.map_toArray, List.map_cons, List.map_nil, hs, hx, hrun]
  exact hK _ _ h
/-- the stream is padded up to j, all rows are told -/
def HPad (w4 wr : World) (wb k c : Nat) (P G : Int) (id N sl t2 j : Nat) (sv av tv : Value) (bl : Mtx) : Prop :=
  ∃ (O : Nat → Nat) (v : Value) (rest S : List UInt8) (ats : List Int) (hs : List Value), HSt w4 wr O wb k c P G id t2 v rest sv av tv (padN j S) ats hs (rowsM k c G id 0 (cutN (padN (t2 * (k * c)) S) (k * c) t2)) ∧ S.length = sl ∧ ats.length = N ∧ HoldsA S ats bl
theorem HPad.below {w4 w w' : World} {wb k c : Nat} {P G : Int} {id N sl t2 j : Nat} {sv av tv : Value} {bl : Mtx} (h : HPad w4 w wb k c P G id N sl t2 j sv av tv bl) (hb : Below w.heap.size w w') : HPad w4 w' wb k c P G id N sl t2 j sv av tv bl := by
  obtain ⟨O, v, rest, S, ats, hs, q1, q2⟩ := h
  exact ⟨O, v, rest, S, ats, hs, q1.below hb, q2⟩
theorem HPad.bel {w4 w : World} {wb k c : Nat} {P G : Int} {id N sl t2 j : Nat} {sv av tv : Value} {bl : Mtx} (h : HPad w4 w wb k c P G id N sl t2 j sv av tv bl) : Below w4.heap.size w4 w := by
  obtain ⟨O, v, rest, S, ats, hs, q1, q2⟩ := h
  exact q1.bel
/-- a byte 0 more -/
theorem HPad.zero {w4 w : World} {wb k c : Nat} {P G : Int} {id N sl t2 j : Nat} {sv av tv : Value} {bl : Mtx} (h : HPad w4 w wb k c P G id N sl t2 j sv av tv bl) (hj : sl ≤ j) : ∃ S2 : List UInt8, S2.length = j ∧ Own w w4.heap.size sv S2 ∧
    ∀ sv' w', Own w' w4.heap.size sv' (S2 ++ [0]) → w.grownBy w' sv.ownBlock → (sv'.ownBlock = sv.ownBlock ∨ sv'.ownBlock = some w.heap.size) → (∃ A c, sv' = .slice A (j + 1) c) ∧ HPad w4 w' wb k c P G id N sl t2 (j + 1) sv' av tv bl := by
  obtain ⟨O, v, rest, S, ats, hs, q1, q2, q3⟩ := h
  have hl : (padN j S).length = j := padN_len (by omega)
  refine ⟨padN j S, hl, q1.st, fun sv' w' ho hg hv => ?_⟩
  obtain ⟨O', s, h7⟩ := q1.pushS ho hg hv
  rw [padN_succ (by omega)] at h7
  obtain ⟨A, c, e, _⟩ := h7.st.rb
  rw [padN_len (by omega)] at e
  exact ⟨⟨A, c, e⟩, O', v, rest, S, ats, hs, h7, q2, q3⟩
/-- what the main loop holds -/
def HInv (w5 wr : World) (wb k c : Nat) (P G : Int) (id i sl t : Nat) (sv av tv : Value) (bl : Mtx) : Prop :=
  ∃ (O : Nat → Nat) (v : Value) (rest S : List UInt8) (ats : List Int) (hs : List Value), HSt w5 wr O wb k c P G id t v rest sv av tv S ats hs (rowsM k c G id 0 (cutN S (k * c) t)) ∧ rest = S.drop (t * (k * c)) ∧ t * (k * c) + rest.length = S.length ∧ (S.length : Int) ≤ roomS k P G ∧ S.length = sl ∧ ats.length = i ∧ HoldsA S ats bl
theorem HInv.start {w5 w6 : World} {wb k c : Nat} {P G : Int} {id : Nat} (hok : okS k P G = true) (hcG : roomOf G = (c : Int)) (hid : id < two64) (hC : Cells w6 wb 98 [.int .i64 (k : Int), .int .i64 P, .int .i64 G, .int .u64 (id : Int), .int .i64 0, .slice none 0 0]) (hwb : w5.heap.size ≤ wb) (hb : Below w5.heap.size w5 w6) (hgl : 0 < w5.heap.size) (bl : Mtx) :
    HInv w5 w6 wb k c P G id 0 0 0 (.slice none 0 0) (.slice none 0 0) (.slice none 0 0) bl := by
  obtain ⟨h1, h2, h3, h4, h5, h6, _⟩ := okS_facts hok
  have hb2 := rowS_bounds hok
  rw [rowS_ok hok, hcG] at hb2
  have hkc : 0 < k * c := Nat.mul_pos (by omega) (by omega)
  refine ⟨fun x => if x < w5.heap.size then 0 else 1, .slice none 0 0, [], [], [], [], ⟨⟨hC, Own.nil _ _, hok, hcG, hid, by show ((0 : Nat) : Int) < P; omega, hkc, hgl⟩, if_neg (by omega), (fun x hx => by cases hx), Own.nil _ _, (fun x hx => by cases hx), OwnV.nil _ _ _, (fun x hx => by cases hx), OwnV.nil _ _ _, (fun x hx => by cases hx), ⟨by rw [rowsM_len, cutN_len]; rfl, fun j h M hh => by simp at hh⟩, hb, fun x hx => if_pos hx⟩, by simp, by simp, ?_, rfl, rfl, fun j a l ha => by simp at ha⟩
  have h9 := rowS_ok hok
  rw [hcG] at h9
  unfold roomS
  rw [h9]
  obtain ⟨p, hp⟩ : ∃ p : Nat, P - 1 = (p : Int) := ⟨(P - 1).toNat, by omega⟩
  rw [hp]
  have h11 : ((k : Int) * (c : Int)) * (p : Int) = (((k * c) * p : Nat) : Int) := by simp
  rw [h11]
  exact Int.ofNat_le.2 (Nat.zero_le _)
theorem HInv.next {w4 w9 : World} {O : Nat → Nat} {wb k c : Nat} {P G : Int} {id t n i sl : Nat} {v' sv av tv : Value} {S : List UInt8} {ats : List Int} {hs : List Value} {rest l : List UInt8} {bl : Mtx}
    (h : HSt w4 w9 O wb k c P G id (t + n) v' ((rest ++ l).drop (n * (k * c))) sv av tv (S ++ l) (ats ++ [(sl : Int)]) hs (rowsM k c G id 0 (cutN S (k * c) t) ++ rowsM k c G id t (cutN (rest ++ l) (k * c) n)))
    (hrest : rest = S.drop (t * (k * c))) (hsum : t * (k * c) + rest.length = S.length) (hroom : ((S.length + l.length : Nat) : Int) ≤ roomS k P G) (hsl : S.length = sl) (hal : ats.length = i) (hh : HoldsA S ats bl) (hl : bl[i]? = some l) (hn : n = (rest ++ l).length / (k * c)) (hl1 : 1 ≤ l.length) :
    HInv w4 w9 wb k c P G id (i + 1) (sl + l.length) (t + n) sv av tv bl := by
  have hle : n * (k * c) ≤ (rest ++ l).length := by rw [hn]; exact Nat.div_mul_le_self _ _
  have hrr : (rest ++ l).drop (n * (k * c)) = (S ++ l).drop ((t + n) * (k * c)) := by
    rw [hrest, ← List.drop_append_of_le_length (by omega), List.drop_drop, Nat.add_mul]
  refine ⟨O, v', _, S ++ l, ats ++ [(sl : Int)], hs, ?_, hrr, ?_, by rw [List.length_append]; exact hroom, by rw [List.length_append, hsl], by rw [List.length_append, hal]; rfl, ?_⟩
  · rw [← rows_join (by omega), ← hrest]
    exact h
  · rw [List.length_drop, List.length_append]
    rw [List.length_append] at hle
    rw [List.length_append, Nat.add_mul]
    omega
  · rw [← hsl]
    exact hh.yes (by rw [hal]; exact hl) hl1
end Go.Proofs.YtlficcdbnmheeaaDoor

/-
  The second saying's writer: whole.
-/
namespace Go.Proofs.YtlficcdbnmheeaaDoor
open Go.RowKit Go.Sort Go.Lib

theorem rowsM_snoc {k c : Nat} {G : Int} {id t m : Nat} {b : List UInt8} {R : Nat} : rowsM k c G id t (cutN b R (m + 1)) = rowsM k c G id t (cutN b R m) ++ [pageM G ((t : Int) + (m : Int) + 1) id (rowM k c ((b.drop (m * R)).take R))] := by
  apply List.ext_getElem?
  intro j
  by_cases hj : j < m
  · rw [List.getElem?_append_left (by rw [rowsM_len, cutN_len]; exact hj), rowsM_get (by rw [cutN_len]; omega), rowsM_get (by rw [cutN_len]; exact hj)]
    rw [List.getD, List.getD, cutN_get (by omega), cutN_get hj]
  · rw [List.getElem?_append_right (by rw [rowsM_len, cutN_len]; omega), rowsM_len, cutN_len]
    by_cases e : j = m
    · subst e
      rw [Nat.sub_self, rowsM_get (by rw [cutN_len]; omega), List.getD, cutN_get (by omega)]
      rfl
    · rw [List.getElem?_eq_none (by rw [rowsM_len, cutN_len]; omega), List.getElem?_eq_none (by simp; omega)]
/-- m rows are made -/
def WS (w wr : World) (rb k c : Nat) (P G : Int) (id t : Nat) (bv : Value) (B : List UInt8) (m : Nat) (v : Value) (hs : List Value) : Prop :=
  ∃ O : Nat → Nat, Cells wr rb 58 [.int .i64 (k : Int), .int .i64 P, .int .i64 G, .int .u64 (id : Int), bv, .int .i64 ((t + m : Nat) : Int)] ∧ O rb = 1 ∧ OwnV wr w.heap.size 34 v hs ∧ (∀ x, v.ownBlock = some x → O x = 4) ∧
    HsT wr O hs (rowsM k c G id t (cutN (B.drop (t * (k * c))) (k * c) m)) ∧ Kept (fun x => x ≠ rb ∧ x < w.heap.size) w wr
section
variable {w wr w5 : World} {rb base k c : Nat} {P G : Int} {id t m : Nat} {bv v : Value} {B : List UInt8} {hs : List Value}
theorem WS.below (h : WS w wr rb k c P G id t bv B m v hs) (hb : Below wr.heap.size wr w5) : WS w w5 rb k c P G id t bv B m v hs := by
  obtain ⟨O, q1, q2, q3, q4, q5, q6⟩ := h
  have s := Stp.below O 9 hb
  exact ⟨O, (s.cells q1 q2 (by omega)).1, q2, (s.ownV q3 q4 (by omega)).1, q4, q5.stp s (by omega), q6.below hb⟩
theorem WS.len (h : WS w wr rb k c P G id t bv B m v hs) : hs.length = m := by
  obtain ⟨O, _, _, _, _, q5, _⟩ := h
  have := q5.1
  rwa [rowsM_len, cutN_len] at this
theorem WS.cells (h : WS w wr rb k c P G id t bv B m v hs) : Cells wr rb 58 [.int .i64 (k : Int), .int .i64 P, .int .i64 G, .int .u64 (id : Int), bv, .int .i64 ((t + m : Nat) : Int)] := by
  obtain ⟨O, q1, _⟩ := h
  exact q1
theorem WS.kept (h : WS w wr rb k c P G id t bv B m v hs) : Kept (fun x => x ≠ rb ∧ x < w.heap.size) w wr := by
  obtain ⟨O, _, _, _, _, _, q6⟩ := h
  exact q6
theorem WS.push {A5 : Option Addr} {c5 : Nat} {M : Mtx} (h : WS w wr rb k c P G id t bv B m v hs) (hrb : rb < w.heap.size) (hb : Below wr.heap.size wr w5) (hr : RML w5 wr.heap.size w5.heap.size A5 M)
    (hM : M = pageM G ((t : Int) + (m : Int) + 1) id (rowM k c (((B.drop (t * (k * c))).drop (m * (k * c))).take (k * c)))) (hl : M.length = k + 2) (o : Obj) :
    OwnV (w5.alloc o) w.heap.size 34 v hs ∧ w.heap.size ≤ (w5.alloc o).heap.size ∧ ∀ v9 w9, OwnV w9 w.heap.size 34 v9 (hs ++ [.slice A5 (k + 2) c5]) → (w5.alloc o).grownBy w9 v.ownBlock → (v9.ownBlock = v.ownBlock ∨ v9.ownBlock = some (w5.alloc o).heap.size) →
      (∃ A c, v9 = .slice A (m + 1) c) ∧ w9.cell? ⟨rb, 5, none⟩ = some (.int .i64 ((t + m : Nat) : Int)) ∧ w9.frozen? ⟨rb, 5, none⟩ = false ∧ WS w (w9.setCell ⟨rb, 5, none⟩ (.int .i64 ((t + (m + 1) : Nat) : Int))) rb k c P G id t bv B (m + 1) v9 (hs ++ [.slice A5 (k + 2) c5]) := by
  have hlen := h.len
  obtain ⟨O, q1, q2, q3, q4, q5, q6⟩ := h
  -- the call: what it made is tagged 5
  obtain ⟨O1, hO1⟩ : ∃ O1 : Nat → Nat, O1 = fun x => if x < wr.heap.size then O x else 5 := ⟨_, rfl⟩
  have s1 : Stp O O1 9 wr w5 := ⟨hb.os, hb.tape, hb.output, hb.size, fun x hx => by rw [hO1]; exact if_pos hx, fun x hx _ => hb.block x hx⟩
  obtain ⟨a1, a2⟩ := s1.cells q1 q2 (by omega)
  obtain ⟨b1, b2⟩ := s1.ownV q3 q4 (by omega)
  have c1 := q5.stp s1 (by omega)
  have r1 : RT w5 O1 A5 M := hr.rt (Nat.le_refl _) fun x hx _ => by rw [hO1]; exact if_neg (by omega)
  clear hO1
  have hba : Below w5.heap.size w5 (w5.alloc o) := (Below.refl _ _).alloc (Nat.le_refl _) o
  have s2 := Stp.below O1 9 hba
  obtain ⟨a3, _⟩ := s2.cells a1 a2 (by omega)
  obtain ⟨b3, _⟩ := s2.ownV b1 b2 (by omega)
  have c3 := c1.stp s2 (by omega)
  have r3 := r1.stp s2 (by omega)
  have k3 := (q6.below hb).below hba
  refine ⟨b3, k3.size, fun v9 w9 ho hg hv => ?_⟩
  obtain ⟨O2, s3, t9⟩ := Stp.grown O1 4 hg b2 (fun x hx => (b3.ge x hx).2) hv
  obtain ⟨a4, a5⟩ := s3.cells a3 a2 (by omega)
  have c4 := c3.stp s3 (by omega)
  have r4 := r3.stp s3 (by omega)
  obtain ⟨A9, cc9, e9, _⟩ := ho.rd
  rw [List.length_append, hlen] at e9
  have hsz : rb < w9.heap.size := a4.lt
  have s5 : Stp O2 O2 1 w9 (w9.setCell ⟨rb, 5, none⟩ (.int .i64 ((t + (m + 1) : Nat) : Int))) := ⟨rfl, rfl, rfl, by simp [World.setCell], fun _ _ => rfl, fun x _ hn => set_otherG _ _ fun e => hn (by rw [e]; exact a5)⟩
  have hset := a4.set 5 (.int .i64 ((t + (m + 1) : Nat) : Int))
  obtain ⟨b6, _⟩ := s5.ownV ho t9 (by omega)
  have cj : HsT w9 O2 (hs ++ [.slice A5 (k + 2) c5]) (rowsM k c G id t (cutN (B.drop (t * (k * c))) (k * c) (m + 1))) := by
    rw [rowsM_snoc, ← hM]
    refine c4.append ⟨rfl, fun j x N hx hN => ?_⟩
    match j with
    | 0 =>
      cases hx
      cases hN
      exact ⟨A5, c5, by rw [hl], r4⟩
    | j + 1 => simp at hx
  refine ⟨⟨A9, cc9, e9⟩, a4.cell rfl, a4.frozen 5, O2, hset, a5, b6, t9, cj.stp s5 (by omega), ?_⟩
  exact (k3.grown hg fun g hg2 hn => by
    have := (b3.ge g hg2).1
    omega).setCell (p := ⟨rb, 5, none⟩) (fun hn => hn.1 rfl) _
end
end Go.Proofs.YtlficcdbnmheeaaDoor

/-
  The second saying's writer: whole, walked.
-/
namespace Go.Proofs.YtlficcdbnmheeaaDoor
open Go.RowKit Go.Sort Go.Lib

section
set_option maxRecDepth 20000
set_option maxHeartbeats 4000000
variable {w : World} {rb base k c : Nat} {P G : Int} {id t : Nat} {bv : Value} {B : List UInt8}
theorem RWr.facts (h : RWr w rb base k c P G id t bv B) : 1 ≤ k ∧ k ≤ 32 ∧ 13 ≤ c ∧ c ≤ 65535 ∧ P ≤ 4096 ∧ 2 ≤ P ∧ 13 ≤ k * c ∧ k * c ≤ 2097120 ∧ rowS k P G = ((k * c : Nat) : Int) ∧ B.length / (k * c) ≤ 4095 ∧ ((B.length / (k * c) : Nat) : Int) < P ∧ B.length ≤ 17179869184 := by
  obtain ⟨h1, h2, h3, h4, h5, h6, _⟩ := okS_facts h.hok
  have h7 := h.hcG
  have hb := rowS_bounds h.hok
  have hrv : rowS k P G = ((k * c : Nat) : Int) := by rw [rowS_ok h.hok, h7]; simp
  rw [hrv] at hb
  have hB := h.hB
  have hr := (roomS_range _ _ _ h.hok).2
  unfold roomS at hB
  rw [hrv] at hB
  obtain ⟨p, hp⟩ : ∃ p : Nat, P - 1 = (p : Int) := ⟨(P - 1).toNat, by omega⟩
  rw [hp] at hB
  have h11 : ((k * c : Nat) : Int) * (p : Int) = ((p * (k * c) : Nat) : Int) := by rw [Nat.mul_comm p]; simp
  rw [h11] at hB
  have h12 : B.length / (k * c) ≤ p := by
    have h13 : B.length ≤ p * (k * c) := by omega
    exact Nat.le_trans (Nat.div_le_div_right h13) (by rw [Nat.mul_div_cancel _ (by omega)]; exact Nat.le_refl _)
  have hB2 := h.hB
  exact ⟨by omega, by omega, by omega, by omega, by omega, by omega, by omega, by omega, hrv, by omega, by omega, by omega⟩
theorem WS.start (h : RWr w rb base k c P G id t bv B) : WS w w rb k c P G id t bv B 0 (.slice none 0 0) [] :=
  ⟨fun x => if x = rb then 1 else 0, h.wr, if_pos rfl, OwnV.nil _ _ _, (fun x hx => by cases hx), ⟨by rw [rowsM_len, cutN_len]; rfl, fun j x M hx => by simp at hx⟩, Kept.refl _ _⟩
theorem whole_any (h : RWr w rb base k c P G id t bv B) (ht : t ≤ B.length / (k * c)) :
    Calls Tryd.prog 54 #[.pointer (some ⟨rb, 0, none⟩)] w fun e w' => ∃ n A cc hs, n = B.length / (k * c) - t ∧ e = .returned (.slice A n cc) ∧ WS w w' rb k c P G id t bv B n (.slice A n cc) hs := by
  obtain ⟨h1, h2, h3, h4, h5, h6, h7, h8, hrv, h10, h11, h12⟩ := h.facts
  obtain ⟨n, hn⟩ : ∃ n, n = B.length / (k * c) - t := ⟨_, rfl⟩
  obtain ⟨R, hR⟩ : ∃ R, R = k * c := ⟨_, rfl⟩
  obtain ⟨Ab, cb, hbv, hcb, _, _⟩ := h.own.rb
  obtain ⟨bl, hbl⟩ : ∃ bl, bl = B.length := ⟨_, rfl⟩
  rw [← hbl] at hbv hcb
  subst hbv
  have Hh := Lib.hid h
  obtain ⟨q, hq⟩ : ∃ q, q = B.length / (k * c) := ⟨_, rfl⟩
  have Hnn := Lib.hid hn
  rw [← hq] at hn ht h10 h11
  have HN : Hid (n = q - t ∧ R = k * c ∧ bl = B.length ∧ t ≤ q ∧ 13 ≤ R ∧ R ≤ 2097120 ∧ q ≤ 4095 ∧ (q : Int) < P ∧ bl ≤ 17179869184 ∧ bl ≤ cb ∧ 1 ≤ k ∧ 1 ≤ c ∧ ∀ x, x ≤ q ↔ x * R ≤ bl) := ⟨hn, hR, hbl, ht, by rw [hR]; exact h7, by rw [hR]; exact h8, h10, h11, by rw [hbl]; exact h12, hcb, h1, by omega, fun x => by rw [hq, hR, hbl]; exact Nat.le_div_iff_mul_le (by omega)⟩
  have Hrow := Lib.hid (rrow_any (k : Int) P G w)
  rw [hrv, ← hR] at Hrow
  unfold shV at Hrow
  have c0 := h.wr.cell (i := 0) rfl
  have c1 := h.wr.cell (i := 1) rfl
  have c2 := h.wr.cell (i := 2) rfl
  have hbb : (bl : Int) ≤ 17179869184 := by omega
  have hRb : (R : Int) ≤ 2097120 := by omega
  have Hst := Lib.hid (WS.start h)
  have HF : Hid (∀ wr m v hs, WS w wr rb k c P G id t (.slice Ab bl cb) B m v hs → (wr.cell? ⟨rb, 0, none⟩ = some (.int .i64 (k : Int)) ∧ wr.cell? ⟨rb, 1, none⟩ = some (.int .i64 P) ∧ wr.cell? ⟨rb, 2, none⟩ = some (.int .i64 G) ∧ wr.cell? ⟨rb, 3, none⟩ = some (.int .u64 (id : Int)) ∧ wr.cell? ⟨rb, 4, none⟩ = some (.slice Ab bl cb) ∧ wr.cell? ⟨rb, 5, none⟩ = some (.int .i64 ((t + m : Nat) : Int)))) := fun wr m v hs hw =>
    ⟨hw.cells.cell rfl, hw.cells.cell rfl, hw.cells.cell rfl, hw.cells.cell rfl, hw.cells.cell rfl, hw.cells.cell rfl⟩
  clear h ht h1 h2 h3 h4 h5 h6 h7 h8 hrv h10 h11 h12 hn hR hcb hbl hq
  go_enter Tryd.func54, Tryd.ntmps54
  go_wp2_with fail
  refine Hrow.out.mono ?_
  rintro e w1 ⟨rfl, hg1⟩
  have H1 := Lib.hid (Hst.out.below hg1.below)
  clear hg1 Hrow c0 c1 c2 Hst
  go_wp2_with fail
  go_loopw [3] (fun v wr => ∃ A m cc hs, v = .slice A m cc ∧ m ≤ n ∧ Hid (WS w wr rb k c P G id t (.slice Ab bl cb) B m v hs)) (fun v _ => n - lenW9 v)
  case atStart => exact ⟨none, 0, 0, [], rfl, Nat.zero_le _, H1⟩
  case round =>
    clear H1
    obtain ⟨A, m, cc, hs, rfl, hm, hst⟩ := hrel
    obtain ⟨k0, k1, k2, k3, k4, k5⟩ := HF.out wr m _ hs hst.out
    obtain ⟨tm, htm⟩ : ∃ tm, tm = t + m := ⟨_, rfl⟩
    obtain ⟨tm1, htm1⟩ : ∃ tm1, tm1 = tm + 1 := ⟨_, rfl⟩
    obtain ⟨p1, hp1⟩ : ∃ p1, p1 = tm1 * R := ⟨_, rfl⟩
    obtain ⟨i1, i2, i3, i4, i5, i6, i7, i8, i9, i10, i11, i12, i13⟩ := HN.out
    have htb : tm ≤ 4095 := by omega
    have hp1b : p1 ≤ 4096 * 2097120 := by rw [hp1]; exact Nat.mul_le_mul (by omega) i6
    have hwi : IntKind.i64.wrap ((tm : Int) + 1) = (tm1 : Int) := by rw [IntKind.wrap_i64]; omega
    have hwi' : wrap64 ((tm : Int) + 1) = (tm1 : Int) := by
      have := hwi
      simp only [IntWalk.i64_left] at this
      exact this
    have hwp : IntKind.i64.wrap ((tm1 : Int) * (R : Int)) = (p1 : Int) := by
      have : (tm1 : Int) * (R : Int) = (p1 : Int) := by rw [hp1]; simp
      rw [this, IntKind.wrap_i64]; omega
    have hwp' : wrap64 ((tm1 : Int) * (R : Int)) = (p1 : Int) := by
      have := hwp
      simp only [IntWalk.i64_left] at this
      exact this
    have HW : Hid (IntKind.i64.wrap ((tm : Int) + 1) = (tm1 : Int) ∧ wrap64 ((tm : Int) + 1) = (tm1 : Int) ∧ IntKind.i64.wrap ((tm1 : Int) * (R : Int)) = (p1 : Int) ∧ wrap64 ((tm1 : Int) * (R : Int)) = (p1 : Int)) := ⟨hwi, hwi', hwp, hwp'⟩
    clear hwi hwi' hwp hwp'
    rw [← htm] at k5
    have Htm : Hid (tm = t + m ∧ tm1 = tm + 1 ∧ p1 = tm1 * R ∧ tm ≤ 4095) := ⟨htm, htm1, hp1, htb⟩
    by_cases hlt : m < n
    case neg =>
      obtain rfl : n = m := by omega
      have hle : decide ((p1 : Int) ≤ (bl : Int)) = false := by
        have h9 : ¬ tm1 ≤ q := by omega
        have h10 : ¬ tm1 * R ≤ bl := fun q9 => h9 ((i13 tm1).2 q9)
        rw [← hp1] at h10
        exact decide_eq_false (by omega)
      have hle2 : ¬ (p1 : Int) ≤ (bl : Int) := of_decide_eq_false hle
      have Hd : Hid (∀ nq, WS w (wr.drewN nq) rb k c P G id t (.slice Ab bl cb) B n (.slice A n cc) hs) := fun nq => hst.out.below (drewN_below (Below.refl _ _) nq)
      clear hst hlt i1 i2 i3 i4 i5 i6 i7 i8 i9 i10 i11 i12 i13 htm htm1 hp1 htb hp1b
      obtain ⟨hwi, hwi', hwp, hwp'⟩ := HW.out
      go_wp2_with fail
      go_quiet (fail)
      go_wp2_with fail
      go_ret
      exact ⟨n, A, cc, hs, Hnn.out, rfl, Hd.out nq⟩
    case pos =>
      have h9 : tm1 ≤ q := by omega
      have h10 : p1 ≤ bl := by rw [hp1]; exact (i13 tm1).1 h9
      have hle : decide ((p1 : Int) ≤ (bl : Int)) = true := decide_eq_true (by omega)
      have hle2 : (p1 : Int) ≤ (bl : Int) := by omega
      obtain ⟨a, ha⟩ : ∃ a, a = tm * R := ⟨_, rfl⟩
      have hap : p1 = a + R := by rw [hp1, htm1, Nat.succ_mul, ← ha]
      have hwa : IntKind.i64.wrap ((tm : Int) * (R : Int)) = (a : Int) := by
        have : (tm : Int) * (R : Int) = (a : Int) := by rw [ha]; simp
        rw [this, IntKind.wrap_i64]; omega
      obtain ⟨gB, cB, eB, hgB, hgB2, hgB3, _⟩ := Hh.out.own.form (by omega)
      rw [← i3] at eB hgB3
      cases eB
      have hgBrb : gB ≠ rb := fun e => own_wr_ne Hh.out.own Hh.out.wr (by decide) (by rw [e]; rfl)
      obtain ⟨d, hd⟩ : ∃ d, d = ((B.drop (t * R)).drop (m * R)).take R := ⟨_, rfl⟩
      have hd2 : d = (B.drop a).take R := by rw [hd, List.drop_drop, ha, htm, Nat.add_mul]
      have hdl : d.length = R := by rw [hd2, List.length_take, List.length_drop]; omega
      have hsl : ∀ W2, (Instr.slice 25 (.slice (some ⟨gB, 0, none⟩) bl cb) (some (.int .i64 (a : Int))) (some (.int .i64 (p1 : Int))) none).run Tryd.prog W2 = .ok (.slice (some ⟨gB, a, none⟩) R (cb - a)) W2 := fun W2 => by
        have := slice_two ⟨gB, 0, none⟩ bl cb a (a + R) (by omega) (by omega) W2
        rw [add_flat, Nat.zero_add, show a + R - a = R by omega, ← hap] at this
        exact this
      have hrow : ((t : Int) + (m : Int) + 1) = (tm1 : Int) := by omega
      have hpl : (pageM G (tm1 : Int) id (rowM k c d)).length = k + 2 := by
        rw [pageM_len]; exact rowM_len i11 i12 (by rw [hdl, i2]; exact Nat.le_refl _)
      have HPg : Hid (∀ X, Below wr.heap.size wr X → Calls Tryd.prog 22 #[.agg #[.int .i64 (k : Int), .int .i64 P, .int .i64 G], .int .u64 (id : Int), .int .i64 (tm1 : Int), .slice (some ⟨gB, a, none⟩) R (cb - a)] X fun e w' => ∃ A5 c5, e = .returned (.tuple #[.slice A5 (k + 2) c5, .int .i64 0]) ∧
          (w'.cell? ⟨rb, 0, none⟩ = some (.int .i64 (k : Int)) ∧ w'.cell? ⟨rb, 1, none⟩ = some (.int .i64 P) ∧ w'.cell? ⟨rb, 2, none⟩ = some (.int .i64 G) ∧ w'.cell? ⟨rb, 3, none⟩ = some (.int .u64 (id : Int)) ∧ w'.cell? ⟨rb, 4, none⟩ = some (.slice (some ⟨gB, 0, none⟩) bl cb) ∧ w'.cell? ⟨rb, 5, none⟩ = some (.int .i64 (tm : Int))) ∧
          Hid (∀ o, OwnV (w'.alloc o) w.heap.size 34 (.slice A m cc) hs ∧ w.heap.size ≤ (w'.alloc o).heap.size ∧ ∀ v9 w9, OwnV w9 w.heap.size 34 v9 (hs ++ [.slice A5 (k + 2) c5]) → (w'.alloc o).grownBy w9 (Value.slice A m cc).ownBlock → (v9.ownBlock = (Value.slice A m cc).ownBlock ∨ v9.ownBlock = some (w'.alloc o).heap.size) →
            (∃ A c, v9 = .slice A (m + 1) c) ∧ w9.cell? ⟨rb, 5, none⟩ = some (.int .i64 (tm : Int)) ∧ w9.frozen? ⟨rb, 5, none⟩ = false ∧ WS w (w9.setCell ⟨rb, 5, none⟩ (.int .i64 (tm1 : Int))) rb k c P G id t (.slice (some ⟨gB, 0, none⟩) bl cb) B (m + 1) v9 (hs ++ [.slice A5 (k + 2) c5]))) := fun X hX => by
        have hrd : RB X X.heap.size (some ⟨gB, a, none⟩) d := by
          have hk := (hst.out.below hX).kept
          have hoX := Hh.out.own.move (w' := X) (fun g hg => by
            cases hg
            exact hk.block gB (Hh.out.own.lt gB rfl).2 ⟨hgBrb, (Hh.out.own.lt gB rfl).2⟩)
          have hB0 : RB X X.heap.size (some ⟨gB, 0, none⟩) B := by
            obtain ⟨A', c', e', _, hrb, _⟩ := hoX.rb
            rw [(Value.slice.inj e').1]
            exact hrb
          have h9 := (hB0.cutFlat a).take R
          rw [Nat.zero_add, ← hd2] at h9
          exact h9
        have hpo := rpages_okL k c (cb - a) P G (tm1 : Int) id (some ⟨gB, a, none⟩) d X Hh.out.hok Hh.out.hcG (by omega) hrd (by rw [hdl, i2]; exact Nat.le_refl _) Hh.out.hid
        rw [hdl] at hpo
        refine hpo.mono ?_
        rintro e w' ⟨A5, c5, he, r1, r2⟩
        have hp := (hst.out.below hX).push (c5 := c5) Hh.out.wr.lt r2 r1 (by rw [hrow, ← i2, ← hd]) hpl
        have hk5 := HF.out w' m _ hs ((hst.out.below hX).below r2)
        rw [← htm] at hk5
        refine ⟨A5, c5, he, hk5, fun o => ?_⟩
        have hp2 := hp o
        rw [← htm, show t + (m + 1) = tm1 by omega] at hp2
        exact hp2
      have Hhl : Hid (hs.length = m) := hst.out.len
      have Hw0 : Hid (∀ nq, Below wr.heap.size wr (wr.drewN nq)) := fun nq => drewN_below (Below.refl _ _) nq
      have Hlt : Hid (m < n ∧ n ≤ 4096) := ⟨hlt, by omega⟩
      clear hst hlt i1 i2 i3 i4 i5 i6 i7 i8 i9 i10 i11 i12 i13 htm htm1 hp1 htb hp1b h9 h10 ha hap hgB hgB2 hgB3 hgBrb hd hd2 hdl hrow hpl
      obtain ⟨hwi, hwi', hwp, hwp'⟩ := HW.out
      go_wp2_with fail
      go_quiet (fail)
      go_wp2_with fail
      have kk : (wr.drewN nq).drew.cell? ⟨rb, 0, none⟩ = some (.int .i64 (k : Int)) ∧ (wr.drewN nq).drew.cell? ⟨rb, 1, none⟩ = some (.int .i64 P) ∧ (wr.drewN nq).drew.cell? ⟨rb, 2, none⟩ = some (.int .i64 G) ∧ (wr.drewN nq).drew.cell? ⟨rb, 3, none⟩ = some (.int .u64 (id : Int)) ∧ (wr.drewN nq).drew.cell? ⟨rb, 4, none⟩ = some (.slice (some ⟨gB, 0, none⟩) bl cb) ∧ (wr.drewN nq).drew.cell? ⟨rb, 5, none⟩ = some (.int .i64 (tm : Int)) := ⟨k0, k1, k2, k3, k4, k5⟩
      have Hw1 : Hid (Below wr.heap.size wr (wr.drewN nq).drew) := (Hw0.out nq).drew
      clear k0 k1 k2 k3 k4 k5
      go_region_held3 (fun X => X.cell? ⟨rb, 0, none⟩ = some (.int .i64 (k : Int)) ∧ X.cell? ⟨rb, 1, none⟩ = some (.int .i64 P) ∧ X.cell? ⟨rb, 2, none⟩ = some (.int .i64 G) ∧ X.cell? ⟨rb, 3, none⟩ = some (.int .u64 (id : Int)) ∧ X.cell? ⟨rb, 4, none⟩ = some (.slice (some ⟨gB, 0, none⟩) bl cb) ∧ X.cell? ⟨rb, 5, none⟩ = some (.int .i64 (tm : Int))) (first | exact j1 | exact kk) (first
        | (go_at_call 22; refine (HPg.out _ Hw1.out).mono ?_; rintro e w5 ⟨A5, c5, rfl, j1, HX⟩)
        | fail)
      all_goals
        clear HPg Hw0 Hw1 kk hsl hle hle2
        go_wp2_with (at_builtin; go_must (refine app_one rfl (.tmp 60) (.tmp 62) 62 34 rfl Tryd.underlying62 (.slice none 0 0) 24 info_rows rfl w.heap.size _ hs rfl (HX.out _).1 ⟨w5.heap.size, 0, none⟩ 1 (.slice A5 (k + 2) c5) rfl (cell_new _ _ _) rfl (by have := Hhl.out; have := Hlt.out; omega) (by have := Hhl.out; have := Hlt.out; omega) (HX.out (.cells #[.slice A5 (k + 2) c5] 34)).2.1 ?_); intro v9 w9 q1 q2 q3; obtain ⟨⟨A9, c9, rfl⟩, z1, z2, z3⟩ := (HX.out _).2.2 v9 w9 q1 q2 q3; have H9 := Lib.hid z3; clear q1 q2 q3 z3)
        go_roundw
        case rel => exact ⟨A9, m + 1, c9, _, rfl, by have := Hlt.out; omega, H9⟩
        case measure => have := Hlt.out; simp [lenW9]; omega
end
end Go.Proofs.YtlficcdbnmheeaaDoor

/-
  The second saying's writer: Add.
-/
namespace Go.Proofs.YtlficcdbnmheeaaDoor
open Go.RowKit Go.Sort Go.Lib

section
set_option maxRecDepth 20000
set_option maxHeartbeats 4000000
variable {w w' w3 : World} {rb base k c : Nat} {P G : Int} {id t n : Nat} {bv v2 v : Value} {B S : List UInt8} {hs : List Value}
theorem WS.rmr {A : Option Addr} {cc : Nat} (h : WS w3 w' rb k c P G id t v2 B n (.slice A n cc) hs) : RMR w' A (rowsM k c G id t (cutN (B.drop (t * (k * c))) (k * c) n)) := fun j M hM => by
  obtain ⟨O, q1, q2, q3, q4, q5, q6⟩ := h
  have hj : j < hs.length := by rw [q5.1]; exact (List.getElem?_eq_some_iff.1 hM).1
  obtain ⟨x, hx⟩ : ∃ x, hs[j]? = some x := ⟨_, List.getElem?_eq_getElem hj⟩
  obtain ⟨A5, c5, e5, hrt⟩ := q5.2 j x M hx hM
  obtain ⟨A', c', e', _, _, hrd⟩ := q3.rd
  obtain ⟨b, eA, hb, hcell⟩ := hrd j x hx
  have e1 := (Value.slice.inj e').1
  rw [eA] at e1
  subst e5
  exact ⟨b, 0, A5, c5, e1, hb, by rw [Nat.zero_add]; exact hcell, hrt.rm⟩
theorem WS.rwr (h3 : RWr w3 rb base k c P G id t v2 B) (h : WS w3 w' rb k c P G id t v2 B n v hs) : RWr w' rb base k c P G id (t + n) v2 B :=
  ⟨h.cells, h3.own.move (fun g hg => h.kept.block g (h3.own.lt g hg).2 ⟨fun e => own_wr_ne h3.own h3.wr (by decide) (by rw [← e]; exact hg.symm), (h3.own.lt g hg).2⟩), h3.hok, h3.hcG, h3.hid, h3.hB⟩
theorem radd_zero (A : Option Addr) (cp : Nat) : Calls Tryd.prog 33 #[.pointer (some ⟨rb, 0, none⟩), .slice A 0 cp] w fun e w' => e = .returned (.tuple #[.int .i64 0, .slice none 0 0, .int .i64 1]) ∧ w' = w := by
  go_enter Tryd.func33, Tryd.ntmps33
  go_wp2_with fail
  go_ret3
  exact ⟨rfl, rfl⟩
theorem radd_full (h : RWr w rb base k c P G id t bv S) (A : Option Addr) (cp bl : Nat) (hb : 1 ≤ bl) (hf : roomS k P G < (S.length : Int) + (bl : Int)) : Calls Tryd.prog 33 #[.pointer (some ⟨rb, 0, none⟩), .slice A bl cp] w fun e w' => e = .returned (.tuple #[.int .i64 0, .slice none 0 0, .int .i64 5]) ∧ Gr w w' := by
  have HL := Lib.hid (rleft_any h)
  have hb' : (1 : Int) ≤ (bl : Int) := by omega
  have hb0 : ((bl : Int) == 0) = false := by simp; omega
  have hb1 : ¬ bl = 0 := by omega
  generalize roomS k P G = RR at *
  generalize S.length = sl at *
  have hlt : RR - (sl : Int) < (bl : Int) := by omega
  clear h hf hb
  go_enter Tryd.func33, Tryd.ntmps33
  go_wp2_with fail
  refine HL.out.mono ?_
  rintro e w1 ⟨rfl, hg1⟩
  have H1 := Lib.hid hg1
  clear hg1 HL
  go_wp2_with fail
  go_ret3
  exact ⟨rfl, H1.out⟩
/-- the stream grew by b: the writer behind it -/
theorem RWr.put {w1 w2 : World} {b : List UInt8} (h : RWr w1 rb base k c P G id t bv S) (ho : Own w2 base v2 (S ++ b)) (hg : w1.grownBy w2 bv.ownBlock) (hroom : ((S ++ b).length : Int) ≤ roomS k P G) :
    w2.cell? ⟨rb, 4, none⟩ = some bv ∧ w2.frozen? ⟨rb, 4, none⟩ = false ∧ RWr (w2.setCell ⟨rb, 4, none⟩ v2) rb base k c P G id t v2 (S ++ b) ∧ Kept (fun x => x ≠ rb ∧ bv.ownBlock ≠ some x) w1 (w2.setCell ⟨rb, 4, none⟩ v2) := by
  have hne : some rb ≠ bv.ownBlock := own_wr_ne h.own h.wr (by decide)
  have hC : Cells w2 rb 58 [.int .i64 (k : Int), .int .i64 P, .int .i64 G, .int .u64 (id : Int), bv, .int .i64 (t : Int)] := h.wr.move (hg.block rb h.wr.lt hne)
  have hne2 : some rb ≠ v2.ownBlock := own_wr_ne ho hC (by decide)
  refine ⟨hC.cell rfl, hC.frozen 4, ⟨hC.set 4 v2, ho.move (fun g hg2 => set_otherG _ _ fun e => hne2 (by rw [← e]; exact hg2.symm)), h.hok, h.hcG, h.hid, hroom⟩, ?_⟩
  have hk : Kept (fun x => x ≠ rb ∧ bv.ownBlock ≠ some x) w1 w2 := ⟨hg.os, hg.tape, hg.output, hg.size, fun x hx hn => hg.block x hx fun e => hn.2 e.symm⟩
  exact hk.setCell (p := ⟨rb, 4, none⟩) (fun hn => hn.1 rfl) _
/-- what a call of the second saying's writer leaves -/
def RDone (w w' : World) (rb base k c : Nat) (P G : Int) (id t n : Nat) (bv : Value) (S2 : List UInt8) (A : Option Addr) : Prop :=
  ∃ bv', RMR w' A (rowsM k c G id t (cutN (S2.drop (t * (k * c))) (k * c) n)) ∧ RWr w' rb base k c P G id (t + n) bv' S2 ∧ Kept (fun x => x ≠ rb ∧ bv.ownBlock ≠ some x) w w' ∧ (bv'.ownBlock = bv.ownBlock ∨ ∀ x, bv'.ownBlock = some x → w.heap.size ≤ x)
theorem RDone.of {A : Option Addr} {cc : Nat} (h3 : RWr w3 rb base k c P G id t v2 B) (h : WS w3 w' rb k c P G id t v2 B n (.slice A n cc) hs) (hk : Kept (fun x => x ≠ rb ∧ bv.ownBlock ≠ some x) w w3) (hd : v2.ownBlock = bv.ownBlock ∨ ∀ x, v2.ownBlock = some x → w.heap.size ≤ x) : RDone w w' rb base k c P G id t n bv B A :=
  ⟨v2, h.rmr, WS.rwr h3 h, ⟨h.kept.os.trans hk.os, h.kept.tape.trans hk.tape, h.kept.output.trans hk.output, Nat.le_trans hk.size h.kept.size, fun x hx hn => (h.kept.block x (Nat.lt_of_lt_of_le hx hk.size) ⟨hn.1, Nat.lt_of_lt_of_le hx hk.size⟩).trans (hk.block x hx hn)⟩, hd⟩
theorem radd_ok (h : RWr w rb base k c P G id t bv S) (ht : t ≤ S.length / (k * c)) (A : Option Addr) (cp bl : Nat) (b : List UInt8) (hbl : bl = b.length) (hr : RB w w.heap.size A b) (hb : 1 ≤ bl) (hroom : (S.length : Int) + (bl : Int) ≤ roomS k P G) (hbase : base ≤ w.heap.size) :
    Calls Tryd.prog 33 #[.pointer (some ⟨rb, 0, none⟩), .slice A bl cp] w fun e w' => ∃ n A2 cc, n = (S ++ b).length / (k * c) - t ∧ e = .returned (.tuple #[.int .i64 (S.length : Int), .slice A2 n cc, .int .i64 0]) ∧ RDone w w' rb base k c P G id t n bv (S ++ b) A2 := by
  have HL := Lib.hid (rleft_any h)
  obtain ⟨Ab, cb, hbv, hcb, _, _⟩ := h.own.rb
  obtain ⟨sl, hsl⟩ : ∃ sl, sl = S.length := ⟨_, rfl⟩
  have hfacts := h.facts
  have hHB := h.hB
  rw [← hsl] at hbv hcb HL hroom hHB hfacts ⊢
  subst hbv
  have hb' : (1 : Int) ≤ (bl : Int) := by omega
  have hb0 : ((bl : Int) == 0) = false := by simp; omega
  have hb1 : ¬ bl = 0 := by omega
  have hr0 := (roomS_range _ _ _ h.hok).2
  have HN : Hid (bl = b.length ∧ sl = S.length ∧ (sl : Int) + (bl : Int) ≤ 17179869184 ∧ ((S ++ b).length : Int) ≤ roomS k P G ∧ t ≤ (S ++ b).length / (k * c)) := ⟨hbl, hsl, by omega, by rw [List.length_append, ← hsl, ← hbl]; omega, Nat.le_trans ht (Nat.div_le_div_right (by rw [List.length_append, ← hsl]; omega))⟩
  have hlt : ¬ roomS k P G - (sl : Int) < (bl : Int) := by omega
  have H1 : Hid (∀ w1, Gr w w1 → RWr w1 rb base k c P G id t (.slice Ab sl cb) S ∧ RB w1 w1.heap.size A b ∧ base ≤ w1.heap.size) := fun w1 hg => ⟨h.below hg.below, (hr.below hg.below).wide hg.below.size, Nat.le_trans hbase hg.below.size⟩
  have Hown := Lib.hid h.own
  have HRR : Hid (∀ l : List UInt8, (l.length : Int) ≤ roomS k P G → (l.length : Int) ≤ roomS k P G) := fun _ q => q
  generalize hRR : roomS k P G = RR at hlt HL
  have HRq := Lib.hid hRR
  clear h hr hb hroom hbase hcb hsl hfacts hHB hr0 hbl ht hRR
  go_enter Tryd.func33, Tryd.ntmps33
  go_wp2_with fail
  refine HL.out.mono ?_
  rintro e w1 ⟨rfl, hg1⟩
  have Hg1 := Lib.hid hg1
  have HA1 := Lib.hid (H1.out w1 hg1)
  have c4 := HA1.out.1.wr.cell (i := 4) rfl
  clear hg1 HL H1
  go_wp2_with (at_builtin; refine app_bytes2 rfl (.tmp 25) (.tmp 26) rfl base _ S rfl HA1.out.1.own _ A bl cp b rfl HN.out.1 HA1.out.2.1 (by have := HN.out; omega) HA1.out.2.2 ?_; intro v2 w2 q1 _ q2 q3; obtain ⟨z1, z2, z3, z4⟩ := HA1.out.1.put q1 q2 HN.out.2.2.2.1; obtain ⟨A2, c2, e2, _⟩ := q1.rb; generalize (S ++ b).length = s2 at e2; subst e2; have Hz3 := Lib.hid z3; have Hz4 := Lib.hid z4; have Hz5 := Lib.hid q3; clear q1 q2 q3 z3 z4)
  refine (whole_any Hz3.out HN.out.2.2.2.2).mono ?_
  rintro e w4 ⟨n, A4, cc, hs, hn, rfl, hws⟩
  have H4 : Hid (n = (S ++ b).length / (k * c) - t ∧ RDone w w4 rb base k c P G id t n (.slice Ab sl cb) (S ++ b) A4) := by
    refine ⟨hn, RDone.of Hz3.out hws (((Gr.kept _ Hg1.out)).trans Hz4.out) ?_⟩
    rcases Hz5.out with q | q
    · exact .inl q
    · refine .inr fun x hx => ?_
      rw [q] at hx
      cases hx
      exact Hg1.out.below.size
  clear hn hws Hz3 Hz4 Hz5 z1 z2
  go_wp2_with fail
  go_ret3
  exact ⟨_, _, _, H4.out.1, rfl, H4.out.2⟩
end
end Go.Proofs.YtlficcdbnmheeaaDoor

/-
  The second saying's writer: Pad.
-/
namespace Go.Proofs.YtlficcdbnmheeaaDoor
open Go.RowKit Go.Sort Go.Lib

section
set_option maxRecDepth 20000
set_option maxHeartbeats 4000000
variable {w : World} {rb base k c : Nat} {P G : Int} {id t : Nat} {bv : Value} {S : List UInt8}
/-- padded up to j -/
def PdS (w wr : World) (rb base k c : Nat) (P G : Int) (id t : Nat) (bv v : Value) (S : List UInt8) (j : Nat) : Prop :=
  RWr wr rb base k c P G id t v (padN j S) ∧ Kept (fun x => x ≠ rb ∧ bv.ownBlock ≠ some x) w wr ∧ (v.ownBlock = bv.ownBlock ∨ ∀ x, v.ownBlock = some x → w.heap.size ≤ x)
theorem PdS.below {wr w2 : World} {v : Value} {j : Nat} (h : PdS w wr rb base k c P G id t bv v S j) (hb : Below wr.heap.size wr w2) : PdS w w2 rb base k c P G id t bv v S j := ⟨h.1.below hb, h.2.1.below hb, h.2.2⟩
theorem PdS.put {wr w1 w2 : World} {v v2 : Value} {j : Nat} (h : PdS w wr rb base k c P G id t bv v S j) (hb : Below wr.heap.size wr w1) (hj : S.length ≤ j) (ho : Own w2 base v2 (padN j S ++ [0])) (hg : w1.grownBy w2 v.ownBlock) (hd : v2.ownBlock = v.ownBlock ∨ v2.ownBlock = some w1.heap.size) (hroom : ((j + 1 : Nat) : Int) ≤ roomS k P G) :
    w2.cell? ⟨rb, 4, none⟩ = some v ∧ w2.frozen? ⟨rb, 4, none⟩ = false ∧ PdS w (w2.setCell ⟨rb, 4, none⟩ v2) rb base k c P G id t bv v2 S (j + 1) := by
  have h1 := h.below hb
  obtain ⟨z1, z2, z3, z4⟩ := h1.1.put ho hg (by rw [padN_succ hj, padN_len (by omega)]; exact hroom)
  rw [padN_succ hj] at z3
  refine ⟨z1, z2, z3, ⟨z4.os.trans h1.2.1.os, z4.tape.trans h1.2.1.tape, z4.output.trans h1.2.1.output, Nat.le_trans h1.2.1.size z4.size, fun x hx hn => (z4.block x (Nat.lt_of_lt_of_le hx h1.2.1.size) ⟨hn.1, fun e => ?_⟩).trans (h1.2.1.block x hx hn)⟩, ?_⟩
  · rcases h1.2.2 with q | q
    · rw [q] at e; exact hn.2 e
    · have := q x e; omega
  · rcases hd with q | q
    · rw [q]; exact h1.2.2
    · refine .inr fun x hx => ?_
      rw [q] at hx
      cases hx
      exact h1.2.1.size
theorem rpad_any (h : RWr w rb base k c P G id t bv S) (hbase : base ≤ w.heap.size) (s2 : Nat) (hs1 : S.length ≤ s2) (hs2 : s2 < S.length + k * c) (hs3 : s2 % (k * c) = 0) (hroom : (s2 : Int) ≤ roomS k P G) (ht : t ≤ s2 / (k * c)) :
    Calls Tryd.prog 31 #[.pointer (some ⟨rb, 0, none⟩)] w fun e w' => ∃ n A2 cc, n = s2 / (k * c) - t ∧ e = .returned (.slice A2 n cc) ∧ RDone w w' rb base k c P G id t n bv (padN s2 S) A2 := by
  obtain ⟨h1, h2, h3, h4, h5, h6, h7, h8, hrv, _, _, h12⟩ := h.facts
  obtain ⟨R, hR⟩ : ∃ R, R = k * c := ⟨_, rfl⟩
  obtain ⟨sl, hsl⟩ : ∃ sl, sl = S.length := ⟨_, rfl⟩
  have hr0 := (roomS_range _ _ _ h.hok).2
  have HN : Hid (R = k * c ∧ sl = S.length ∧ 13 ≤ R ∧ R ≤ 2097120 ∧ sl ≤ s2 ∧ s2 < sl + R ∧ s2 % R = 0 ∧ (s2 : Int) ≤ roomS k P G ∧ t ≤ s2 / (k * c) ∧ s2 ≤ 17179869184) := ⟨hR, hsl, by omega, by omega, by omega, by omega, by rw [hR]; exact hs3, hroom, ht, by omega⟩
  have Hrow := Lib.hid fun W => rrow_any (k : Int) P G W
  rw [hrv, ← hR] at Hrow
  unfold shV at Hrow
  have hR0 : ¬ R = 0 := by have := HN.out; omega
  have hRb : (R : Int) ≤ 2097120 := by have := HN.out; omega
  obtain ⟨A0, c0, hv0, _⟩ := h.own.rb
  rw [← hsl] at hv0
  have H0 : Hid (PdS w w rb base k c P G id t bv (.slice A0 sl c0) S sl) := by
    rw [← hv0, hsl]
    refine ⟨?_, Kept.refl _ _, .inl rfl⟩
    rw [padN_self]
    exact h
  have Hbs : Hid (base ≤ w.heap.size) := hbase
  clear h h1 h2 h3 h4 h5 h6 h7 h8 hrv h12 hR hr0 hsl hs1 hs2 hs3 hroom ht hbase hv0
  go_enter Tryd.func31, Tryd.ntmps31
  go_wp2_with fail
  go_loopw [14] (fun _ wr => ∃ j A c9, sl ≤ j ∧ j ≤ s2 ∧ Hid (PdS w wr rb base k c P G id t bv (.slice A j c9) S j)) (fun _ wr => s2 - (wr.cell? ⟨rb, 4, none⟩).elim 0 lenW9)
  case atStart => exact ⟨sl, A0, c0, Nat.le_refl _, HN.out.2.2.2.2.1, H0⟩
  case round =>
    obtain ⟨j, A, c9, hj1, hj2, hst⟩ := hrel
    obtain ⟨i1, i2, i3, i4, i5, i6, i7, i8, i9, i10⟩ := HN.out
    have hl := hst.out.1.wr.lt
    have c0 : ∀ n os, (grow (wr.drewN n) os).cell? ⟨rb, 0, none⟩ = some (.int .i64 (k : Int)) := fun n os => cell_grown (a := ⟨rb, 0, none⟩) hl (hst.out.1.wr.cell rfl) n os
    have c1 : ∀ n os, (grow (wr.drewN n) os).cell? ⟨rb, 1, none⟩ = some (.int .i64 P) := fun n os => cell_grown (a := ⟨rb, 1, none⟩) hl (hst.out.1.wr.cell rfl) n os
    have c2 : ∀ n os, (grow (wr.drewN n) os).cell? ⟨rb, 2, none⟩ = some (.int .i64 G) := fun n os => cell_grown (a := ⟨rb, 2, none⟩) hl (hst.out.1.wr.cell rfl) n os
    have c4 : ∀ n os, (grow (wr.drewN n) os).cell? ⟨rb, 4, none⟩ = some (.slice A j c9) := fun n os => cell_grown (a := ⟨rb, 4, none⟩) hl (hst.out.1.wr.cell rfl) n os
    have HG : Hid (∀ n os, Gr wr (grow (wr.drewN n) os)) := fun n os => ⟨n, os, rfl⟩
    obtain ⟨jm, hjm⟩ : ∃ jm, jm = j % R := ⟨_, rfl⟩
    have hmod : (j : Int).tmod (R : Int) = (jm : Int) := by rw [hjm]; rfl
    have HJ : Hid (sl ≤ j ∧ j ≤ s2 ∧ wr.cell? ⟨rb, 4, none⟩ = some (.slice A j c9)) := ⟨hj1, hj2, hst.out.1.wr.cell rfl⟩
    by_cases hd : j = s2
    case pos =>
      obtain rfl : jm = 0 := by rw [hjm, hd]; exact i7
      have Hd := Lib.hid hd
      clear hd i1 i2 i3 i4 i5 i6 i7 i8 i9 i10 hjm hj1 hj2 hl
      go_wp2_with fail
      refine wp_region_quiet_grown (by kernel_rfl) (by kernel_rfl) ?_
      try simp only [List.append]
      repeat (go_big_quiet_step (first | (go_at_call 15; refine Calls.grown_of (Hrow.out _))))
      refine wpQuiet_nil ?_
      intro _ hw'
      obtain ⟨⟨nq, osq⟩, hw''⟩ := hw'
      subst hw''
      have H5 := Lib.hid (hst.out.below (HG.out nq osq).below)
      generalize grow (wr.drewN nq) osq = w5 at *
      clear hst HG c0 c1 c2 c4 hmod
      go_wp2_with fail
      refine (whole_any H5.out.1 (by
        obtain ⟨i1, i2, i3, i4, i5, i6, i7, i8, i9, i10⟩ := HN.out
        rw [padN_len (by rw [← i2]; exact HJ.out.1), Hd.out]; exact i9)).mono ?_
      rintro e w6 ⟨n, A4, cc, hs, hn, rfl, hws⟩
      have H6 : Hid (n = s2 / (k * c) - t ∧ RDone w w6 rb base k c P G id t n bv (padN s2 S) A4) := by
        have h9 := H5.out
        rw [padN_len (by have := HN.out.2.1; rw [← this]; exact HJ.out.1)] at hn
        rw [Hd.out] at hn h9 hws
        exact ⟨hn, RDone.of h9.1 hws h9.2.1 h9.2.2⟩
      clear hn hws
      go_wp2_with fail
      go_ret
      exact ⟨n, A4, cc, H6.out.1, rfl, H6.out.2⟩
    case neg =>
      have hjm0 : ((jm : Int) != 0) = true := by
        have : jm ≠ 0 := fun e => by
          rw [e] at hjm
          obtain ⟨q, hq⟩ : ∃ q, j = R * q := ⟨j / R, by have := Nat.div_add_mod j R; omega⟩
          obtain ⟨q2, hq2⟩ : ∃ q2, s2 = R * q2 := ⟨s2 / R, by have := Nat.div_add_mod s2 R; omega⟩
          have h8 : R * q < R * q2 := by omega
          have h9 : q < q2 := Nat.lt_of_mul_lt_mul_left h8
          have h10 : R * (q + 1) ≤ R * q2 := Nat.mul_le_mul_left R h9
          rw [Nat.mul_succ] at h10
          omega
        simp; omega
      have Hlt : Hid (j < s2) := by show _ < _; omega
      have Hjl : Hid ((padN j S).length = j ∧ S.length ≤ j ∧ ((j + 1 : Nat) : Int) ≤ roomS k P G ∧ j + 1 ≤ 17179869184) := ⟨padN_len (by omega), by omega, by omega, by omega⟩
      clear hd i1 i2 i3 i4 i5 i6 i7 i8 i9 i10 hjm hj1 hj2 hl
      go_wp2_with fail
      refine wp_region_quiet_grown (by kernel_rfl) (by kernel_rfl) ?_
      try simp only [List.append]
      repeat (go_big_quiet_step (first | (go_at_call 15; refine Calls.grown_of (Hrow.out _))))
      refine wpQuiet_nil ?_
      intro _ hw'
      obtain ⟨⟨nq, osq⟩, hw''⟩ := hw'
      subst hw''
      have Hg5 := Lib.hid (HG.out nq osq)
      generalize grow (wr.drewN nq) osq = w5 at *
      have H5 := Lib.hid (hst.out.below (Hg5.out.trans (Gr.alloc w5 (.cells #[.int .u8 0] 5))).below)
      have c5 := (hst.out.below Hg5.out.below).1.wr.cell (i := 4) rfl
      have c6 := H5.out.1.wr.cell (i := 4) rfl
      clear HG c0 c1 c2 c4 hmod
      go_wp2_with (at_builtin; refine app_bytes2 rfl (.tmp 19) (.tmp 20) rfl base _ (padN j S) rfl H5.out.1.own (w5.heap.size + 1) (some ⟨w5.heap.size, 0, none⟩) 1 1 [0] rfl rfl (RB.new w5 _ _ [0] rfl) (by have := Hjl.out; simp; omega) (by have := Hbs.out; have := H5.out.2.1.size; omega) ?_; intro v2 w2 q1 _ q2 q3; obtain ⟨z1, z2, z3⟩ := hst.out.put (Hg5.out.trans (Gr.alloc w5 (.cells #[.int .u8 0] 5))).below Hjl.out.2.1 q1 q2 q3 Hjl.out.2.2.1; obtain ⟨A2, c8, e2, _⟩ := q1.rb; rw [List.length_append, Hjl.out.1] at e2; subst e2; have H7 := Lib.hid z3; clear q1 q2 q3 z3)
      go_roundw
      case rel => exact ⟨j + 1, A2, c8, by have := HJ.out; omega, by have := Hlt.out; omega, H7⟩
      case measure =>
        have h1 : (w2.setCell ⟨rb, 4, none⟩ (.slice A2 (j + 1) c8)).cell? ⟨rb, 4, none⟩ = some (.slice A2 (j + 1) c8) := H7.out.1.wr.cell (i := 4) rfl
        rw [h1, HJ.out.2.2]
        have := Hlt.out
        simp [lenW9]
        omega
end
end Go.Proofs.YtlficcdbnmheeaaDoor

/-
  SegWrites' acts; are there few of them?
-/
namespace Go.Proofs.YtlficcdbnmheeaaDoor
open Go.RowKit Go.Sort Go.Lib

structure WAct where
  blob : List UInt8
  pad : Bool
/-- an act in memory, its two cells from o on in block b -/
def WActAt (w : World) (B b o : Nat) (x : WAct) : Prop :=
  (∃ (A : Option Addr) (c : Nat), w.cell? ⟨b, o, none⟩ = some (.slice A x.blob.length c) ∧ RB w B A x.blob ∧ x.blob.length ≤ c) ∧ w.cell? ⟨b, o + 1, none⟩ = some (.bool x.pad)
def WActs (w : World) (B : Nat) (A : Option Addr) (l : List WAct) : Prop := ∀ (k : Nat) (x : WAct), l[k]? = some x → ∃ b o, A = some ⟨b, o, none⟩ ∧ b < B ∧ WActAt w B b (o + k * 2) x
theorem WActs.below {w w' : World} {B : Nat} {A : Option Addr} {l : List WAct} (h : WActs w B A l) (hb : Below B w w') : WActs w' B A l := fun k x hx => by
  obtain ⟨b, o, e, h1, ⟨A', c, h2, h3, h4⟩, h5⟩ := h k x hx
  exact ⟨b, o, e, h1, ⟨A', c, (hb.cell (p := ⟨b, o + k * 2, none⟩) h1).trans h2, h3.below hb, h4⟩, (hb.cell (p := ⟨b, o + k * 2 + 1, none⟩) h1).trans h5⟩
def blobsOf (l : List WAct) : Mtx := l.map (·.blob)
def fewW (l : List WAct) : Bool := decide (l.length ≤ 200) && decide (slen (blobsOf l) l.length ≤ 20000)
section
set_option maxRecDepth 20000
set_option maxHeartbeats 1600000
theorem few9_any (A : Option Addr) (c N : Nat) (l : List WAct) (hN : N = l.length) (w : World) (B : Nat) (h : WActs w B A l) (hl : N ≤ 1048576) (hbd : ∀ (k : Nat) (x : WAct), l[k]? = some x → x.blob.length ≤ 1048576) :
    Calls Tryd.prog 27 #[.slice A N c] w fun e w' => e = .returned (.bool (fewW l)) ∧ w' = w := by
  have Hh := Lib.hid h
  have HN : Hid (N = l.length ∧ N ≤ 1048576) := ⟨hN, hl⟩
  have hNb : (N : Int) ≤ 1048576 := by omega
  have hll : ∀ (k : Nat) (x : List UInt8), (blobsOf l)[k]? = some x → x.length ≤ 1048576 := fun k x hx => by
    rw [blobsOf, List.getElem?_map, Option.map_eq_some_iff] at hx
    obtain ⟨y, hy, rfl⟩ := hx
    exact hbd k y hy
  have Hs : Hid (∀ (k : Nat) (x : WAct), l[k]? = some x → slen (blobsOf l) (k + 1) = slen (blobsOf l) k + x.blob.length ∧ slen (blobsOf l) k ≤ 1099511627776 ∧ x.blob.length ≤ 1048576) := fun k x hx => by
    have hk := (List.getElem?_eq_some_iff.1 hx).1
    refine ⟨by rw [slen, List.getD, blobsOf, List.getElem?_map, hx]; rfl, Nat.le_trans (slen_le hll k) ?_, hbd k x hx⟩
    have : k * 1048576 ≤ 1048576 * 1048576 := Nat.mul_le_mul_right _ (by omega)
    omega
  clear h hN hl hbd hll
  go_enter Tryd.func27, Tryd.ntmps27
  go_wp2_with fail
  go_loopw [4, 3] (fun iv nv wr => ∃ k : Nat, iv = .int .i64 (k : Int) ∧ k ≤ N ∧ nv = .int .i64 (slen (blobsOf l) k : Int) ∧ Hid (wr = w)) (fun iv _ _ => N - (intOf iv).toNat)
  case atStart => exact ⟨0, rfl, Nat.zero_le _, rfl, rfl⟩
  case round =>
    obtain ⟨k, rfl, hk, rfl, hrel⟩ := hrel
    by_cases hlt : k < N
    · have hlt' : (k : Int) < (N : Int) := by omega
      have Hlt : Hid (k < N) := hlt
      obtain ⟨x, hx⟩ : ∃ x, l[k]? = some x := ⟨_, List.getElem?_eq_getElem (by rw [← HN.out.1]; exact hlt)⟩
      obtain ⟨b, o, rfl, _, ⟨A', c', hc, _, _⟩, _⟩ := Hh.out k x hx
      obtain ⟨e1, e2, e3⟩ := Hs.out k x hx
      have k1 : wr.cell? ⟨b, o + k * 2, none⟩ = some (.slice A' x.blob.length c') := by rw [hrel.out]; exact hc
      have Hsum : Hid (IntKind.i64.wrap ((slen (blobsOf l) k : Int) + (x.blob.length : Int)) = (slen (blobsOf l) (k + 1) : Int)) := by show _ = _; rw [e1, IntKind.wrap_i64]; omega
      generalize x.blob.length = m at *
      generalize hs1 : slen (blobsOf l) k = s1 at *
      clear hx hc e1 e2 e3 hs1 hlt
      go_wp2_with fail
      go_roundw
      case rel => exact ⟨k + 1, by go_num, by have := Hlt.out; omega, by first | rw [Hsum.out] | (have := Hsum.out; simp only [IntWalk.i64_left] at this; simp [this]), hrel⟩
      case measure => have := Hlt.out; simp [intOf]; omega
    · obtain rfl : k = N := by omega
      have hlt' : ¬ (k : Int) < (k : Int) := by omega
      have Hf : Hid (fewW l = (decide ((k : Int) ≤ 200) && decide ((slen (blobsOf l) k : Int) ≤ 20000))) := by
        show _ = _
        unfold fewW
        rw [← HN.out.1]
        congr 1
        · exact decide_eq_decide.2 (by omega)
        · exact decide_eq_decide.2 (by omega)
      have Hw := Lib.hid hrel.out
      generalize slen (blobsOf l) k = s1 at *
      clear hlt hrel
      by_cases hk2 : (k : Int) ≤ 200
      · have hd : decide ((k : Int) ≤ 200) = true := decide_eq_true hk2
        go_wp2_with fail
        go_ret
        exact ⟨by rw [Hf.out]; simp [hd], Hw.out⟩
      · have hd : decide ((k : Int) ≤ 200) = false := decide_eq_false hk2
        have hk3 : 200 < (k : Int) := by omega
        go_wp2_with fail
        go_ret
        exact ⟨by rw [Hf.out]; simp [hd], Hw.out⟩
end
end Go.Proofs.YtlficcdbnmheeaaDoor

/-
  SegWrites' memory: both writers side by side.
-/
namespace Go.Proofs.YtlficcdbnmheeaaDoor
open Go.RowKit Go.Sort Go.Lib

section
variable {w4 w w' w'' : World} {O O' : Nat → Nat} {τ wb rb base k c : Nat} {P G : Int} {id t n g : Nat} {v v' bv : Value} {rest S S2 b : List UInt8} {A A2 : Option Addr}
theorem RWr.stp (s : Stp O O' τ w w') (h : RWr w rb base k c P G id t bv S) (h1 : O rb = 2) (h2 : ∀ x, bv.ownBlock = some x → O x = 2) (hn : 2 ≠ τ) : RWr w' rb base k c P G id t bv S ∧ O' rb = 2 ∧ ∀ x, bv.ownBlock = some x → O' x = 2 := by
  obtain ⟨a1, a2⟩ := s.cells h.wr h1 hn
  obtain ⟨b1, b2⟩ := s.own h.own h2 hn
  exact ⟨⟨a1, b1, h.hok, h.hcG, h.hid, h.hB⟩, a2, b2⟩
/-- both writers hold the same -/
structure LSt (w4 w : World) (O : Nat → Nat) (wb rb k c : Nat) (P G : Int) (id t : Nat) (v : Value) (rest : List UInt8) (bv : Value) (S : List UInt8) : Prop where
  wr : WrAt w wb w4.heap.size k c P G id t v rest
  twb : O wb = 1
  tv : ∀ x, v.ownBlock = some x → O x = 1
  rf : RWr w rb w4.heap.size k c P G id t bv S
  trb : O rb = 2
  tb : ∀ x, bv.ownBlock = some x → O x = 2
  hrest : rest = S.drop (t * (k * c))
  hsum : t * (k * c) + rest.length = S.length
  bel : Below w4.heap.size w4 w
  low : ∀ x, x < w4.heap.size → O x = 0
def LInv (w4 w : World) (wb rb k c : Nat) (P G : Int) (id : Nat) : Prop := ∃ O t v rest bv S, LSt w4 w O wb rb k c P G id t v rest bv S
theorem LSt.below (h : LSt w4 w O wb rb k c P G id t v rest bv S) (hb : Below w.heap.size w w') : LSt w4 w' O wb rb k c P G id t v rest bv S :=
  ⟨h.wr.below hb, h.twb, h.tv, h.rf.below hb, h.trb, h.tb, h.hrest, h.hsum, h.bel.trans (hb.mono h.bel.size), h.low⟩
theorem LInv.below (h : LInv w4 w wb rb k c P G id) (hb : Below w.heap.size w w') : LInv w4 w' wb rb k c P G id := by
  obtain ⟨O, t, v, rest, bv, S, q⟩ := h
  exact ⟨O, t, v, rest, bv, S, q.below hb⟩
/-- the program's writer has gone on to S2, and told n rows at A; the second saying's has not -/
def LMid (w4 w : World) (wb rb k c : Nat) (P G : Int) (id t n : Nat) (bv : Value) (S S2 : List UInt8) (A : Option Addr) : Prop :=
  ∃ (O : Nat → Nat) (v : Value) (rest : List UInt8), WrAt w wb w4.heap.size k c P G id (t + n) v rest ∧ O wb = 1 ∧ (∀ x, v.ownBlock = some x → O x = 1) ∧ RWr w rb w4.heap.size k c P G id t bv S ∧ O rb = 2 ∧ (∀ x, bv.ownBlock = some x → O x = 2) ∧
    RTM w O A (rowsM k c G id t (cutN (S2.drop (t * (k * c))) (k * c) n)) ∧ rest = S2.drop ((t + n) * (k * c)) ∧ (t + n) * (k * c) + rest.length = S2.length ∧ Below w4.heap.size w4 w ∧ (∀ x, x < w4.heap.size → O x = 0)
theorem LMid.rf (h : LMid w4 w wb rb k c P G id t n bv S S2 A) : RWr w rb w4.heap.size k c P G id t bv S ∧ Below w4.heap.size w4 w := by
  obtain ⟨O, v, rest, _, _, _, q4, _, _, _, _, _, q10, _⟩ := h
  exact ⟨q4, q10⟩
/-- the program goes on by b -/
theorem LSt.told (h : LSt w4 w O wb rb k c P G id t v rest bv S) (hT : Told w w' wb w4.heap.size k c P G id t v rest b n g v') (hn : n * (k * c) ≤ (rest ++ b).length) : LMid w4 w' wb rb k c P G id t n bv S (S ++ b) (some ⟨g, 0, none⟩) := by
  obtain ⟨O', s, q1, q2, q3⟩ := hT.stp O h.wr h.twb h.tv
  obtain ⟨a1, a2, a3⟩ := RWr.stp s h.rf h.trb h.tb (by omega)
  obtain ⟨d1, d2⟩ := s.bel h.bel h.low (by omega)
  have hdr : (S ++ b).drop (t * (k * c)) = rest ++ b := by
    have := h.hsum
    rw [List.drop_append_of_le_length (by omega), ← h.hrest]
  refine ⟨O', v', _, hT.2.1, q1, q2, a1, a2, a3, by rw [hdr]; exact q3, ?_, ?_, d1, d2⟩
  · rw [← hdr, List.drop_drop, Nat.add_mul]
  · have := h.hsum
    rw [List.length_drop, List.length_append]
    rw [List.length_append] at hn
    rw [List.length_append, Nat.add_mul]
    omega
/-- no rows are told, the stream is as it was -/
theorem LSt.still (h : LSt w4 w O wb rb k c P G id t v rest bv S) (hb : Below w.heap.size w w') (A : Option Addr) : LMid w4 w' wb rb k c P G id t 0 bv S S A := by
  have h2 := h.below hb
  exact ⟨O, v, rest, h2.wr, h2.twb, h2.tv, h2.rf, h2.trb, h2.tb, fun j M hM => by
    have := (List.getElem?_eq_some_iff.1 hM).1
    rw [rowsM_len, cutN_len] at this
    omega, by rw [Nat.add_zero]; exact h2.hrest, by rw [Nat.add_zero]; exact h2.hsum, h2.bel, h2.low⟩
/-- the second saying's writer follows -/
theorem LMid.done (h : LMid w4 w wb rb k c P G id t n bv S S2 A) (hD : RDone w w' rb w4.heap.size k c P G id t n bv S2 A2) :
    LInv w4 w' wb rb k c P G id ∧ RMR w' A (rowsM k c G id t (cutN (S2.drop (t * (k * c))) (k * c) n)) ∧ RMR w' A2 (rowsM k c G id t (cutN (S2.drop (t * (k * c))) (k * c) n)) := by
  obtain ⟨O, v, rest, q1, q2, q3, q4, q5, q6, q7, q8, q9, q10, q11⟩ := h
  obtain ⟨bv', r1, r2, r3, r4⟩ := hD
  obtain ⟨O', hO'⟩ : ∃ O' : Nat → Nat, O' = fun x => if x < w.heap.size then O x else 2 := ⟨_, rfl⟩
  have s : Stp O O' 2 w w' := ⟨r3.os, r3.tape, r3.output, r3.size, fun x hx => by rw [hO']; exact if_pos hx, fun x hx hn => r3.block x hx ⟨fun e => hn (by rw [e]; exact q5), fun e => hn (q6 x e)⟩⟩
  obtain ⟨a1, a2, a3⟩ := WrAt.stp s q1 q2 q3 (by omega)
  obtain ⟨d1, d2⟩ := s.bel q10 q11 (by omega)
  have trb : O' rb = 2 := by rw [s.tag rb q4.wr.lt]; exact q5
  have tb : ∀ x, bv'.ownBlock = some x → O' x = 2 := fun x hx => by
    rcases r4 with e | e
    · rw [e] at hx
      rw [s.tag x (q4.own.lt x hx).2]
      exact q6 x hx
    · have := e x hx
      rw [hO']
      exact if_neg (by omega)
  exact ⟨⟨O', t + n, v, rest, bv', S2, ⟨a1, a2, a3, r2, trb, tb, q8, q9, d1, d2⟩⟩, (q7.stp s (by omega)).rmr, r1⟩
theorem LInv.start {w5 w6 : World} (hok : okS k P G = true) (hcG : roomOf G = (c : Int)) (hid : id < two64) (hC : Cells w5 wb 98 [.int .i64 (k : Int), .int .i64 P, .int .i64 G, .int .u64 (id : Int), .int .i64 0, .slice none 0 0]) (hwb : w4.heap.size ≤ wb) (hb : Below w4.heap.size w4 w5) (hgl : 0 < w4.heap.size)
    (hb6 : Below w5.heap.size w5 w6) (hC6 : Cells w6 rb 58 [.int .i64 (k : Int), .int .i64 P, .int .i64 G, .int .u64 (id : Int), .slice none 0 0, .int .i64 0]) (hrb : w5.heap.size ≤ rb) :
    LInv w4 w6 wb rb k c P G id := by
  obtain ⟨h1, h2, h3, h4, h5, h6, _⟩ := okS_facts hok
  have hb2 := rowS_bounds hok
  rw [rowS_ok hok, hcG] at hb2
  have hkc : 0 < k * c := Nat.mul_pos (by omega) (by omega)
  have hlt := hC.lt
  refine ⟨fun x => if x < w4.heap.size then 0 else if x = rb then 2 else 1, 0, .slice none 0 0, [], .slice none 0 0, [], ⟨⟨hC.move (hb6.block _ hlt), Own.nil _ _, hok, hcG, hid, by show ((0 : Nat) : Int) < P; omega, hkc, hgl⟩, ?_, (fun x hx => by cases hx), ⟨hC6, Own.nil _ _, hok, hcG, hid, ?_⟩, ?_, (fun x hx => by cases hx), by simp, by simp, hb.trans (hb6.mono hb.size), fun x hx => if_pos hx⟩⟩
  · show (if wb < w4.heap.size then 0 else if wb = rb then 2 else 1) = 1
    rw [if_neg (by omega), if_neg (by omega)]
  · have := (roomS_range _ _ _ hok).1
    simpa using this
  · show (if rb < w4.heap.size then 0 else if rb = rb then 2 else 1) = 2
    have := hb.size
    rw [if_neg (by omega), if_pos rfl]
end
end Go.Proofs.YtlficcdbnmheeaaDoor

/-
  SegWrites: one act, by both writers.
-/
namespace Go.Proofs.YtlficcdbnmheeaaDoor
open Go.RowKit Go.Sort Go.Lib

theorem rowsM_short {k c : Nat} {G : Int} {id t n R : Nat} {b : List UInt8} (hk : 1 ≤ k) (hk2 : k ≤ 32) (hc : 1 ≤ c) (hR : R = k * c) (j : Nat) (M : Mtx) (hM : (rowsM k c G id t (cutN b R n))[j]? = some M) : M.length ≤ 64 := by
  have hj := (List.getElem?_eq_some_iff.1 hM).1
  rw [rowsM_len, cutN_len] at hj
  rw [rowsM_get (by rw [cutN_len]; exact hj), List.getD, cutN_get hj] at hM
  cases hM
  rw [pageM_len]
  show (rowM k c ((b.drop (j * R)).take R)).length ≤ 64
  rw [rowM_len hk hc (by rw [← hR]; exact List.length_take_le _ _)]
  omega
section
variable {w4 w w' w'' wr : World} {wb rb k c : Nat} {P G : Int} {id t n : Nat} {bv : Value} {S S2 : List UInt8} {A A2 : Option Addr}
/-- rows told by both are the same -/
theorem LMid.rows (h : LMid w4 w wb rb k c P G id t n bv S S2 A) (hD : RDone w w' rb w4.heap.size k c P G id t n bv S2 A2) (hn : n ≤ 17179869184) (cc cc2 : Nat) :
    Hid (LInv w4 w' wb rb k c P G id ∧ Calls Tryd.prog 29 #[.slice A n cc, .slice A2 n cc2] w' fun e w'' => e = .returned (.bool true) ∧ Gr w' w'') := by
  obtain ⟨f1, f2, f3, _⟩ := h.rf.1.facts
  obtain ⟨h1, h2, h3⟩ := h.done hD
  exact ⟨h1, rows_same A A2 cc cc2 n _ (by rw [rowsM_len, cutN_len]) hn w' h2 h3 fun j M hM => rowsM_short f1 f2 (by omega) rfl j M hM⟩
theorem pad_both (h : LInv w4 wr wb rb k c P G id) (hT : Tab wr) : Calls Tryd.prog 30 #[.pointer (some ⟨wb, 0, none⟩)] wr fun e w' => ∃ A n cc, e = .returned (.slice A n cc) ∧
    Hid (Calls Tryd.prog 31 #[.pointer (some ⟨rb, 0, none⟩)] w' fun e2 w'' => ∃ A2 cc2, e2 = .returned (.slice A2 n cc2) ∧ Hid (LInv w4 w'' wb rb k c P G id ∧ Calls Tryd.prog 29 #[.slice A n cc, .slice A2 n cc2] w'' fun e w3 => e = .returned (.bool true) ∧ Gr w'' w3)) := by
  obtain ⟨O, t, v, rest, bv, S, hst⟩ := h
  obtain ⟨f1, f2, f3, f4, f5, f6, f7, f8, frv, f10, f11, f12⟩ := hst.rf.facts
  have hsum := hst.hsum
  have hrr := hst.wr.hr
  have hroomS := hst.rf.hB
  have hroom2 : rest.length ≠ 0 → (t : Int) + 1 < P ∧ (((t + 1) * (k * c) : Nat) : Int) ≤ roomS k P G := fun hr0 => by
    unfold roomS at hroomS ⊢
    rw [frv] at hroomS ⊢
    obtain ⟨p, hp⟩ : ∃ p : Nat, P - 1 = (p : Int) := ⟨(P - 1).toNat, by omega⟩
    rw [hp] at hroomS ⊢
    have h11 : ((k * c : Nat) : Int) * (p : Int) = ((p * (k * c) : Nat) : Int) := by rw [Nat.mul_comm p]; simp
    rw [h11] at hroomS ⊢
    have h12 : t * (k * c) < p * (k * c) := by omega
    have h13 := Nat.lt_of_mul_lt_mul_right h12
    have h14 : (t + 1) * (k * c) ≤ p * (k * c) := Nat.mul_le_mul_right _ h13
    exact ⟨by omega, by omega⟩
  -- the second saying, from wherever the program's Pad left both
  have ref : ∀ (s2 n : Nat) (A : Option Addr) (cc : Nat) (w' : World), S.length ≤ s2 → s2 < S.length + k * c → s2 % (k * c) = 0 → (s2 : Int) ≤ roomS k P G → t ≤ s2 / (k * c) → n = s2 / (k * c) - t → n ≤ 17179869184 → LMid w4 w' wb rb k c P G id t n bv S (padN s2 S) A →
      Hid (Calls Tryd.prog 31 #[.pointer (some ⟨rb, 0, none⟩)] w' fun e2 w'' => ∃ A2 cc2, e2 = .returned (.slice A2 n cc2) ∧ Hid (LInv w4 w'' wb rb k c P G id ∧ Calls Tryd.prog 29 #[.slice A n cc, .slice A2 n cc2] w'' fun e w3 => e = .returned (.bool true) ∧ Gr w'' w3)) := fun s2 n A cc w' g1 g2 g3 g4 g5 g6 g7 hm => by
    refine (rpad_any hm.rf.1 hm.rf.2.size s2 g1 g2 g3 g4 g5).mono ?_
    rintro e2 w'' ⟨n2, A2, cc2, hn2, he2, hD⟩
    have : n2 = n := by rw [hn2, g6]
    subst this
    exact ⟨A2, cc2, he2, hm.rows hD g7 cc cc2⟩
  by_cases hr0 : rest.length = 0
  · refine (wpad_any hst.wr hT hst.bel.size (fun q => absurd hr0 q)).mono ?_
    rintro e w' (⟨_, he, hg⟩ | ⟨q, _⟩)
    · refine ⟨none, 0, 0, he, ref S.length 0 none 0 w' (Nat.le_refl _) (by omega) ?_ hroomS ?_ ?_ (by omega) ?_⟩
      · have : S.length = t * (k * c) := by omega
        rw [this, Nat.mul_mod_left]
      · have : S.length = t * (k * c) := by omega
        rw [this, Nat.mul_div_cancel _ (by omega)]; exact Nat.le_refl _
      · have : S.length = t * (k * c) := by omega
        rw [this, Nat.mul_div_cancel _ (by omega)]; omega
      · rw [padN_self]
        exact hst.still hg.below none
    · omega
  · obtain ⟨g1, g2⟩ := hroom2 hr0
    refine (wpad_any hst.wr hT hst.bel.size (fun _ => g1)).mono ?_
    rintro e w' (⟨q, _⟩ | ⟨_, g, v', he, hTold⟩)
    · exact absurd q hr0
    · have e3 : (t + 1) * (k * c) = t * (k * c) + k * c := by rw [Nat.succ_mul]
      have e1 : S ++ List.replicate (k * c - rest.length) 0 = padN ((t + 1) * (k * c)) S := by
        unfold padN
        congr 2
        omega
      have hm := hst.told hTold (by rw [List.length_append, List.length_replicate]; omega)
      rw [e1] at hm
      refine ⟨_, 1, 1, he, ref ((t + 1) * (k * c)) 1 _ 1 w' (by omega) (by omega) (Nat.mul_mod_left _ _) g2 ?_ ?_ (by omega) hm⟩
      · rw [Nat.mul_div_cancel _ (by omega)]; omega
      · rw [Nat.mul_div_cancel _ (by omega)]; omega
theorem add_both (h : LInv w4 wr wb rb k c P G id) (hT : Tab wr) (A : Option Addr) (cp bl : Nat) (b : List UInt8) (hbl : bl = b.length) (B0 : Nat) (hr : RB wr B0 A b) (hB0 : B0 ≤ w4.heap.size) (hb0 : ∀ w', Below w4.heap.size w4 w' → RB w' B0 A b) (hcp : bl ≤ cp) :
    Calls Tryd.prog 32 #[.pointer (some ⟨wb, 0, none⟩), .slice A bl cp] wr fun e w' => ∃ (a E : Int) (A1 : Option Addr) (n cc : Nat), e = .returned (.tuple #[.int .i64 a, .slice A1 n cc, .int .i64 E]) ∧ Below w4.heap.size w4 w' ∧
      Hid (Calls Tryd.prog 33 #[.pointer (some ⟨rb, 0, none⟩), .slice A bl cp] w' fun e2 w'' => ∃ A2 cc2, e2 = .returned (.tuple #[.int .i64 a, .slice A2 n cc2, .int .i64 E]) ∧ Hid (LInv w4 w'' wb rb k c P G id ∧ Calls Tryd.prog 29 #[.slice A1 n cc, .slice A2 n cc2] w'' fun e w3 => e = .returned (.bool true) ∧ Gr w'' w3)) := by
  obtain ⟨O, t, v, rest, bv, S, hst⟩ := h
  obtain ⟨f1, f2, f3, f4, f5, f6, f7, f8, frv, f10, f11, f12⟩ := hst.rf.facts
  have hsum := hst.hsum
  have nilrows : ∀ w'' : World, Calls Tryd.prog 29 #[.slice none 0 0, .slice none 0 0] w'' fun e w3 => e = .returned (.bool true) ∧ Gr w'' w3 := fun w'' =>
    rows_same none none 0 0 0 [] rfl (by omega) w'' (fun j M hM => by simp at hM) (fun j M hM => by simp at hM) fun j M hM => by simp at hM
  subst hbl
  have hadd := wadd_any hst.wr hT A cp b (hr.wide (by have := hst.bel.size; omega)) hcp hst.bel.size
  rw [hsum] at hadd
  refine hadd.mono ?_
  rintro e w' (⟨hz, he, hg⟩ | ⟨hz, hf, he, hg⟩ | ⟨hz, hf, n, g, v', hn, he, hTold⟩)
  · refine ⟨0, 1, none, 0, 0, he, (hst.below hg.below).bel, ?_⟩
    rw [hz]
    refine (radd_zero A cp).mono ?_
    rintro e2 w'' ⟨he2, rfl⟩
    exact ⟨none, 0, he2, ⟨O, t, v, rest, bv, S, hst.below hg.below⟩, nilrows _⟩
  · refine ⟨0, 5, none, 0, 0, he, (hst.below hg.below).bel, ?_⟩
    have h2 := hst.below hg.below
    refine (radd_full h2.rf A cp b.length hz hf).mono ?_
    rintro e2 w'' ⟨he2, hg2⟩
    exact ⟨none, 0, he2, ⟨O, t, v, rest, bv, S, h2.below hg2.below⟩, nilrows _⟩
  · have hm := hst.told hTold (by rw [hn]; exact Nat.div_mul_le_self _ _)
    have hq : (S ++ b).length / (k * c) = n + t := by
      have : (S ++ b).length = (rest ++ b).length + t * (k * c) := by rw [List.length_append, List.length_append]; omega
      rw [this, Nat.add_mul_div_right _ _ (by omega), ← hn]
    have hr2 := (hst.hsum)
    refine ⟨_, 0, _, n, n, he, hm.rf.2, ?_⟩
    have hrr := (hb0 w' hm.rf.2).wide (Nat.le_trans hB0 hm.rf.2.size)
    refine (radd_ok hm.rf.1 (by
      have := hst.hsum
      exact (Nat.le_div_iff_mul_le (by omega)).2 (by omega)) A cp b.length b rfl hrr hz hf hm.rf.2.size).mono ?_
    rintro e2 w'' ⟨n2, A2, cc2, hn2, he2, hD⟩
    have : n2 = n := by rw [hn2, hq]; omega
    subst this
    refine ⟨A2, cc2, he2, hm.rows hD ?_ _ cc2⟩
    have h9 := Nat.div_le_self (rest ++ b).length (k * c)
    have hBr := (roomS_range _ _ _ hst.rf.hok).2
    rw [List.length_append] at h9
    rw [hn, List.length_append]
    omega
end
end Go.Proofs.YtlficcdbnmheeaaDoor

/-
  SegWrites: the law's walk.
-/
namespace Go.Proofs.YtlficcdbnmheeaaDoor
open Go.RowKit Go.Sort Go.Lib

section
set_option maxRecDepth 20000
set_option maxHeartbeats 8000000
theorem writes_any (K P G : Int) (id : Nat) (A : Option Addr) (cl N : Nat) (l : List WAct) (hN : N = l.length) (hN2 : N ≤ 1048576) (hll : ∀ (k : Nat) (x : WAct), l[k]? = some x → x.blob.length ≤ 1048576) (hid : id < two64) (w : World) (hT : Tab w) (hr : WActs w w.heap.size A l) :
    Calls Tryd.prog 4 #[shV K P G, .int .u64 (id : Int), .slice A N cl] w fun e w' => e = .returned (.bool true) ∧ Below w.heap.size w w' := by
  obtain ⟨W1, hW1⟩ : ∃ W1, W1 = w.alloc (.cells #[.int .i64 K, .int .i64 P, .int .i64 G] 23) := ⟨_, rfl⟩
  have hC1 : Cells W1 w.heap.size 23 [.int .i64 K, .int .i64 P, .int .i64 G] := by rw [hW1]; exact Cells.new w _ _
  have hB1 : Below w.heap.size w W1 := by rw [hW1]; exact (Below.refl _ _).alloc (Nat.le_refl _) _
  have HF : Hid (∀ W, Below W1.heap.size W1 W → Below w.heap.size w W ∧ W.cell? ⟨w.heap.size, 0, none⟩ = some (.int .i64 K) ∧ W.cell? ⟨w.heap.size, 1, none⟩ = some (.int .i64 P) ∧ W.cell? ⟨w.heap.size, 2, none⟩ = some (.int .i64 G)) := fun W hb => by
    have hc := hC1.move (hb.block _ hC1.lt)
    exact ⟨hB1.trans (hb.mono hB1.size), hc.cell rfl, hc.cell rfl, hc.cell rfl⟩
  have HG : Hid (∀ W W', Below W1.heap.size W1 W → Gr W W' → Below W1.heap.size W1 W') := fun W W' hb hg => hb.trans (hg.below.mono hb.size)
  have HB : Hid (∀ W W', Below W1.heap.size W1 W → Below W.heap.size W W' → Below W1.heap.size W1 W') := fun W W' hb hg => hb.trans (hg.mono hb.size)
  have HT : Hid (∀ W, Below W1.heap.size W1 W → Tab W ∧ WActs W w.heap.size A l ∧ 0 < W.heap.size ∧ w.heap.size ≤ W.heap.size) := fun W hb => by
    have h := hB1.trans (hb.mono hB1.size)
    have hl : 0 < w.heap.size := World.block_lt_of_cell? _ _ (hT 0 (by decide))
    exact ⟨hT.below h hT.pos, hr.below h, Nat.lt_of_lt_of_le hl h.size, h.size⟩
  have Hkn := Lib.hid (known_any W1 (hT.below hB1 hT.pos))
  have Hsm := Lib.hid fun W => small_any K P G W
  have Hof := Lib.hid fun W => of_any K P G W
  have Hfew : Hid (∀ W, Below W1.heap.size W1 W → Calls Tryd.prog 27 #[.slice A N cl] W fun e w' => e = .returned (.bool (fewW l)) ∧ w' = W) := fun W hb => few9_any A cl N l hN W _ (HT.out W hb).2.1 hN2 hll
  have Hck : Hid (∀ W, Calls Tryd.prog 13 #[shV K P G] W fun e w' => e = .returned (.int .i64 (chkS K P G)) ∧ Gr W w') := fun W => (rcheck_any K P G W).mono fun e w' ⟨h, q⟩ => ⟨h, by rw [q]; exact Gr.alloc _ _⟩
  have Hnw := Lib.hid fun W => newW_any K P G id W
  have HN : Hid (N = l.length ∧ N ≤ 1048576 ∧ (∀ (k : Nat) (x : WAct), l[k]? = some x → x.blob.length ≤ 1048576) ∧ id < two64) := ⟨hN, hN2, hll, hid⟩
  have hNb : (N : Int) ≤ 1048576 := by omega
  unfold shV at *
  clear hC1 hB1 hT hr hN hN2 hll hid
  rcases hsm : smallS K P G with _ | _
  · rw [hsm] at Hsm
    clear hsm
    go_enter Tryd.func4, Tryd.ntmps4
    go_wp2_with fail
    rw [← hW1]
    clear hW1
    refine Hkn.out.mono ?_
    rintro e w2 ⟨rfl, hb2⟩
    have H2 := Lib.hid hb2
    obtain ⟨_, y0, y1, y2⟩ := HF.out w2 hb2
    clear hb2 Hkn
    go_wp2_with fail
    refine (Hsm.out w2).mono ?_
    rintro e w3 ⟨rfl, hg9⟩
    have H3 := Lib.hid (HG.out w2 w3 H2.out hg9)
    clear hg9
    go_wp2_with fail
    go_ret
    exact ⟨rfl, (HF.out w3 H3.out).1⟩
  rw [hsm] at Hsm
  clear hsm
  rcases hfw : fewW l with _ | _
  · rw [hfw] at Hfew
    clear hfw
    go_enter Tryd.func4, Tryd.ntmps4
    go_wp2_with fail
    rw [← hW1]
    clear hW1
    refine Hkn.out.mono ?_
    rintro e w2 ⟨rfl, hb2⟩
    have H2 := Lib.hid hb2
    obtain ⟨_, y0, y1, y2⟩ := HF.out w2 hb2
    clear hb2 Hkn
    go_wp2_with fail
    refine (Hsm.out w2).mono ?_
    rintro e w3 ⟨rfl, hg9⟩
    have H3 := Lib.hid (HG.out w2 w3 H2.out hg9)
    clear hg9
    go_wp2_with fail
    refine (Hfew.out w3 H3.out).mono ?_
    rintro e w3' ⟨rfl, rfl⟩
    go_wp2_with fail
    go_ret
    exact ⟨rfl, (HF.out w3' H3.out).1⟩
  rw [hfw] at Hfew
  clear hfw
  rcases hok : okS K P G with _ | _
  · rw [chkS_no hok] at Hck
    have Hnw' : Hid (∀ W, Calls Tryd.prog 28 #[.agg #[.int .i64 K, .int .i64 P, .int .i64 G], .int .u64 (id : Int)] W fun e w' => e = .returned (.tuple #[.pointer none, .int .i64 1]) ∧ Below W.heap.size W w') := fun W => (Hnw.out W).mono fun e w' h => by
      rcases h with ⟨_, q1, q2⟩ | ⟨q, _⟩
      · exact ⟨q1, q2⟩
      · rw [hok] at q; cases q
    clear hok Hnw
    go_enter Tryd.func4, Tryd.ntmps4
    go_wp2_with fail
    rw [← hW1]
    clear hW1
    refine Hkn.out.mono ?_
    rintro e w2 ⟨rfl, hb2⟩
    have H2 := Lib.hid hb2
    obtain ⟨_, y0, y1, y2⟩ := HF.out w2 hb2
    clear hb2 Hkn
    go_wp2_with fail
    refine (Hsm.out w2).mono ?_
    rintro e w3 ⟨rfl, hg9⟩
    have H3 := Lib.hid (HG.out w2 w3 H2.out hg9)
    clear hg9 y0 y1 y2
    obtain ⟨_, y0, y1, y2⟩ := HF.out w3 H3.out
    go_wp2_with fail
    refine (Hfew.out w3 H3.out).mono ?_
    rintro e w3' ⟨rfl, rfl⟩
    go_wp2_with fail
    refine (Hnw'.out w3').mono ?_
    rintro e w4 ⟨rfl, hb4⟩
    have H4 := Lib.hid (HB.out w3' w4 H3.out hb4)
    clear hb4 y0 y1 y2
    obtain ⟨_, y0, y1, y2⟩ := HF.out w4 H4.out
    go_wp2_with fail
    refine (Hof.out w4).mono ?_
    rintro e w5 ⟨rfl, hg9⟩
    have H5 := Lib.hid (HG.out w4 w5 H4.out hg9)
    clear hg9
    go_wp2_with fail
    refine (Hck.out w5).mono ?_
    rintro e w6 ⟨rfl, hg9⟩
    have H6 := Lib.hid (HG.out w5 w6 H5.out hg9)
    clear hg9
    go_wp2_with fail
    go_ret
    exact ⟨rfl, (HF.out w6 H6.out).1⟩
  rw [chkS_ok hok] at Hck
  obtain ⟨h1, h2, h3, h4, h5, h6, h7, h8⟩ := okS_facts hok
  obtain ⟨k, rfl⟩ : ∃ k : Nat, K = (k : Int) := ⟨K.toNat, by omega⟩
  obtain ⟨c, hcG⟩ : ∃ c : Nat, roomOf G = (c : Int) := ⟨(roomOf G).toNat, by omega⟩
  have Hok : Hid (okS k P G = true ∧ roomOf G = (c : Int)) := ⟨hok, hcG⟩
  have Hnw' : Hid (∀ W, Calls Tryd.prog 28 #[.agg #[.int .i64 (k : Int), .int .i64 P, .int .i64 G], .int .u64 (id : Int)] W fun e w' => ∃ wb, e = .returned (.tuple #[.pointer (some ⟨wb, 0, none⟩), .int .i64 0]) ∧ W.heap.size ≤ wb ∧ Cells w' wb 98 [.int .i64 (k : Int), .int .i64 P, .int .i64 G, .int .u64 (id : Int), .int .i64 0, .slice none 0 0] ∧ Below W.heap.size W w') := fun W => (Hnw.out W).mono fun e w' h => by
    rcases h with ⟨q, _⟩ | ⟨_, q⟩
    · rw [hok] at q; cases q
    · exact q
  clear hok hcG h1 h2 h3 h4 h5 h6 h7 h8 Hnw
  go_enter Tryd.func4, Tryd.ntmps4
  go_wp2_with fail
  rw [← hW1]
  clear hW1
  refine Hkn.out.mono ?_
  rintro e w2 ⟨rfl, hb2⟩
  have H2 := Lib.hid hb2
  obtain ⟨_, y0, y1, y2⟩ := HF.out w2 hb2
  clear hb2 Hkn
  go_wp2_with fail
  refine (Hsm.out w2).mono ?_
  rintro e w3 ⟨rfl, hg9⟩
  have H3 := Lib.hid (HG.out w2 w3 H2.out hg9)
  clear hg9 y0 y1 y2
  obtain ⟨_, y0, y1, y2⟩ := HF.out w3 H3.out
  go_wp2_with fail
  refine (Hfew.out w3 H3.out).mono ?_
  rintro e w3' ⟨rfl, hw3⟩
  subst hw3
  go_wp2_with fail
  refine (Hnw'.out w3').mono ?_
  rintro e w4 ⟨wb, rfl, hwb, hC4, hb4⟩
  have H4 := Lib.hid (HB.out w3' w4 H3.out hb4)
  have HN4 : Hid (w3'.heap.size ≤ wb ∧ Cells w4 wb 98 [.int .i64 (k : Int), .int .i64 P, .int .i64 G, .int .u64 (id : Int), .int .i64 0, .slice none 0 0] ∧ Below w3'.heap.size w3' w4) := ⟨hwb, hC4, hb4⟩
  clear hb4 hwb hC4 y0 y1 y2
  obtain ⟨_, y0, y1, y2⟩ := HF.out w4 H4.out
  go_wp2_with fail
  refine (Hof.out w4).mono ?_
  rintro e w5 ⟨rfl, hg5⟩
  have Hg5 := Lib.hid hg5
  have H5 := Lib.hid (HG.out w4 w5 H4.out hg5)
  clear hg5
  go_wp2_with fail
  refine (Hck.out w5).mono ?_
  rintro e w6 ⟨rfl, hg6⟩
  have Hg6 : Hid (Gr w4 w6) := Hg5.out.trans hg6
  have H6 := Lib.hid (HG.out w5 w6 H5.out hg6)
  clear hg6 y0 y1 y2
  obtain ⟨_, y0, y1, y2⟩ := HF.out w6 H6.out
  go_wp2_with fail
  refine (Hof.out w6).mono ?_
  rintro e w7 ⟨rfl, hg7⟩
  have Hg7 : Hid (Gr w4 w7) := Hg6.out.trans hg7
  clear hg7 y0 y1 y2
  go_wp2_with fail
  have H0 : Hid (LInv w3' (w7.alloc (.cells #[.int .i64 (k : Int), .int .i64 P, .int .i64 G, .int .u64 (id : Int), .slice none 0 0, .int .i64 0] 58)) wb w7.heap.size k c P G id) :=
    LInv.start Hok.out.1 Hok.out.2 HN.out.2.2.2 HN4.out.2.1 HN4.out.1 HN4.out.2.2 (HT.out w3' H3.out).2.2.1 (Hg7.out.trans (Gr.alloc _ _)).below (Cells.new w7 _ _) Hg7.out.below.size
  obtain ⟨rb, hrb⟩ : ∃ rb, rb = w7.heap.size := ⟨_, rfl⟩
  rw [← hrb] at H0 ⊢
  generalize w7.alloc (.cells #[.int .i64 (k : Int), .int .i64 P, .int .i64 G, .int .u64 (id : Int), .slice none 0 0, .int .i64 0] 58) = w8 at *
  clear hrb Hg7 Hg6 Hg5 HN4 Hnw' Hck Hof Hsm Hfew H4 H5 H6 H2
  go_loopw [10] (fun iv wr => ∃ i : Nat, iv = .int .i64 (i : Int) ∧ i ≤ N ∧ Hid (LInv w3' wr wb rb k c P G id)) (fun iv _ => N - (intOf iv).toNat)
  case atStart => exact ⟨0, rfl, Nat.zero_le _, H0⟩
  case round =>
    clear H0
    obtain ⟨i, rfl, hi, hinv⟩ := hrel
    have Hw0 : Hid (∀ W, Below w3'.heap.size w3' W → Below W1.heap.size W1 W) := fun W hb => HB.out _ _ H3.out hb
    have hbel : Below w3'.heap.size w3' wr := by
      obtain ⟨O, t, v, rest, bv, S, q⟩ := hinv.out
      exact q.bel
    by_cases hlt : i < N
    · have hlt' : (i : Int) < (N : Int) := by omega
      have Hlt : Hid (i < N) := hlt
      obtain ⟨x, hx⟩ : ∃ x, l[i]? = some x := ⟨_, List.getElem?_eq_getElem (by rw [← HN.out.1]; exact hlt)⟩
      obtain ⟨b, o, eA, _, ⟨A', c', hcell, hrb, hlc⟩, hpad⟩ := (HT.out wr (Hw0.out wr hbel)).2.1 i x hx
      subst eA
      have hws := (HT.out w3' H3.out).2.2.2
      have hrbW : ∀ W, Below w3'.heap.size w3' W → RB W w.heap.size A' x.blob := fun W hW => by
        obtain ⟨b2, o2, e2, hb2, ⟨A2, c2, hc2, hr2, _⟩, _⟩ := (HT.out W (Hw0.out W hW)).2.1 i x hx
        cases e2
        have q1 := (HF.out wr (Hw0.out wr hbel)).1
        have q2 := (HF.out W (Hw0.out W hW)).1
        obtain ⟨b3, o3, e3, hb3, ⟨A3, c3, hc3, _, _⟩, _⟩ := (HT.out w3' H3.out).2.1 i x hx
        cases e3
        have q0 := (HF.out w3' H3.out).1
        have hcc : wr.cell? ⟨b, o + i * 2, none⟩ = W.cell? ⟨b, o + i * 2, none⟩ := (hbel.cell (p := ⟨b, o + i * 2, none⟩) (Nat.lt_of_lt_of_le hb3 hws)).trans ((hW.cell (p := ⟨b, o + i * 2, none⟩) (Nat.lt_of_lt_of_le hb3 hws)).symm)
        rw [hcc, hc2] at hcell
        cases hcell
        exact hr2
      have HP := Lib.hid (pad_both hinv.out (HT.out wr (Hw0.out wr hbel)).1)
      have HA := Lib.hid (add_both hinv.out (HT.out wr (Hw0.out wr hbel)).1 A' c' x.blob.length x.blob rfl w.heap.size hrb hws hrbW hlc)
      generalize x.blob.length = m at *
      have Hb8 : Hid (∀ W, Below w3'.heap.size w3' W → W.cell? ⟨b, o + i * 2, none⟩ = some (.slice A' m c')) := fun W hW => by
        obtain ⟨b3, o3, e3, hb3, _, _⟩ := (HT.out w3' H3.out).2.1 i x hx
        cases e3
        exact (hW.cell (p := ⟨b, o + i * 2, none⟩) (Nat.lt_of_lt_of_le hb3 hws)).trans (((hbel.cell (p := ⟨b, o + i * 2, none⟩) (Nat.lt_of_lt_of_le hb3 hws)).symm).trans hcell)
      generalize x.pad = pd at *
      clear hx hrb hlc hrbW hlt hbel hinv
      go_upto_if 62 with fail
      go_cut [] (fun wx => Hid (LInv w3' wx wb rb k c P G id))
      case first => as_aux_lemma =>
        rcases pd with _ | _
        · clear HP
          go_wp2_with fail
          refine HA.out.mono ?_
          rintro e w9 ⟨a, E, A1, n, cc, rfl, hb9, HR⟩
          have k2 := Hb8.out w9 hb9
          have d1 : (a != a) = false := by simp
          have d2 : (E != E) = false := by simp
          clear hb9 hcell
          go_wp2_with fail
          refine HR.out.mono ?_
          rintro e w10 ⟨A2, cc2, rfl, HL⟩
          have HL1 := Lib.hid HL.out.1
          have HL2 := Lib.hid HL.out.2
          clear HL HR HA k2
          go_wp2_with fail
          refine HL2.out.mono ?_
          rintro e w11 ⟨rfl, hg11⟩
          have H11 := Lib.hid (HL1.out.below hg11.below)
          clear hg11 HL1 HL2
          go_wp2_with fail
          go_meet
          exact H11
        · clear HA
          go_wp2_with fail
          refine HP.out.mono ?_
          rintro e w9 ⟨A1, n, cc, rfl, HR⟩
          go_wp2_with fail
          refine HR.out.mono ?_
          rintro e w10 ⟨A2, cc2, rfl, HL⟩
          have HL1 := Lib.hid HL.out.1
          have HL2 := Lib.hid HL.out.2
          clear HL HR HP
          go_wp2_with fail
          refine HL2.out.mono ?_
          rintro e w11 ⟨rfl, hg11⟩
          have H11 := Lib.hid (HL1.out.below hg11.below)
          clear hg11 HL1 HL2
          go_wp2_with fail
          go_meet
          exact H11
      case rest =>
      generalize wc = w9 at *
      clear HP HA hcell hpad Hb8
      obtain ⟨O, t, v, rest, bv, S, hst⟩ := hcut.out
      obtain ⟨f1, f2, f3, f4, f5, f6, f7, f8, frv, f10, f11, f12⟩ := hst.rf.facts
      have hsz : Hid (∀ X, Gr w9 X → Calls Tryd.prog 34 #[.pointer (some ⟨wb, 0, none⟩)] X fun e w' => e = .returned (.int .i64 (S.length : Int)) ∧ Gr X w') := fun X hX => by
        have := size_any (hst.wr.below hX.below)
        rw [hst.hsum] at this
        exact this
      have hlf : Hid (∀ X, Gr w9 X → Calls Tryd.prog 35 #[.pointer (some ⟨wb, 0, none⟩)] X fun e w' => e = .returned (.int .i64 (roomS k P G - (S.length : Int))) ∧ Gr X w') := fun X hX => by
        have := left_any (hst.wr.below hX.below) (by omega)
        rw [hst.hsum] at this
        exact this
      have hrl : Hid (∀ X, Gr w9 X → Calls Tryd.prog 36 #[.pointer (some ⟨rb, 0, none⟩)] X fun e w' => e = .returned (.int .i64 (roomS k P G - (S.length : Int))) ∧ Gr X w') := fun X hX => rleft_any (hst.rf.below hX.below)
      obtain ⟨Ab, cb, ebv, _, _, _⟩ := hst.rf.own.rb
      have c4 : ∀ n os, (grow (w9.drewN n) os).cell? ⟨rb, 4, none⟩ = some (.slice Ab S.length cb) := fun n os => cell_grown (a := ⟨rb, 4, none⟩) hst.rf.wr.lt (by rw [← ebv]; exact hst.rf.wr.cell rfl) n os
      have HG9 : Hid (∀ n os, Gr w9 (grow (w9.drewN n) os)) := fun n os => ⟨n, os, rfl⟩
      have Hinv := Lib.hid hcut.out
      generalize roomS k P G - (S.length : Int) = LL at *
      generalize S.length = sl at *
      have d1 : ((sl : Int) != (sl : Int)) = false := by simp
      have d2 : (LL != LL) = false := by simp
      clear hst f1 f2 f3 f4 f5 f6 f7 f8 frv f10 f11 f12 ebv hcut
      go_wp2_with fail
      refine wp_region_quiet_grown (by kernel_rfl) (by kernel_rfl) ?_
      try simp only [List.append]
      repeat (go_big_quiet_step (first
        | (go_at_call 34; refine Calls.grown_of (hsz.out _ ⟨_, _, rfl⟩))
        | (go_at_call 35; refine Calls.grown_of (hlf.out _ ⟨_, _, rfl⟩))
        | (go_at_call 36; refine Calls.grown_of (hrl.out _ ⟨_, _, rfl⟩))))
      refine wpQuiet_nil ?_
      intro _ hw'
      obtain ⟨⟨nq, osq⟩, hw''⟩ := hw'
      subst hw''
      have H10 := Lib.hid (Hinv.out.below (HG9.out nq osq).below)
      generalize grow (w9.drewN nq) osq = w10 at *
      clear hsz hlf hrl c4 HG9 Hinv
      go_wp2_with fail
      go_roundw
      case rel => exact ⟨i + 1, by go_num, by have := Hlt.out; omega, H10⟩
      case measure => have := Hlt.out; simp [intOf]; omega
    · obtain rfl : i = N := by omega
      have hlt' : ¬ (i : Int) < (i : Int) := by omega
      have Hf : Hid (Below w.heap.size w wr) := (HF.out wr (Hw0.out wr hbel)).1
      clear hlt hinv hbel
      go_wp2_with fail
      go_ret
      exact ⟨rfl, Hf.out⟩
end
end Go.Proofs.YtlficcdbnmheeaaDoor
