/-
  SegHolds' memory between an Add and the next one.
-/
import Derived.Test.YtlficcdbnmheeaaDoorKSg9
import Derived.Test.YtlficcdbnmheeaaDoorKSg11
import Derived.Test.YtlficcdbnmheeaaDoorKSg23
import Derived.Test.YtlficcdbnmheeaaDoorSg18
namespace Go.Proofs.YtlficcdbnmheeaaDoor
open Go.RowKit Go.Sort Go.Lib

theorem info_intS : (Tryd.prog.info? 3).map (fun i => (i.zero, i.size, i.bytes)) = some (some (.int .i64 0), 1, 8) := by kernel_rfl
theorem info_rows : (Tryd.prog.info? 34).map (fun i => (i.zero, i.size, i.bytes)) = some (some (.slice none 0 0), 1, 24) := by kernel_rfl
/-- rows are told by an Add (or a Pad), and not taken yet -/
def Mid (w4 w : World) (wb k c : Nat) (P G : Int) (id t n g : Nat) (sv av tv : Value) (S0 S : List UInt8) (ats : List Int) (hs : List Value) (rest l : List UInt8) : Prop :=
  ∃ (O : Nat → Nat) (v' : Value), HSt w4 w O wb k c P G id (t + n) v' ((rest ++ l).drop (n * (k * c))) sv av tv S ats hs (rowsM k c G id 0 (cutN S0 (k * c) t)) ∧ RTM w O (some ⟨g, 0, none⟩) (rowsM k c G id t (cutN (rest ++ l) (k * c) n))
section
variable {w4 w w' : World} {O : Nat → Nat} {wb k c : Nat} {P G : Int} {id t n g : Nat} {v v' sv av tv : Value} {S0 S : List UInt8} {ats : List Int} {hs : List Value} {rest l : List UInt8}
theorem Mid.start (h : HSt w4 w O wb k c P G id t v rest sv av tv S ats hs (rowsM k c G id 0 (cutN S (k * c) t))) (hT : Told w w' wb w4.heap.size k c P G id t v rest l n g v') : Mid w4 w' wb k c P G id t n g sv av tv S S ats hs rest l := by
  obtain ⟨O', q1, q2⟩ := h.add hT
  exact ⟨O', v', q1, q2⟩
theorem Mid.below (h : Mid w4 w wb k c P G id t n g sv av tv S0 S ats hs rest l) (hb : Below w.heap.size w w') : Mid w4 w' wb k c P G id t n g sv av tv S0 S ats hs rest l := by
  obtain ⟨O, v, q1, q2⟩ := h
  exact ⟨O, v, q1.below hb, q2.stp (Stp.below O 9 hb) (by omega)⟩
theorem Mid.pushA {av' : Value} {a : Int} (h : Mid w4 w wb k c P G id t n g sv av tv S0 S ats hs rest l) (ho : OwnV w' w4.heap.size 3 av' (ats.map (Value.int .i64) ++ [.int .i64 a])) (hg : w.grownBy w' av.ownBlock) (hv : av'.ownBlock = av.ownBlock ∨ av'.ownBlock = some w.heap.size) :
    (∃ A c, av' = .slice A (ats.length + 1) c) ∧ Mid w4 w' wb k c P G id t n g sv av' tv S0 S (ats ++ [a]) hs rest l := by
  obtain ⟨O, v, q1, q2⟩ := h
  obtain ⟨O', s, q3⟩ := q1.pushA ho hg hv
  obtain ⟨A, c, e, _⟩ := q3.at_.rd
  rw [List.length_map, List.length_append] at e
  exact ⟨⟨A, c, e⟩, O', v, q3, q2.stp s (by omega)⟩
theorem Mid.pushS {sv' : Value} (h : Mid w4 w wb k c P G id t n g sv av tv S0 S ats hs rest l) (b : List UInt8) (ho : Own w' w4.heap.size sv' (S ++ b)) (hg : w.grownBy w' sv.ownBlock) (hv : sv'.ownBlock = sv.ownBlock ∨ sv'.ownBlock = some w.heap.size) :
    (∃ A c, sv' = .slice A (S.length + b.length) c) ∧ Mid w4 w' wb k c P G id t n g sv' av tv S0 (S ++ b) ats hs rest l := by
  obtain ⟨O, v, q1, q2⟩ := h
  obtain ⟨O', s, q3⟩ := q1.pushS ho hg hv
  obtain ⟨A, c, e, _⟩ := q3.st.rb
  rw [List.length_append] at e
  exact ⟨⟨A, c, e⟩, O', v, q3, q2.stp s (by omega)⟩
theorem Mid.facts (h : Mid w4 w wb k c P G id t n g sv av tv S0 S ats hs rest l) : OwnV w w4.heap.size 3 av (ats.map (Value.int .i64)) ∧ Own w w4.heap.size sv S ∧ OwnV w w4.heap.size 34 tv hs ∧ hs.length = t ∧ Below w4.heap.size w4 w := by
  obtain ⟨O, v, q1, q2⟩ := h
  refine ⟨q1.at_, q1.st, q1.tl, ?_, q1.bel⟩
  have := q1.rows.1
  rw [rowsM_len, cutN_len] at this
  exact this
/-- the rows are taken -/
theorem Mid.pushT (h : Mid w4 w wb k c P G id t n g sv av tv S0 S ats hs rest l) : ∃ us : List Value, us.length = n ∧ (∀ (j : Nat) (u : Value), us[j]? = some u → w.cell? ⟨g, j, none⟩ = some u) ∧ (∀ u ∈ us, u.oneCell' = true) ∧
    ∀ tv' w', OwnV w' w4.heap.size 34 tv' (hs ++ us) → w.grownBy w' tv.ownBlock → (tv'.ownBlock = tv.ownBlock ∨ tv'.ownBlock = some w.heap.size) →
      (∃ A c, tv' = .slice A (t + n) c) ∧ ∃ (O : Nat → Nat) (v' : Value), HSt w4 w' O wb k c P G id (t + n) v' ((rest ++ l).drop (n * (k * c))) sv av tv' S ats (hs ++ us) (rowsM k c G id 0 (cutN S0 (k * c) t) ++ rowsM k c G id t (cutN (rest ++ l) (k * c) n)) := by
  obtain ⟨O, v, q1, q2⟩ := h
  obtain ⟨us, u1, u2, u3, u4⟩ := q2.headers
  rw [rowsM_len, cutN_len] at u1
  refine ⟨us, u1, u2, u3, fun tv' w' ho hg hv => ?_⟩
  obtain ⟨O', s, q3⟩ := q1.pushT u4 ho hg hv
  obtain ⟨A, cc, e, _⟩ := q3.tl.rd
  have hl := q1.rows.1
  rw [rowsM_len, cutN_len] at hl
  rw [List.length_append, hl, u1] at e
  exact ⟨⟨A, cc, e⟩, O', v, q3⟩
end
/-- append(v, nothing...) -/
theorem app_nilV {w : World} {ops : Array Oper} {rest : List Oper} {o : Oper} {a : Act} {Q : Exit → Act → World → Prop} (hgd : o.guard = none) (s x : Operand) (t e : TypeId)
    (ho : o.op = .call { callee := .builtin .append, args := #[s, x], argTypes := #[t, t] })
    (hu : Tryd.prog.underlying t = some (.slice e)) (z : Value) (bytes : Nat) (hi : (Tryd.prog.info? e).map (fun i => (i.zero, i.size, i.bytes)) = some (some z, 1, bytes))
    (base : Nat) (v : Value) (xs : List Value) (hs : a.eval s = v) (hown : OwnV w base e v xs) (hx : a.eval x = .slice none 0 0)
    (h : wpList Tryd.prog ops Q rest (a.put o.dst v) w) :
    wpList Tryd.prog ops Q (o :: rest) a w := by
  obtain ⟨i0, hi0, hz0, hz1, hz2⟩ := info_parts hi
  refine wpList_plain hgd fun K hK => ?_
  have hrun : (Builtin.append_ #[t, t] o.type #[v, .slice none 0 0]).run Tryd.prog w = .ok v w := by
    rcases hown.2 with ⟨rfl, _⟩ | ⟨g, cap, cur, rfl, _, _, hnc, _⟩
    · simp [Builtin.append_, run_underlying hu, sizeOf, typeInfo, hi0, hz1, Builtin.lenOf, Builtin.firstCells, loadCells, loadCellsFrom]
    · simp [Builtin.append_, run_underlying hu, sizeOf, typeInfo, hi0, hz1, Builtin.lenOf, Builtin.firstCells, hnc, storeCells, loadCells, loadCellsFrom]
  unfold Oper.wp execOp
  simp only [ho, resolve, invoke, builtin, Sem.run_bind, Sem.run_pure, Result.andThen_ok, List.map_toArray, List.map_cons, List.map_nil, hs, hx, hrun]
  exact hK _ _ h
/-- the stream is padded up to j, all rows are told -/
def HPad (w4 wr : World) (wb k c : Nat) (P G : Int) (id N sl t2 j : Nat) (sv av tv : Value) (bl : Mtx) : Prop :=
  ∃ (O : Nat → Nat) (v : Value) (rest S : List UInt8) (ats : List Int) (hs : List Value), HSt w4 wr O wb k c P G id t2 v rest sv av tv (padN j S) ats hs (rowsM k c G id 0 (cutN (padN (t2 * (k * c)) S) (k * c) t2)) ∧ S.length = sl ∧ ats.length = N ∧ HoldsA S ats bl
theorem HPad.below {w4 w w' : World} {wb k c : Nat} {P G : Int} {id N sl t2 j : Nat} {sv av tv : Value} {bl : Mtx} (h : HPad w4 w wb k c P G id N sl t2 j sv av tv bl) (hb : Below w.heap.size w w') : HPad w4 w' wb k c P G id N sl t2 j sv av tv bl := by
  obtain ⟨O, v, rest, S, ats, hs, q1, q2⟩ := h
  exact ⟨O, v, rest, S, ats, hs, q1.below hb, q2⟩
theorem HPad.bel {w4 w : World} {wb k c : Nat} {P G : Int} {id N sl t2 j : Nat} {sv av tv : Value} {bl : Mtx} (h : HPad w4 w wb k c P G id N sl t2 j sv av tv bl) : Below w4.heap.size w4 w := by
  obtain ⟨O, v, rest, S, ats, hs, q1, q2⟩ := h
  exact q1.bel
/-- a byte 0 more -/
theorem HPad.zero {w4 w : World} {wb k c : Nat} {P G : Int} {id N sl t2 j : Nat} {sv av tv : Value} {bl : Mtx} (h : HPad w4 w wb k c P G id N sl t2 j sv av tv bl) (hj : sl ≤ j) : ∃ S2 : List UInt8, S2.length = j ∧ Own w w4.heap.size sv S2 ∧
    ∀ sv' w', Own w' w4.heap.size sv' (S2 ++ [0]) → w.grownBy w' sv.ownBlock → (sv'.ownBlock = sv.ownBlock ∨ sv'.ownBlock = some w.heap.size) → (∃ A c, sv' = .slice A (j + 1) c) ∧ HPad w4 w' wb k c P G id N sl t2 (j + 1) sv' av tv bl := by
  obtain ⟨O, v, rest, S, ats, hs, q1, q2, q3⟩ := h
  have hl : (padN j S).length = j := padN_len (by omega)
  refine ⟨padN j S, hl, q1.st, fun sv' w' ho hg hv => ?_⟩
  obtain ⟨O', s, h7⟩ := q1.pushS ho hg hv
  rw [padN_succ (by omega)] at h7
  obtain ⟨A, c, e, _⟩ := h7.st.rb
  rw [padN_len (by omega)] at e
  exact ⟨⟨A, c, e⟩, O', v, rest, S, ats, hs, h7, q2, q3⟩
/-- what the main loop holds -/
def HInv (w5 wr : World) (wb k c : Nat) (P G : Int) (id i sl t : Nat) (sv av tv : Value) (bl : Mtx) : Prop :=
  ∃ (O : Nat → Nat) (v : Value) (rest S : List UInt8) (ats : List Int) (hs : List Value), HSt w5 wr O wb k c P G id t v rest sv av tv S ats hs (rowsM k c G id 0 (cutN S (k * c) t)) ∧ rest = S.drop (t * (k * c)) ∧ t * (k * c) + rest.length = S.length ∧ (S.length : Int) ≤ roomS k P G ∧ S.length = sl ∧ ats.length = i ∧ HoldsA S ats bl
theorem HInv.start {w5 w6 : World} {wb k c : Nat} {P G : Int} {id : Nat} (hok : okS k P G = true) (hcG : roomOf G = (c : Int)) (hid : id < two64) (hC : Cells w6 wb 98 [.int .i64 (k : Int), .int .i64 P, .int .i64 G, .int .u64 (id : Int), .int .i64 0, .slice none 0 0]) (hwb : w5.heap.size ≤ wb) (hb : Below w5.heap.size w5 w6) (hgl : 0 < w5.heap.size) (bl : Mtx) :
    HInv w5 w6 wb k c P G id 0 0 0 (.slice none 0 0) (.slice none 0 0) (.slice none 0 0) bl := by
  obtain ⟨h1, h2, h3, h4, h5, h6, _⟩ := okS_facts hok
  have hb2 := rowS_bounds hok
  rw [rowS_ok hok, hcG] at hb2
  have hkc : 0 < k * c := Nat.mul_pos (by omega) (by omega)
  refine ⟨fun x => if x < w5.heap.size then 0 else 1, .slice none 0 0, [], [], [], [], ⟨⟨hC, Own.nil _ _, hok, hcG, hid, by show ((0 : Nat) : Int) < P; omega, hkc, hgl⟩, if_neg (by omega), (fun x hx => by cases hx), Own.nil _ _, (fun x hx => by cases hx), OwnV.nil _ _ _, (fun x hx => by cases hx), OwnV.nil _ _ _, (fun x hx => by cases hx), ⟨by rw [rowsM_len, cutN_len]; rfl, fun j h M hh => by simp at hh⟩, hb, fun x hx => if_pos hx⟩, by simp, by simp, ?_, rfl, rfl, fun j a l ha => by simp at ha⟩
  have h9 := rowS_ok hok
  rw [hcG] at h9
  unfold roomS
  rw [h9]
  obtain ⟨p, hp⟩ : ∃ p : Nat, P - 1 = (p : Int) := ⟨(P - 1).toNat, by omega⟩
  rw [hp]
  have h11 : ((k : Int) * (c : Int)) * (p : Int) = (((k * c) * p : Nat) : Int) := by simp
  rw [h11]
  exact Int.ofNat_le.2 (Nat.zero_le _)
theorem HInv.next {w4 w9 : World} {O : Nat → Nat} {wb k c : Nat} {P G : Int} {id t n i sl : Nat} {v' sv av tv : Value} {S : List UInt8} {ats : List Int} {hs : List Value} {rest l : List UInt8} {bl : Mtx}
    (h : HSt w4 w9 O wb k c P G id (t + n) v' ((rest ++ l).drop (n * (k * c))) sv av tv (S ++ l) (ats ++ [(sl : Int)]) hs (rowsM k c G id 0 (cutN S (k * c) t) ++ rowsM k c G id t (cutN (rest ++ l) (k * c) n)))
    (hrest : rest = S.drop (t * (k * c))) (hsum : t * (k * c) + rest.length = S.length) (hroom : ((S.length + l.length : Nat) : Int) ≤ roomS k P G) (hsl : S.length = sl) (hal : ats.length = i) (hh : HoldsA S ats bl) (hl : bl[i]? = some l) (hn : n = (rest ++ l).length / (k * c)) (hl1 : 1 ≤ l.length) :
    HInv w4 w9 wb k c P G id (i + 1) (sl + l.length) (t + n) sv av tv bl := by
  have hle : n * (k * c) ≤ (rest ++ l).length := by rw [hn]; exact Nat.div_mul_le_self _ _
  have hrr : (rest ++ l).drop (n * (k * c)) = (S ++ l).drop ((t + n) * (k * c)) := by
    rw [hrest, ← List.drop_append_of_le_length (by omega), List.drop_drop, Nat.add_mul]
  refine ⟨O, v', _, S ++ l, ats ++ [(sl : Int)], hs, ?_, hrr, ?_, by rw [List.length_append]; exact hroom, by rw [List.length_append, hsl], by rw [List.length_append, hal]; rfl, ?_⟩
  · rw [← rows_join (by omega), ← hrest]
    exact h
  · rw [List.length_drop, List.length_append]
    rw [List.length_append] at hle
    rw [List.length_append, Nat.add_mul]
    omega
  · rw [← hsl]
    exact hh.yes (by rw [hal]; exact hl) hl1
end Go.Proofs.YtlficcdbnmheeaaDoor

/-
  SegHolds: the law's walk.
-/
namespace Go.Proofs.YtlficcdbnmheeaaDoor
open Go.RowKit Go.Sort Go.Lib

section
set_option maxRecDepth 20000
set_option maxHeartbeats 8000000
theorem holds_any (K P G : Int) (id : Nat) (A : Option Addr) (cl N : Nat) (bl : Mtx) (hN : N = bl.length) (hN2 : N ≤ 1048576) (hll : ∀ (k : Nat) (l : List UInt8), bl[k]? = some l → l.length ≤ 1048576) (hid : id < two64) (w : World) (hT : Tab w) (hr : RM w w.heap.size A bl) :
    Calls Tryd.prog 5 #[shV K P G, .int .u64 (id : Int), .slice A N cl] w fun e w' => e = .returned (.bool true) ∧ Below w.heap.size w w' := by
  obtain ⟨W1, hW1⟩ : ∃ W1, W1 = w.alloc (.cells #[.int .i64 K, .int .i64 P, .int .i64 G] 23) := ⟨_, rfl⟩
  have hC1 : Cells W1 w.heap.size 23 [.int .i64 K, .int .i64 P, .int .i64 G] := by rw [hW1]; exact Cells.new w _ _
  have hB1 : Below w.heap.size w W1 := by rw [hW1]; exact (Below.refl _ _).alloc (Nat.le_refl _) _
  have HF : Hid (∀ W, Below W1.heap.size W1 W → Below w.heap.size w W ∧ W.cell? ⟨w.heap.size, 0, none⟩ = some (.int .i64 K) ∧ W.cell? ⟨w.heap.size, 1, none⟩ = some (.int .i64 P) ∧ W.cell? ⟨w.heap.size, 2, none⟩ = some (.int .i64 G)) := fun W hb => by
    have hc := hC1.move (hb.block _ hC1.lt)
    exact ⟨hB1.trans (hb.mono hB1.size), hc.cell rfl, hc.cell rfl, hc.cell rfl⟩
  have HG : Hid (∀ W W', Below W1.heap.size W1 W → Gr W W' → Below W1.heap.size W1 W') := fun W W' hb hg => hb.trans (hg.below.mono hb.size)
  have HB : Hid (∀ W W', Below W1.heap.size W1 W → Below W.heap.size W W' → Below W1.heap.size W1 W') := fun W W' hb hg => hb.trans (hg.mono hb.size)
  have HT : Hid (∀ W, Below W1.heap.size W1 W → Tab W ∧ RM W w.heap.size A bl ∧ 0 < W.heap.size ∧ w.heap.size ≤ W.heap.size) := fun W hb => by
    have h := hB1.trans (hb.mono hB1.size)
    have hl : 0 < w.heap.size := World.block_lt_of_cell? _ _ (hT 0 (by decide))
    exact ⟨hT.below h hT.pos, hr.below h, Nat.lt_of_lt_of_le hl h.size, h.size⟩
  have Hkn := Lib.hid (known_any W1 (hT.below hB1 hT.pos))
  have Hsm := Lib.hid fun W => small_any K P G W
  have Hck : Hid (∀ W, Calls Tryd.prog 12 #[shV K P G] W fun e w' => e = .returned (.int .i64 (chkS K P G)) ∧ Gr W w') := fun W => (check_any K P G W).mono fun e w' ⟨h, q⟩ => ⟨h, by rw [q]; exact Gr.alloc _ _⟩
  have Hnw := Lib.hid fun W => newW_any K P G id W
  have HN : Hid (N = bl.length ∧ N ≤ 1048576 ∧ (∀ (k : Nat) (l : List UInt8), bl[k]? = some l → l.length ≤ 1048576) ∧ id < two64) := ⟨hN, hN2, hll, hid⟩
  have Hsl : Hid (∀ i, i < N → ∀ l, bl[i]? = some l → slen bl (i + 1) = slen bl i + l.length ∧ slen bl i ≤ 1099511627776) := fun i hi l hl => by
    refine ⟨by rw [slen, List.getD, hl]; rfl, Nat.le_trans (slen_le hll i) ?_⟩
    have : i * 1048576 ≤ 1048576 * 1048576 := Nat.mul_le_mul_right _ (by omega)
    omega
  have hNb : (N : Int) ≤ 1048576 := by omega
  unfold shV at *
  clear hC1 hB1 hT hr hN hN2 hll hid
  go_enter Tryd.func5, Tryd.ntmps5
  go_wp2_with fail
  rw [← hW1]
  clear hW1
  refine Hkn.out.mono ?_
  rintro e w2 ⟨rfl, hb2⟩
  have H2 := Lib.hid hb2
  clear hb2 Hkn
  go_wp2_with fail
  go_loopw [8, 7] (fun iv nv wr => ∃ i : Nat, iv = .int .i64 (i : Int) ∧ i ≤ N ∧ nv = .int .i64 (slen bl i : Int) ∧ Hid (wr = w2)) (fun iv _ _ => N - (intOf iv).toNat)
  case atStart => exact ⟨0, rfl, Nat.zero_le _, rfl, rfl⟩
  case round =>
    obtain ⟨i, rfl, hi, rfl, hrel⟩ := hrel
    by_cases hlt : i < N
    · have hlt' : (i : Int) < (N : Int) := by omega
      obtain ⟨l, hl⟩ : ∃ l, bl[i]? = some l := ⟨_, List.getElem?_eq_getElem (by rw [← HN.out.1]; exact hlt)⟩
      obtain ⟨b, o, A', c', rfl, _, hcell, _, _⟩ := (HT.out w2 H2.out).2.1 i l hl
      have k1 : wr.cell? ⟨b, o + i, none⟩ = some (.slice A' l.length c') := by rw [hrel.out]; exact hcell
      obtain ⟨e1, e2⟩ := Hsl.out i hlt l hl
      have hlb := HN.out.2.2.1 i l hl
      have Hs : Hid (IntKind.i64.wrap ((slen bl i : Int) + (l.length : Int)) = (slen bl (i + 1) : Int)) := by show _ = _; rw [e1, IntKind.wrap_i64]; omega
      generalize l.length = m at *
      generalize hs1 : slen bl i = s1 at *
      clear hl hcell e1 e2 hlb hs1 hlt
      go_wp2_with fail
      go_roundw
      case rel => exact ⟨i + 1, by go_num, by omega, by first | rw [Hs.out] | (have := Hs.out; simp only [IntWalk.i64_left] at this; simp [this]), hrel⟩
      case measure => simp [intOf]; omega
    · obtain rfl : N = i := by omega
      have hw2 := hrel.out
      subst hw2
      obtain ⟨_, y0, y1, y2⟩ := HF.out wr H2.out
      generalize wr = w2 at *
      clear hlt hrel
      rcases hsm : smallS K P G with _ | _
      · rw [hsm] at Hsm
        clear hsm
        go_wp2_with fail
        refine (Hsm.out w2).mono ?_
        rintro e w3 ⟨rfl, hg9⟩
        have H3 := Lib.hid (HG.out w2 w3 H2.out hg9)
        clear hg9
        go_wp2_with fail
        go_ret
        exact ⟨rfl, (HF.out w3 H3.out).1⟩
      rw [hsm] at Hsm
      clear hsm
      rcases hok : okS K P G with _ | _
      · rw [chkS_no hok] at Hck
        clear hok
        go_wp2_with fail
        refine (Hsm.out w2).mono ?_
        rintro e w3 ⟨rfl, hg9⟩
        have H3 := Lib.hid (HG.out w2 w3 H2.out hg9)
        clear hg9 y0 y1 y2
        obtain ⟨_, y0, y1, y2⟩ := HF.out w3 H3.out
        go_wp2_with fail
        refine (Hck.out w3).mono ?_
        rintro e w4 ⟨rfl, hg9⟩
        have H4 := Lib.hid (HG.out w3 w4 H3.out hg9)
        clear hg9
        go_wp2_with fail
        go_ret
        exact ⟨rfl, (HF.out w4 H4.out).1⟩
      rw [chkS_ok hok] at Hck
      have Hsb : Hid (slen bl N ≤ 1099511627776) := by
        show _ ≤ _
        have h9 := slen_le HN.out.2.2.1 N
        have : N * 1048576 ≤ 1048576 * 1048576 := Nat.mul_le_mul_right _ HN.out.2.1
        omega
      generalize slen bl N = tot at *
      by_cases hbig : 100 < N ∨ 20000 < tot
      · clear hok
        by_cases h1 : 100 < N
        · have h1' : (100 : Int) < (N : Int) := by omega
          clear hbig
          go_wp2_with fail
          refine (Hsm.out w2).mono ?_
          rintro e w3 ⟨rfl, hg9⟩
          have H3 := Lib.hid (HG.out w2 w3 H2.out hg9)
          clear hg9 y0 y1 y2
          obtain ⟨_, y0, y1, y2⟩ := HF.out w3 H3.out
          go_wp2_with fail
          refine (Hck.out w3).mono ?_
          rintro e w4 ⟨rfl, hg9⟩
          have H4 := Lib.hid (HG.out w3 w4 H3.out hg9)
          clear hg9
          go_wp2_with fail
          go_ret
          exact ⟨rfl, (HF.out w4 H4.out).1⟩
        · have h1' : ¬ (100 : Int) < (N : Int) := by omega
          have h2' : (20000 : Int) < (tot : Int) := by omega
          clear hbig
          go_wp2_with fail
          refine (Hsm.out w2).mono ?_
          rintro e w3 ⟨rfl, hg9⟩
          have H3 := Lib.hid (HG.out w2 w3 H2.out hg9)
          clear hg9 y0 y1 y2
          obtain ⟨_, y0, y1, y2⟩ := HF.out w3 H3.out
          go_wp2_with fail
          refine (Hck.out w3).mono ?_
          rintro e w4 ⟨rfl, hg9⟩
          have H4 := Lib.hid (HG.out w3 w4 H3.out hg9)
          clear hg9
          go_wp2_with fail
          go_ret
          exact ⟨rfl, (HF.out w4 H4.out).1⟩
      have h1' : ¬ (100 : Int) < (N : Int) := by omega
      have h2' : ¬ (20000 : Int) < (tot : Int) := by omega
      obtain ⟨h1, h2, h3, h4, h5, h6, h7, h8⟩ := okS_facts hok
      obtain ⟨k, rfl⟩ : ∃ k : Nat, K = (k : Int) := ⟨K.toNat, by omega⟩
      obtain ⟨c, hcG⟩ : ∃ c : Nat, roomOf G = (c : Int) := ⟨(roomOf G).toNat, by omega⟩
      have Hok : Hid (okS k P G = true ∧ roomOf G = (c : Int) ∧ N ≤ 100 ∧ N = bl.length ∧ tot ≤ 20000) := ⟨hok, hcG, by omega, HN.out.1, by omega⟩
      have Hnw' : Hid (∀ W, Calls Tryd.prog 28 #[.agg #[.int .i64 (k : Int), .int .i64 P, .int .i64 G], .int .u64 (id : Int)] W fun e w' => ∃ wb, e = .returned (.tuple #[.pointer (some ⟨wb, 0, none⟩), .int .i64 0]) ∧ W.heap.size ≤ wb ∧ Cells w' wb 98 [.int .i64 (k : Int), .int .i64 P, .int .i64 G, .int .u64 (id : Int), .int .i64 0, .slice none 0 0] ∧ Below W.heap.size W w') := fun W => (Hnw.out W).mono fun e w' h => by
        rcases h with ⟨q, _⟩ | ⟨_, q⟩
        · rw [hok] at q; cases q
        · exact q
      clear hbig hok hcG h1 h2 h3 h4 h5 h6 h7 h8 Hnw Hsb Hsl
      go_wp2_with fail
      refine (Hsm.out w2).mono ?_
      rintro e w3 ⟨rfl, hg9⟩
      have H3 := Lib.hid (HG.out w2 w3 H2.out hg9)
      clear hg9 y0 y1 y2
      obtain ⟨_, y0, y1, y2⟩ := HF.out w3 H3.out
      go_wp2_with fail
      refine (Hck.out w3).mono ?_
      rintro e w4 ⟨rfl, hg9⟩
      have H4 := Lib.hid (HG.out w3 w4 H3.out hg9)
      clear hg9 y0 y1 y2
      obtain ⟨_, y0, y1, y2⟩ := HF.out w4 H4.out
      go_wp2_with fail
      refine (Hnw'.out w4).mono ?_
      rintro e w5 ⟨wb, rfl, hwb, hC5, hb5⟩
      have H0 : Hid (HInv w4 w5 wb k c P G id 0 0 0 (.slice none 0 0) (.slice none 0 0) (.slice none 0 0) bl) := HInv.start Hok.out.1 Hok.out.2.1 HN.out.2.2.2 hC5 hwb hb5 (HT.out w4 H4.out).2.2.1 bl
      clear hwb hC5 hb5 Hnw' Hsm Hck y0 y1 y2
      go_wp2_with fail
      have hRk : Hid (13 ≤ k * c ∧ k * c ≤ 2097120 ∧ roomS k P G ≤ 17179869184 ∧ 1 ≤ k ∧ k ≤ 32 ∧ 1 ≤ c ∧ rowS k P G = ((k * c : Nat) : Int) ∧ P ≤ 4096 ∧ 2 ≤ P) := by
        have hok := Hok.out.1
        have hcG := Hok.out.2.1
        obtain ⟨h1, h2, h3, h4, h5, h6, h7, h8⟩ := okS_facts hok
        have hb := rowS_bounds hok
        have hrv : rowS k P G = ((k * c : Nat) : Int) := by rw [rowS_ok hok, hcG]; simp
        rw [hrv] at hb
        exact ⟨by omega, by omega, (roomS_range _ _ _ hok).2, by omega, by omega, by omega, hrv, h4, h3⟩
      generalize wr = wr0 at *
      go_loopw [14, 13, 12, 11] (fun iv sv av tv wr => ∃ i sl t : Nat, iv = .int .i64 (i : Int) ∧ i ≤ N ∧ ∃ A1 c1 A2 c2 A3 c3, sv = .slice A1 sl c1 ∧ av = .slice A2 i c2 ∧ tv = .slice A3 t c3 ∧ Hid (HInv w4 wr wb k c P G id i sl t sv av tv bl)) (fun iv _ _ _ _ => N - (intOf iv).toNat)
      case atStart => exact ⟨0, 0, 0, rfl, Nat.zero_le _, none, 0, none, 0, none, 0, rfl, rfl, rfl, H0⟩
      case round =>
        clear H0
        obtain ⟨i, sl, t, rfl, hi, A1, c1, A2, c2, A3, c3, rfl, rfl, rfl, hinv⟩ := hrel
        obtain ⟨O, v, rest, S, ats, hs, hst, hrest, hsum, hroom, hsl, hal, hhold⟩ := hinv.out
        by_cases hlt : i < N
        · have hlt' : (i : Int) < (N : Int) := by omega
          obtain ⟨l, hl⟩ : ∃ l, bl[i]? = some l := ⟨_, List.getElem?_eq_getElem (by rw [← HN.out.1]; exact hlt)⟩
          have Hbw : Hid (∀ W, Below wr.heap.size wr W → Below W1.heap.size W1 W) := fun W hb => HB.out _ _ H4.out (hst.bel.trans (hb.mono hst.bel.size))
          have Hbl : Hid (∃ (b o : Nat) (A' : Option Addr) (c' : Nat), A = some ⟨b, o, none⟩ ∧ l.length ≤ c' ∧ ∀ W, Below W1.heap.size W1 W → W.cell? ⟨b, o + i, none⟩ = some (.slice A' l.length c') ∧ RB W w.heap.size A' l) := by
            obtain ⟨b, o, A', c', e, _, hcell, hrb, hlc⟩ := (HT.out wr (Hbw.out wr (Below.refl _ _))).2.1 i l hl
            refine ⟨b, o, A', c', e, hlc, fun W hW => ?_⟩
            obtain ⟨b2, o2, A2', c2', e2, _, hcell2, hrb2, _⟩ := (HT.out W hW).2.1 i l hl
            have hb0 := HT.out wr (Hbw.out wr (Below.refl _ _))
            rw [e] at e2
            cases e2
            have hcc : wr.cell? ⟨b, o + i, none⟩ = W.cell? ⟨b, o + i, none⟩ := by
              obtain ⟨_, _, _, _, e9, hlt9, hc9, _, _⟩ := (HT.out w4 H4.out).2.1 i l hl
              rw [e] at e9
              cases e9
              have q1 := (HF.out wr (Hbw.out wr (Below.refl _ _))).1
              have q2 := (HF.out W hW).1
              exact ((q1.cell (p := ⟨b, o + i, none⟩) hlt9).trans ((q2.cell (p := ⟨b, o + i, none⟩) hlt9).symm))
            rw [hcc, hcell2] at hcell
            cases hcell
            exact ⟨hcell2, hrb2⟩
          obtain ⟨b, o, A', c', rfl, hlc, hblW⟩ := Hbl.out
          have HblW := Lib.hid hblW
          have k1 := (hblW wr (Hbw.out wr (Below.refl _ _))).1
          have hadd := wadd_any hst.wr (HT.out wr (Hbw.out wr (Below.refl _ _))).1 A' c' l ((hblW wr (Hbw.out wr (Below.refl _ _))).2.wide (by have := hst.bel.size; have := (HT.out w4 H4.out).2.2.2; omega)) hlc (by exact hst.bel.size)
          rw [hsum, hsl] at hadd
          have hlb := HN.out.2.2.1 i l hl
          by_cases hno : l.length = 0 ∨ roomS k P G < (sl : Int) + (l.length : Int)
          · have Hno : Hid (Calls Tryd.prog 32 #[.pointer (some ⟨wb, 0, none⟩), .slice A' l.length c'] wr fun e w' => ∃ E : Int, (e = .returned (.tuple #[.int .i64 0, .slice none 0 0, .int .i64 E]) ∧ (E != 0) = true) ∧ Gr wr w') := hadd.mono fun e w' h => by
              rcases h with ⟨_, q1, q2⟩ | ⟨_, _, q1, q2⟩ | ⟨q0, q1, _⟩
              · exact ⟨1, ⟨q1, by decide⟩, q2⟩
              · exact ⟨5, ⟨q1, by decide⟩, q2⟩
              · rcases hno with hno | hno <;> omega
            have HP : Hid (∀ (w6 : World) (o : Obj), Gr wr w6 → OwnV (w6.alloc o) w4.heap.size 3 (.slice A2 i c2) (ats.map (Value.int .i64)) ∧ (ats.map (Value.int .i64)).length = i ∧ w4.heap.size ≤ (w6.alloc o).heap.size ∧ ∀ v7 w7, OwnV w7 w4.heap.size 3 v7 (ats.map (Value.int .i64) ++ [.int .i64 (-1)]) → (w6.alloc o).grownBy w7 (Value.slice A2 i c2).ownBlock → (v7.ownBlock = (Value.slice A2 i c2).ownBlock ∨ v7.ownBlock = some (w6.alloc o).heap.size) → ∃ A7 c7, v7 = .slice A7 (i + 1) c7 ∧ Hid (HInv w4 w7 wb k c P G id (i + 1) sl t (.slice A1 sl c1) v7 (.slice A3 t c3) bl)) := fun w6 o hg6 => by
              have h6 := hst.below (hg6.trans (Gr.alloc w6 o)).below
              refine ⟨h6.at_, by rw [List.length_map]; exact hal, h6.bel.size, fun v7 w7 q1 q2 q3 => ?_⟩
              obtain ⟨O7, _, h7⟩ := h6.pushA q1 q2 q3
              obtain ⟨A7, c7, e7, _⟩ := h7.at_.rd
              rw [List.length_map, List.length_append, hal] at e7
              exact ⟨A7, c7, e7, O7, v, rest, S, _, hs, h7, hrest, hsum, hroom, hsl, by rw [List.length_append, hal]; rfl, hhold.no⟩
            have hNi : i ≤ 1048576 := by have := HN.out.2.1; omega
            clear hinv hst hrest hsum hroom hsl hal hhold hadd hno hblW Hbl hl hlc hlt
            generalize l.length = m at *
            go_wp2_with fail
            refine Hno.out.mono ?_
            rintro e w6 ⟨E, ⟨rfl, hE⟩, hg6⟩
            have HP6 := Lib.hid (HP.out w6)
            have Hg6 := Lib.hid hg6
            clear hg6 HP Hno k1
            go_wp2_with (at_builtin; go_must (refine app_one rfl (.tmp 80) (.tmp 81) 70 3 rfl Tryd.underlying70 (.int .i64 0) 8 info_intS rfl w4.heap.size _ (ats.map (Value.int .i64)) rfl (HP6.out _ Hg6.out).1 ⟨w6.heap.size, 0, none⟩ 1 (.int .i64 (-1)) rfl (cell_new _ _ _) rfl (by have := (HP6.out (.cells #[.int .i64 (-1)] 3) Hg6.out).2.1; omega) (by have := (HP6.out (.cells #[.int .i64 (-1)] 3) Hg6.out).2.1; omega) (HP6.out _ Hg6.out).2.2.1 ?_); intro v7 w7 hq1 hq2 hq3; obtain ⟨A7, c7, rfl, H7⟩ := (HP6.out _ Hg6.out).2.2.2 v7 w7 hq1 hq2 hq3; clear hq1 hq2 hq3)
            go_roundw
            case rel => exact ⟨i + 1, sl, t, by go_num, by omega, A1, c1, A7, c7, A3, c3, rfl, rfl, rfl, H7⟩
            case measure => simp [intOf]; omega
          · have hyes : 1 ≤ l.length ∧ (sl : Int) + (l.length : Int) ≤ roomS k P G := by
              rcases Nat.eq_zero_or_pos l.length with q | q
              · exact absurd (.inl q) hno
              · refine ⟨q, ?_⟩
                apply Int.not_lt.1
                exact fun q2 => hno (.inr q2)
            have Hyes : Hid (Calls Tryd.prog 32 #[.pointer (some ⟨wb, 0, none⟩), .slice A' l.length c'] wr fun e w' => ∃ n g, e = .returned (.tuple #[.int .i64 (sl : Int), .slice (some ⟨g, 0, none⟩) n n, .int .i64 0]) ∧ n = (rest ++ l).length / (k * c) ∧ Mid w4 w' wb k c P G id t n g (.slice A1 sl c1) (.slice A2 i c2) (.slice A3 t c3) S S ats hs rest l) := hadd.mono fun e w' h => by
              rcases h with ⟨q, _⟩ | ⟨_, q, _⟩ | ⟨_, _, n, g, v', q1, q2, q3⟩
              · omega
              · omega
              · exact ⟨n, g, q2, q1, Mid.start hst q3⟩
            have HI : Hid (rest = S.drop (t * (k * c)) ∧ t * (k * c) + rest.length = S.length ∧ ((S.length + l.length : Nat) : Int) ≤ roomS k P G ∧ S.length = sl ∧ ats.length = i ∧ HoldsA S ats bl ∧ bl[i]? = some l) := ⟨hrest, hsum, by omega, hsl, hal, hhold, hl⟩
            have Hbd : Hid (t ≤ 17179869184 ∧ S.length + l.length ≤ 17179869184 ∧ rest.length + l.length ≤ 17179869184 ∧ i ≤ 1048576) := by
              have hk := hRk.out
              have : t * 1 ≤ t * (k * c) := Nat.mul_le_mul_left t (by omega)
              have := HN.out.2.1
              exact ⟨by omega, by omega, by omega, by omega⟩
            obtain ⟨m, hm⟩ : ∃ m, m = l.length := ⟨_, rfl⟩
            have Hm := Lib.hid hm
            have Hl1 := Lib.hid hyes.1
            rw [← hm] at Hyes k1
            clear hinv hst hrest hsum hroom hsl hal hhold hadd hno hblW Hbl hl hlc hlt hyes hlb hm
            go_wp2_with fail
            refine Hyes.out.mono ?_
            rintro e w6 ⟨n, g, rfl, hn, hmid⟩
            have Hn := Lib.hid hn
            have HM6 := Lib.hid hmid
            have Hnb : Hid (n ≤ 17179869184) := by
              show _ ≤ _
              have h9 := Nat.div_le_self (rest ++ l).length (k * c)
              have := Hbd.out
              rw [List.length_append] at h9
              rw [hn, List.length_append]; omega
            clear hn hmid Hyes k1
            go_upto_region 25 with (at_builtin; go_must (refine app_one rfl (.tmp 87) (.tmp 89) 70 3 rfl Tryd.underlying70 (.int .i64 0) 8 info_intS rfl w4.heap.size _ (ats.map (Value.int .i64)) rfl (HM6.out.below (Gr.alloc w6 (.cells #[.int .i64 (sl : Int)] 3)).below).facts.1 ⟨w6.heap.size, 0, none⟩ 1 (.int .i64 (sl : Int)) rfl (cell_new _ _ _) rfl (by rw [List.length_map]; have := HI.out.2.2.2.2.1; have := Hbd.out; omega) (by rw [List.length_map]; have := HI.out.2.2.2.2.1; have := Hbd.out; omega) (HM6.out.below (Gr.alloc w6 (.cells #[.int .i64 (sl : Int)] 3)).below).facts.2.2.2.2.size ?_); intro v7 w7 q1 q2 q3; obtain ⟨⟨A7, c7, e7⟩, h7⟩ := (HM6.out.below (Gr.alloc w6 (.cells #[.int .i64 (sl : Int)] 3)).below).pushA q1 q2 q3; rw [HI.out.2.2.2.2.1] at e7; subst e7; have HM7 := Lib.hid h7; clear q1 q2 q3 h7)
            have HW7 : Hid (Below W1.heap.size W1 w7) := HB.out _ _ H4.out HM7.out.facts.2.2.2.2
            have k2 := (HblW.out w7 HW7.out).1
            rw [← Hm.out] at k2
            go_upto_region 26 with (at_builtin; refine app_bytes2 rfl (.tmp 91) (.tmp 95) rfl w4.heap.size _ S rfl HM7.out.facts.2.1 _ A' m c' l rfl Hm.out (HblW.out w7 HW7.out).2 (by have := Hbd.out; omega) HM7.out.facts.2.2.2.2.size ?_; intro v8 w8 q1 _ q2 q3; obtain ⟨⟨A8, c8, e8⟩, h8⟩ := HM7.out.pushS l q1 q2 q3; rw [HI.out.2.2.2.1, ← Hm.out] at e8; subst e8; have HM8 := Lib.hid h8; clear q1 q2 q3 h8)
            obtain ⟨us, u1, u2, u3, u4⟩ := HM8.out.pushT
            have HU : Hid (us.length = n ∧ (∀ (j : Nat) (u : Value), us[j]? = some u → w8.cell? ⟨g, j, none⟩ = some u) ∧ (∀ u ∈ us, u.oneCell' = true)) := ⟨u1, u2, u3⟩
            have HU4 := Lib.hid u4
            clear u1 u2 u3 u4 k2 HM6 HM7
            go_wp2_with (at_builtin; go_must (refine app_many rfl (.tmp 97) (.tmp 98) 62 34 rfl Tryd.underlying62 (.slice none 0 0) 24 info_rows rfl w4.heap.size _ hs rfl HM8.out.facts.2.2.1 ⟨g, 0, none⟩ n n us rfl HU.out.1.symm (fun j u hj => by rw [add_flat, Nat.zero_add]; exact HU.out.2.1 j u hj) HU.out.2.2 (by have := HU.out.1; have := HM8.out.facts.2.2.2.1; have := Hbd.out; have := Hnb.out; omega) (by have := HU.out.1; have := HM8.out.facts.2.2.2.1; have := Hbd.out; have := Hnb.out; omega) HM8.out.facts.2.2.2.2.size ?_); intro v9 w9 q1 q2 q3; obtain ⟨⟨A9, c9, e9⟩, h9⟩ := HU4.out v9 w9 q1 q2 q3; subst e9; have HM9 := Lib.hid h9; clear q1 q2 q3 h9)
            have Hfin : Hid (HInv w4 w9 wb k c P G id (i + 1) (sl + m) (t + n) (.slice A8 (sl + m) c8) (.slice A7 (i + 1) c7) (.slice A9 (t + n) c9) bl) := by
              obtain ⟨O9, v9, h9⟩ := HM9.out
              obtain ⟨i1, i2, i3, i4, i5, i6, i7⟩ := HI.out
              have := HInv.next h9 i1 i2 i3 i4 i5 i6 i7 Hn.out Hl1.out
              rw [← Hm.out] at this
              exact this
            clear HM9 HM8 HU HU4 Hbd Hnb Hn HI Hl1
            go_roundw
            case rel => exact ⟨i + 1, sl + m, t + n, by go_num, by omega, A8, c8, A7, c7, A9, c9, rfl, rfl, rfl, Hfin⟩
            case measure => simp [intOf]; omega
        · obtain rfl : N = i := by omega
          have hlt' : ¬ (N : Int) < (N : Int) := by omega
          have HI : Hid (rest = S.drop (t * (k * c)) ∧ t * (k * c) + rest.length = S.length ∧ (S.length : Int) ≤ roomS k P G ∧ S.length = sl ∧ ats.length = N ∧ HoldsA S ats bl) := ⟨hrest, hsum, hroom, hsl, hal, hhold⟩
          have Hst := Lib.hid hst
          have hRk9 := hRk.out
          have Hroom2 : Hid (rest.length ≠ 0 → (t : Int) + 1 < P) := fun hr0 => by
            obtain ⟨k1, k2, k3, k4, k5, k6, k7, k8, k9⟩ := hRk.out
            unfold roomS at hroom
            rw [k7] at hroom
            obtain ⟨p, hp⟩ : ∃ p : Nat, P - 1 = (p : Int) := ⟨(P - 1).toNat, by omega⟩
            rw [hp] at hroom
            have h11 : ((k * c : Nat) : Int) * (p : Int) = ((p * (k * c) : Nat) : Int) := by rw [Nat.mul_comm p]; simp
            rw [h11] at hroom
            have h12 : t * (k * c) < p * (k * c) := by omega
            have := Nat.lt_of_mul_lt_mul_right h12
            omega
          have hpad := wpad_any hst.wr (HT.out wr (HB.out _ _ H4.out hst.bel)).1 hst.bel.size Hroom2.out
          have Hts : Hid (t ≤ 17179869184 ∧ hs.length = t) := by
            have : t * 1 ≤ t * (k * c) := Nat.mul_le_mul_left t (by omega)
            have h9 := hst.rows.1
            rw [rowsM_len, cutN_len] at h9
            exact ⟨by omega, h9⟩
          generalize wr = w10 at *
          clear hinv hst hrest hsum hroom hsl hal hhold hlt hRk9
          go_upto_region 27 with fail
          go_cut [11] (fun tv wx => ∃ (t2 : Nat) (A4 : Option Addr) (c4 : Nat), tv = .slice A4 t2 c4 ∧ Hid (HPad w4 wx wb k c P G id N sl t2 sl (.slice A1 sl c1) (.slice A2 N c2) tv bl ∧ sl ≤ t2 * (k * c) ∧ t2 * (k * c) < sl + k * c ∧ (t2 : Int) < P))
          case first => as_aux_lemma =>
            by_cases hr0 : rest.length = 0
            · have Hno : Hid (Calls Tryd.prog 30 #[.pointer (some ⟨wb, 0, none⟩)] w10 fun e w' => e = .returned (.slice none 0 0) ∧ Gr w10 w') := hpad.mono fun e w' h => by
                rcases h with ⟨_, q1, q2⟩ | ⟨q, _⟩
                · exact ⟨q1, q2⟩
                · omega
              have Hr0 := Lib.hid hr0
              clear hpad hr0
              go_wp2_with fail
              refine Hno.out.mono ?_
              rintro e w11 ⟨rfl, hg11⟩
              have Hg11 := Lib.hid hg11
              clear hg11 Hno
              go_wp2_with (at_builtin; go_must (refine app_nilV rfl (.tmp 100) (.tmp 102) 62 34 rfl Tryd.underlying62 (.slice none 0 0) 24 info_rows w4.heap.size _ hs rfl (Hst.out.below Hg11.out.below).tl rfl ?_))
              go_meet
              refine ⟨t, A3, c3, rfl, ?_⟩
              obtain ⟨i1, i2, i3, i4, i5, i6⟩ := HI.out
              have hz := Hr0.out
              have e1 : padN (t * (k * c)) S = S := by
                have : t * (k * c) = S.length := by omega
                rw [this, padN_self]
              have e2 : padN sl S = S := by rw [← i4, padN_self]
              have hk := hRk.out
              refine ⟨⟨O, v, rest, S, ats, hs, ?_, i4, i5, i6⟩, by omega, by omega, Hst.out.wr.ht⟩
              rw [e1, e2]
              exact Hst.out.below Hg11.out.below
            · have Hyes : Hid (Calls Tryd.prog 30 #[.pointer (some ⟨wb, 0, none⟩)] w10 fun e w' => ∃ g, e = .returned (.slice (some ⟨g, 0, none⟩) 1 1) ∧ Mid w4 w' wb k c P G id t 1 g (.slice A1 sl c1) (.slice A2 N c2) (.slice A3 t c3) S S ats hs rest (List.replicate (k * c - rest.length) 0)) := hpad.mono fun e w' h => by
                rcases h with ⟨q, _⟩ | ⟨_, g, v', q1, q2⟩
                · omega
                · exact ⟨g, q1, Mid.start Hst.out q2⟩
              have Hr0 := Lib.hid hr0
              clear hpad hr0
              go_wp2_with fail
              refine Hyes.out.mono ?_
              rintro e w11 ⟨g, rfl, hmid⟩
              obtain ⟨us, u1, u2, u3, u4⟩ := hmid.pushT
              have HM := Lib.hid hmid
              have HU : Hid (us.length = 1 ∧ (∀ (j : Nat) (u : Value), us[j]? = some u → w11.cell? ⟨g, j, none⟩ = some u) ∧ (∀ u ∈ us, u.oneCell' = true)) := ⟨u1, u2, u3⟩
              have HU4 := Lib.hid u4
              clear u1 u2 u3 u4 hmid Hyes
              go_wp2_with (at_builtin; go_must (refine app_many rfl (.tmp 100) (.tmp 102) 62 34 rfl Tryd.underlying62 (.slice none 0 0) 24 info_rows rfl w4.heap.size _ hs rfl HM.out.facts.2.2.1 ⟨g, 0, none⟩ 1 1 us rfl HU.out.1.symm (fun j u hj => by rw [add_flat, Nat.zero_add]; exact HU.out.2.1 j u hj) HU.out.2.2 (by have := HU.out.1; have := Hts.out; omega) (by have := HU.out.1; have := Hts.out; omega) HM.out.facts.2.2.2.2.size ?_); intro v9 w9 q1 q2 q3; obtain ⟨⟨A9, c9, e9⟩, h9⟩ := HU4.out v9 w9 q1 q2 q3; subst e9; have HM9 := Lib.hid h9; clear q1 q2 q3 h9)
              go_meet
              refine ⟨t + 1, A9, c9, rfl, ?_⟩
              obtain ⟨O9, v9, h9⟩ := HM9.out
              obtain ⟨i1, i2, i3, i4, i5, i6⟩ := HI.out
              have hz := Hr0.out
              have hrl := Hst.out.wr.hr
              have e3 : (t + 1) * (k * c) = t * (k * c) + k * c := by rw [Nat.succ_mul]
              have e1 : S ++ List.replicate (k * c - rest.length) 0 = padN ((t + 1) * (k * c)) S := by
                unfold padN
                congr 2
                omega
              have e2 : padN sl S = S := by rw [← i4, padN_self]
              have h10 := Hroom2.out hz
              refine ⟨⟨O9, v9, (rest ++ List.replicate (k * c - rest.length) 0).drop (1 * (k * c)), S, ats, hs ++ us, ?_, i4, i5, i6⟩, by omega, by omega, by omega⟩
              have h8 := rows_join (k := k) (c := c) (G := G) (id := id) (t := t) (n := 1) (S := S) (b := List.replicate (k * c - rest.length) 0) (by omega)
              rw [← i1, e1] at h8
              rw [e2, ← h8]
              exact h9
          case rest =>
          obtain ⟨t2, A4, c4, rfl, Hp⟩ := hcut
          generalize wc = w11 at *
          obtain ⟨R, hR⟩ : ∃ R, R = k * c := ⟨_, rfl⟩
          have HR : Hid (R = k * c ∧ 13 ≤ R ∧ R ≤ 2097120) := ⟨hR, by have := hRk.out; omega, by have := hRk.out; omega⟩
          have HrowK : Hid (∀ W, Calls Tryd.prog 14 #[.agg #[.int .i64 (k : Int), .int .i64 P, .int .i64 G]] W fun e w' => e = .returned (.int .i64 (R : Int)) ∧ Gr W w') := fun W => by
            have := row_any (k : Int) P G W
            rw [hRk.out.2.2.2.2.2.2.1, ← hR] at this
            exact this
          have Hsb : Hid (sl ≤ 17179869184 ∧ t2 * (k * c) ≤ 17182000000) := by
            have h1 := HI.out.2.2.1
            have h2 := HI.out.2.2.2.1
            have h3 := hRk.out
            have h4 := Hp.out.2.2.1
            exact ⟨by omega, by omega⟩
          have hR0 : ¬ R = 0 := by have := HR.out; omega
          have hRb : (R : Int) ≤ 2097120 := by have := HR.out; omega
          clear hR HI Hst Hroom2 Hts hpad
          go_wp2_with fail
          go_loopw [13] (fun sv wr => ∃ j A c9, sv = .slice A j c9 ∧ sl ≤ j ∧ j ≤ t2 * (k * c) ∧ Hid (HPad w4 wr wb k c P G id N sl t2 j sv (.slice A2 N c2) (.slice A4 t2 c4) bl)) (fun sv _ => t2 * (k * c) - lenW9 sv)
          case atStart => exact ⟨sl, A1, c1, rfl, Nat.le_refl _, Hp.out.2.1, Hp.out.1⟩
          case round =>
            obtain ⟨j, A5, c5, rfl, hj1, hj2, hst⟩ := hrel
            obtain ⟨_, y0, y1, y2⟩ := HF.out wr (HB.out _ _ H4.out hst.out.bel)
            have HJ : Hid (sl ≤ j ∧ j ≤ t2 * (k * c) ∧ t2 * (k * c) < sl + k * c) := ⟨hj1, hj2, Hp.out.2.2.1⟩
            have hjb : (j : Int) ≤ 17182000000 := by have := Hsb.out.2; omega
            obtain ⟨jm, hjm⟩ : ∃ jm, jm = j % R := ⟨_, rfl⟩
            have hmod : (j : Int).tmod (R : Int) = (jm : Int) := by rw [hjm]; rfl
            have Hjm := Lib.hid hjm
            clear hjm hj1 hj2
            by_cases hd : j = t2 * (k * c)
            case neg =>
              have hlt9 : j < t2 * (k * c) := by have := HJ.out; omega
              have hjm0 : ((jm : Int) != 0) = true := by
                have : jm ≠ 0 := fun e => by
                  have h1 := Hjm.out
                  rw [e] at h1
                  obtain ⟨h2, h3, h4⟩ := HR.out
                  obtain ⟨h5, h6, h7⟩ := HJ.out
                  rw [← h2] at h6 h7 hlt9
                  obtain ⟨q, hq⟩ : ∃ q, j = R * q := ⟨j / R, by have := Nat.div_add_mod j R; omega⟩
                  rw [hq, Nat.mul_comm R q] at hlt9
                  have h8 := Nat.lt_of_mul_lt_mul_right hlt9
                  have h9 : (q + 1) * R ≤ t2 * R := Nat.mul_le_mul_right R h8
                  rw [Nat.succ_mul] at h9
                  rw [hq, Nat.mul_comm R q] at h5
                  omega
                simp; omega
              clear hd
              go_wp2_with fail
              refine (HrowK.out wr).mono ?_
              rintro e w12 ⟨rfl, hg12⟩
              obtain ⟨S2, z1, z2, z3⟩ := ((hst.out.below hg12.below).below (Gr.alloc w12 (.cells #[.int .u8 0] 5)).below).zero HJ.out.1
              have HZ : Hid (S2.length = j ∧ Own (w12.alloc (.cells #[.int .u8 0] 5)) w4.heap.size (.slice A5 j c5) S2 ∧ w4.heap.size ≤ (w12.alloc (.cells #[.int .u8 0] 5)).heap.size) := ⟨z1, z2, ((hst.out.below hg12.below).below (Gr.alloc w12 (.cells #[.int .u8 0] 5)).below).bel.size⟩
              have HZ3 := Lib.hid z3
              clear z1 z2 z3 hg12 hst y0 y1 y2
              go_wp2_with (at_builtin; refine app_bytes2 rfl (.tmp 110) (.tmp 111) rfl w4.heap.size _ S2 rfl HZ.out.2.1 (w12.heap.size + 1) (some ⟨w12.heap.size, 0, none⟩) 1 1 [0] rfl rfl (RB.new w12 _ _ [0] rfl) (by have := HZ.out.1; simp; omega) HZ.out.2.2 ?_; intro v8 w8 q1 _ q2 q3; obtain ⟨⟨A8, c8, e8⟩, h8⟩ := HZ3.out v8 w8 q1 q2 q3; subst e8; have H8 := Lib.hid h8; clear q1 q2 q3 h8)
              go_roundw
              case rel => exact ⟨j + 1, A8, c8, rfl, by have := HJ.out; omega, by omega, H8⟩
              case measure => simp [lenW9]; omega
            case pos =>
              obtain rfl : jm = 0 := by
                have h1 := Hjm.out
                have h2 := HR.out.1
                rw [← h2] at hd
                rw [hd, Nat.mul_mod_left] at h1
                exact h1
              have hm9 : (t2 : Int) * (R : Int) = (j : Int) := by rw [hd, HR.out.1]; simp
              have Hj := Lib.hid hd
              clear hd
              go_wp2_with fail
              refine (HrowK.out wr).mono ?_
              rintro e w12 ⟨rfl, hg12⟩
              have H12 := Lib.hid (hst.out.below hg12.below)
              clear hg12 hst y0 y1 y2
              obtain ⟨_, y0, y1, y2⟩ := HF.out w12 (HB.out _ _ H4.out H12.out.bel)
              go_wp2_with fail
              refine (HrowK.out w12).mono ?_
              rintro e w13 ⟨rfl, hg13⟩
              have H13 := Lib.hid (H12.out.below hg13.below)
              clear hg13 y0 y1 y2 H12
              obtain ⟨O9, v9, rest9, S9, ats9, hs9, q1, q2, q3, q4⟩ := H13.out
              have HS := Lib.hid q1
              have HQ : Hid (S9.length = sl ∧ ats9.length = N ∧ HoldsA S9 ats9 bl ∧ (padN j S9).length = j ∧ j = t2 * R) := ⟨q2, q3, q4, padN_len (by have := HJ.out; omega), by rw [HR.out.1]; exact Hj.out⟩
              clear q1 q2 q3 q4 hmod
              go_wp2_with fail
              clear hm9
              go_loopw [18] (fun iv wr => ∃ i : Nat, iv = .int .i64 (i : Int) ∧ i ≤ t2 ∧ Hid (Below w13.heap.size w13 wr)) (fun iv _ => t2 - (intOf iv).toNat)
              case atStart => exact ⟨0, rfl, Nat.zero_le _, Below.refl _ _⟩
              case round =>
                obtain ⟨i, rfl, hi, hrel⟩ := hrel
                have Hb1 : Hid (∀ W, Below w13.heap.size w13 W → Below W1.heap.size W1 W) := fun W hb => HB.out _ _ H4.out (HS.out.bel.trans (hb.mono HS.out.bel.size))
                by_cases hlt : i < t2
                · have hlt' : (i : Int) < (t2 : Int) := by omega
                  obtain ⟨a, ha⟩ : ∃ a, a = i * R := ⟨_, rfl⟩
                  have hab : a + R ≤ j := by
                    have h1 : (i + 1) * R ≤ t2 * R := Nat.mul_le_mul_right R hlt
                    rw [Nat.succ_mul] at h1
                    have := HQ.out.2.2.2.2
                    omega
                  have hR13 := HR.out.2.1
                  obtain ⟨gs, cs, es, hg1, hg2, hg3, _⟩ := HS.out.st.form (by rw [HQ.out.2.2.2.1]; omega)
                  rw [HQ.out.2.2.2.1] at es hg3
                  have hrb13 : RB w13 w13.heap.size (some ⟨gs, 0, none⟩) (padN j S9) := by
                    obtain ⟨A', c', e', _, hrb, _⟩ := HS.out.st.rb
                    rw [es] at e'
                    rw [(Value.slice.inj e').1]
                    exact hrb
                  cases es
                  obtain ⟨gt, gcap, gcur, et, _, hct, _, _, _, htk⟩ : ∃ g cap cur, (Value.slice A4 t2 c4) = .slice (some ⟨g, 0, none⟩) hs9.length cap ∧ w4.heap.size ≤ g ∧ Cells w13 g 34 cur ∧ hs9.length ≤ cap ∧ cap ≤ maxLen ∧ cur.length = cap ∧ cur.take hs9.length = hs9 := by
                    rcases HS.out.tl.form with ⟨_, e⟩ | h
                    · have := HS.out.rows.1
                      rw [e, rowsM_len, cutN_len] at this
                      simp at this
                      omega
                    · exact h
                  have et1 := (Value.slice.inj et).1
                  subst et1
                  have hhl : hs9.length = t2 := by have := HS.out.rows.1; rwa [rowsM_len, cutN_len] at this
                  obtain ⟨hh, hhi⟩ : ∃ hh, hs9[i]? = some hh := ⟨_, List.getElem?_eq_getElem (by omega)⟩
                  obtain ⟨d, hd⟩ : ∃ d, d = ((padN j S9).drop (i * R)).take R := ⟨_, rfl⟩
                  have hdl : d.length = R := by rw [hd, List.length_take, List.length_drop, HQ.out.2.2.2.1, ← ha]; omega
                  have hMi : (rowsM k c G id 0 (cutN (padN (t2 * (k * c)) S9) (k * c) t2))[i]? = some (pageM G ((i + 1 : Nat) : Int) id (rowM k c d)) := by
                    rw [rowsM_get (by rw [cutN_len]; exact hlt), List.getD, cutN_get hlt, ← HR.out.1, ← HQ.out.2.2.2.2]
                    show some (pageM G (((0 : Nat) : Int) + (i : Int) + 1) id (rowM k c (((padN j S9).drop (i * R)).take R))) = _
                    rw [← hd, show ((0 : Nat) : Int) + (i : Int) + 1 = ((i + 1 : Nat) : Int) by omega]
                  obtain ⟨Ai, ci, ehh, hrt⟩ := HS.out.rows.2 i hh _ hhi hMi
                  have hpl : (pageM G ((i + 1 : Nat) : Int) id (rowM k c d)).length = k + 2 := by
                    rw [pageM_len]; exact rowM_len hRk.out.2.2.2.1 hRk.out.2.2.2.2.2.1 (by rw [hdl, HR.out.1]; exact Nat.le_refl _)
                  rw [hpl] at ehh
                  subst ehh
                  have hcellt : w13.cell? ⟨gt, i, none⟩ = some (.slice Ai (k + 2) ci) := hct.cell (by
                    have : (gcur.take hs9.length)[i]? = some (.slice Ai (k + 2) ci) := by rw [htk]; exact hhi
                    rw [List.getElem?_take] at this
                    split at this
                    · exact this
                    · cases this)
                  have HC : Hid (∀ W, Below w13.heap.size w13 W → (W.cell? ⟨w.heap.size, 0, none⟩ = some (.int .i64 (k : Int)) ∧ W.cell? ⟨w.heap.size, 1, none⟩ = some (.int .i64 P) ∧ W.cell? ⟨w.heap.size, 2, none⟩ = some (.int .i64 G)) ∧ W.cell? ⟨gt, i, none⟩ = some (.slice Ai (k + 2) ci)) := fun W hb => ⟨(HF.out W (Hb1.out W hb)).2, (hb.cell (p := ⟨gt, i, none⟩) hct.lt).trans hcellt⟩
                  obtain ⟨i1, hi1⟩ : ∃ i1, i1 = i + 1 := ⟨_, rfl⟩
                  have HPg : Hid (∀ W, Below w13.heap.size w13 W → Calls Tryd.prog 21 #[.agg #[.int .i64 (k : Int), .int .i64 P, .int .i64 G], .int .u64 (id : Int), .int .i64 (i1 : Int), .slice (some ⟨gs, a, none⟩) R (c5 - a)] W fun e w' => ∃ g, e = .returned (.tuple #[.slice (some ⟨g, 0, none⟩) (k + 2) (k + 2), .int .i64 0]) ∧ (Below w13.heap.size w13 w' ∧ Calls Tryd.prog 20 #[.slice Ai (k + 2) ci, .slice (some ⟨g, 0, none⟩) (k + 2) (k + 2)] w' fun e w'' => e = .returned (.bool true) ∧ Below w13.heap.size w13 w'')) := fun W hb => by
                    have hrd : RB W W.heap.size (some ⟨gs, a, none⟩) d := by
                      have h9 := (((hrb13.cutFlat (i * R)).take R).below hb).wide hb.size
                      rw [Nat.zero_add, ← ha] at h9
                      rw [hd, ← ha]
                      exact h9
                    have hpo := pages_ok k c (c5 - a) P G (i1 : Int) id (some ⟨gs, a, none⟩) d (w := W) Hok.out.1 Hok.out.2.1 (by have h9 := Hp.out.2.2.2; omega) hrd (by rw [hdl, HR.out.1]; exact Nat.le_refl _) (by rw [hdl]; omega) (HT.out W (Hb1.out W hb)).1 HN.out.2.2.2
                    rw [hdl] at hpo
                    refine hpo.mono ?_
                    rintro e w' ⟨g, he, r1, r2⟩
                    have hb' := hb.trans (r2.mono hb.size)
                    refine ⟨g, he, hb', ?_⟩
                    have hsp := spages_any Ai (some ⟨g, 0, none⟩) ci (k + 2) (pageM G ((i + 1 : Nat) : Int) id (rowM k c d)) (pageM G ((i + 1 : Nat) : Int) id (rowM k c d)) w' w'.heap.size ((hrt.rm.below hb').wide hb'.size) (by have r9 := r1.rm; rw [hi1] at r9; exact r9) (by rw [hpl]; have := hRk.out; omega)
                    rw [hpl] at hsp
                    refine hsp.mono ?_
                    rintro e w'' ⟨he2, q, rfl⟩
                    exact ⟨by rw [he2]; simp, drewN_below hb' q⟩
                  have hwa : IntKind.i64.wrap ((i : Int) * (R : Int)) = (a : Int) := by
                    have : (i : Int) * (R : Int) = (a : Int) := by rw [ha]; simp
                    rw [this, IntKind.wrap_i64]; omega
                  have hwi : IntKind.i64.wrap ((i : Int) + 1) = (i1 : Int) := by
                    have hP := Hp.out.2.2.2
                    have := hRk.out
                    rw [IntKind.wrap_i64]; omega
                  have hwb : IntKind.i64.wrap ((i1 : Int) * (R : Int)) = ((a + R : Nat) : Int) := by
                    have : (i1 : Int) * (R : Int) = ((a + R : Nat) : Int) := by rw [ha, hi1, ← Nat.succ_mul]; simp
                    rw [this, IntKind.wrap_i64]; omega
                  obtain ⟨bb, hbb⟩ : ∃ bb, bb = a + R := ⟨_, rfl⟩
                  rw [← hbb] at hwb
                  have hsl : ∀ W2, (Instr.slice 25 (.slice (some ⟨gs, 0, none⟩) j c5) (some (.int .i64 (a : Int))) (some (.int .i64 (bb : Int))) none).run Tryd.prog W2 = .ok (.slice (some ⟨gs, a, none⟩) R (c5 - a)) W2 := fun W2 => by
                    have := slice_two ⟨gs, 0, none⟩ j c5 a (a + R) (by omega) (by omega) W2
                    rw [add_flat, Nat.zero_add, show a + R - a = R by omega] at this
                    rw [hbb]
                    exact this
                  have hat : (i : Int) < ((k + 2 : Nat) : Int) ∨ True := .inr trivial
                  have Hwr : Hid (∀ X, Gr wr X → Below w13.heap.size w13 X) := fun X hg => hrel.out.trans (hg.below.mono hrel.out.size)
                  have HrX : Hid (∀ X, Gr wr X → Calls Tryd.prog 14 #[.agg #[.int .i64 (k : Int), .int .i64 P, .int .i64 G]] X fun e w' => e = .returned (.int .i64 (R : Int)) ∧ Gr wr w') := fun X hg => (HrowK.out X).mono fun e w' ⟨h1, h2⟩ => ⟨h1, hg.trans h2⟩
                  have Gd : Hid (Gr wr wr.drew) := Gr.drewN wr 1
                  have k0 := (HC.out wr.drew (Hwr.out _ Gd.out)).1
                  have Hlt : Hid (i < t2) := hlt
                  have ht2b : (t2 : Int) ≤ 4096 := by have := Hp.out.2.2.2; have := hRk.out; omega
                  clear hlt ha hab hR13 hg1 hg2 hg3 hrb13 hct htk et hhl hhi hd hdl hMi hrt hpl hcellt hi1 hbb hat hrel
                  go_upto_region 35 with fail
                  go_region_held3 (fun X => X.cell? ⟨w.heap.size, 0, none⟩ = some (.int .i64 (k : Int)) ∧ X.cell? ⟨w.heap.size, 1, none⟩ = some (.int .i64 P) ∧ X.cell? ⟨w.heap.size, 2, none⟩ = some (.int .i64 G)) (first | exact j2 | exact j1 | exact k0) (first
                    | (go_at_call 14; refine (HrX.out _ (by first | exact Ga.out | exact Gd.out)).mono ?_; rintro e w14 ⟨rfl, hg14⟩; have j1 := (HC.out w14 (Hwr.out w14 hg14)).1; have Ga := Lib.hid hg14; clear hg14)
                    | (go_at_call 21; refine (HPg.out _ (Hwr.out _ Ga.out)).mono ?_; rintro e w15 ⟨g9, rfl, hb15, hcmp⟩; have j2 := (HC.out w15 hb15).1; have j4 := (HC.out w15 hb15).2; have Hcmp := Lib.hid hcmp; clear hb15 hcmp))
                  all_goals
                    clear HrX HPg Hwr k0 hwa hwi hwb hsl
                    go_wp2_with fail
                    refine Hcmp.out.mono ?_
                    rintro e w16 ⟨rfl, hb16⟩
                    have H16 := Lib.hid hb16
                    clear hb16 Hcmp
                    go_wp2_with fail
                    go_roundw
                    case rel => exact ⟨i + 1, by go_num, by have := Hlt.out; omega, H16⟩
                    case measure => have := Hlt.out; simp [intOf]; omega
                · obtain rfl : i = t2 := by omega
                  have hlt' : ¬ (i : Int) < (i : Int) := by omega
                  have H14 : Hid (Below w13.heap.size w13 wr ∧ Below W1.heap.size W1 wr) := ⟨hrel.out, Hb1.out wr hrel.out⟩
                  generalize wr = w14 at *
                  clear hrel hlt
                  go_wp2_with fail
                  go_loopw [21] (fun iv wr => ∃ x q : Nat, iv = .int .i64 (x : Int) ∧ x ≤ N ∧ Hid (wr = w14.drewN q)) (fun iv _ => N - (intOf iv).toNat)
                  case atStart => exact ⟨0, 0, rfl, Nat.zero_le _, (show w14 = w14.drewN 0 from by simp [World.drewN])⟩
                  case round =>
                    obtain ⟨x, q, rfl, hx, hrel⟩ := hrel
                    by_cases hlt : x < N
                    · have hltx : (x : Int) < (N : Int) := by omega
                      obtain ⟨l, hl⟩ : ∃ l, bl[x]? = some l := ⟨_, List.getElem?_eq_getElem (by rw [← HN.out.1]; exact hlt)⟩
                      obtain ⟨b, o, A', c', rfl, _, hcell, hrb, hlc⟩ := (HT.out w14 H14.out.2).2.1 x l hl
                      have k1 : wr.cell? ⟨b, o + x, none⟩ = some (.slice A' l.length c') := by rw [hrel.out]; exact hcell
                      obtain ⟨av, hav⟩ : ∃ av, ats9[x]? = some av := ⟨_, List.getElem?_eq_getElem (by rw [HQ.out.2.1]; exact hlt)⟩
                      obtain ⟨A6, c6, ea, _, _, hrd⟩ := HS.out.at_.rd
                      obtain ⟨ba, eA, hba, hca⟩ := hrd x (.int .i64 av) (by rw [List.getElem?_map, hav]; rfl)
                      have ea1 := (Value.slice.inj ea).1
                      rw [eA] at ea1
                      subst ea1
                      have k2 : wr.cell? ⟨ba, x, none⟩ = some (.int .i64 av) := by
                        rw [hrel.out]
                        exact (H14.out.1.cell (p := ⟨ba, x, none⟩) hba).trans hca
                      have Hn : Hid (∀ nq, wr.drewN nq = w14.drewN (q + nq)) := fun nq => by rw [hrel.out]; simp [World.drewN, Nat.add_assoc]
                      have Hltx : Hid (x < N) := hlt
                      rcases HQ.out.2.2.1 x av l hav hl with rfl | ⟨an, rfl, hs1, hs2, hs3⟩
                      · have hneg : decide ((-1 : Int) ≥ 0) = false := by decide
                        generalize l.length = m at *
                        clear hl hcell hrb hlc hav ea eA hba hca hrd hrel hlt
                        go_wp2_with fail
                        go_quiet (fail)
                        go_wp2_with fail
                        go_roundw
                        case rel => exact ⟨x + 1, q + nq, by go_num, by have := Hltx.out; omega, Hn.out nq⟩
                        case measure => have := Hltx.out; simp [intOf]; omega
                      · obtain ⟨gs, cs, es, hg1, hg2, hg3, _⟩ := HS.out.st.form (by rw [HQ.out.2.2.2.1]; have h1 := HQ.out.1; have := HJ.out; omega)
                        rw [HQ.out.2.2.2.1] at es hg3
                        have hrb13 : RB w13 w13.heap.size (some ⟨gs, 0, none⟩) (padN j S9) := by
                          obtain ⟨A9', c9', e', _, hrb, _⟩ := HS.out.st.rb
                          rw [es] at e'
                          rw [(Value.slice.inj e').1]
                          exact hrb
                        cases es
                        have hSj : S9.length ≤ j := by have h1 := HQ.out.1; have := HJ.out; omega
                        have hll : ((padN j S9).drop an).take l.length = l := by
                          unfold padN
                          rw [List.drop_append_of_le_length (by omega), List.take_append_of_le_length (by rw [List.length_drop]; omega)]
                          exact hs1
                        have hrbs : RB wr w14.heap.size (some ⟨gs, an, none⟩) l := by
                          have h9 := (((hrb13.cutFlat an).take l.length).below H14.out.1).wide H14.out.1.size
                          rw [Nat.zero_add, hll] at h9
                          rw [hrel.out]
                          exact h9.drewN q
                        have t1 := eql_str_conv wr w14.heap.size (some ⟨gs, an, none⟩) l (c5 - an) hrbs
                        have t2 := eql_str_conv wr w14.heap.size A' l c' (by rw [hrel.out]; exact (hrb.wide (HT.out w14 H14.out.2).2.2.2).drewN q)
                        have hanb : (an : Int) ≤ 17182000000 := by omega
                        obtain ⟨e9, he9⟩ : ∃ e9, e9 = an + l.length := ⟨_, rfl⟩
                        have hwe : IntKind.i64.wrap ((an : Int) + (l.length : Int)) = (e9 : Int) := by rw [he9, IntKind.wrap_i64]; omega
                        have hwe2 : (an : Int) + (l.length : Int) = (e9 : Int) := by rw [he9]; omega
                        have heb : (e9 : Int) ≤ 17182000000 := by omega
                        have hsl : ∀ W2, (Instr.slice 25 (.slice (some ⟨gs, 0, none⟩) j c5) (some (.int .i64 (an : Int))) (some (.int .i64 (e9 : Int))) none).run Tryd.prog W2 = .ok (.slice (some ⟨gs, an, none⟩) l.length (c5 - an)) W2 := fun W2 => by
                          have := slice_two ⟨gs, 0, none⟩ j c5 an (an + l.length) (by omega) (by omega) W2
                          rw [add_flat, Nat.zero_add, show an + l.length - an = l.length by omega] at this
                          rw [he9]
                          exact this
                        have hpos : decide ((an : Int) ≥ 0) = true := by simp
                        generalize (⟨l.toArray⟩ : ByteArray) = X at t1 t2
                        generalize l.length = m at *
                        clear hl hcell hrb hlc hav ea eA hba hca hrd hrel hlt hs1 hs2 hs3 hg1 hg2 hg3 hrb13 hSj hll hrbs he9
                        go_wp2_with fail
                        go_quiet (fail)
                        go_wp2_with fail
                        go_roundw
                        case rel => exact ⟨x + 1, q + nq, by go_num, by have := Hltx.out; omega, Hn.out nq⟩
                        case measure => have := Hltx.out; simp [intOf]; omega
                    · obtain rfl : x = N := by omega
                      have hltx : ¬ (x : Int) < (x : Int) := by omega
                      have Hf : Hid (Below w.heap.size w wr) := by
                        rw [hrel.out]
                        exact drewN_below (HF.out w14 H14.out.2).1 q
                      clear hrel hlt
                      go_wp2_with fail
                      go_ret
                      exact ⟨rfl, Hf.out⟩
end
end Go.Proofs.YtlficcdbnmheeaaDoor
