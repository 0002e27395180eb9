/-
  ShaOwn, walked.
-/
import Derived.Test.YtabhpgacnenacaaDoorSh13
import Derived.Deep.DeepMust
namespace Go.Proofs.YtabhpgacnenacaaDoor
open Go.RowKit

/-- append(v, x...): v the call's own; x any slice that reads as r. -/
theorem app_bytes2 {w : World} {ops : Array Oper} {rest : List Oper} {o : Oper} {a : Act} {Q : Exit → Act → World → Prop} (hgd : o.guard = none) (s x : Operand)
    (ho : o.op = .call { callee := .builtin .append, args := #[s, x], argTypes := #[24, 24] })
    (base : Nat) (v : Value) (l : List UInt8) (hs : a.eval s = v) (hown : Own w base v l)
    (B : Nat) (A : Option Addr) (m c : Nat) (r : List UInt8) (hx : a.eval x = .slice A m c) (hm : m = r.length) (hr : RB w B A r)
    (hlen : l.length + r.length ≤ 140737488355327) (hbase : base ≤ w.heap.size)
    (h : ∀ v' w', Own w' base v' (l ++ r) → (v'.ownBlock = v.ownBlock ∨ v'.ownBlock = some w.heap.size) → w.grownBy w' v.ownBlock → wpList Tryd.prog ops Q rest (a.put o.dst v') w') :
    wpList Tryd.prog ops Q (o :: rest) a w := by
  subst hm
  obtain ⟨i0, hi0, hz0, hz1, hz2⟩ := info_parts info8
  refine wpList_plain hgd fun K hK => ?_
  have run : ∃ v' w', (Builtin.append_ #[24, 24] o.type #[v, .slice A r.length c]).run Tryd.prog w = .ok v' w' ∧ Own w' base v' (l ++ r) ∧ w.grownBy w' v.ownBlock ∧ (v'.ownBlock = v.ownBlock ∨ v'.ownBlock = some w.heap.size) := by
    by_cases h0 : r.length = 0
    · obtain rfl : r = [] := List.eq_nil_of_length_eq_zero h0
      refine ⟨v, w, ?_, by simpa [Own] using hown, World.grownBy.refl w _, .inl rfl⟩
      rcases hown.2 with ⟨rfl, _⟩ | ⟨g, cap, cur, rfl, _, _, hnc, _⟩
      · cases A <;> simp [Builtin.append_, run_underlying Tryd.underlying24, sizeOf, typeInfo, hi0, Builtin.lenOf, Builtin.firstCells, loadCells, loadCellsFrom]
      · cases A <;> simp [Builtin.append_, run_underlying Tryd.underlying24, sizeOf, typeInfo, hi0, Builtin.lenOf, Builtin.firstCells, hnc, storeCells, loadCells, loadCellsFrom]
    · have hr0 : 0 < r.length := by omega
      obtain ⟨ad, rfl, _, _⟩ := hr.at_ hr0
      obtain ⟨v', w', hrun, h2, h3, _, h5⟩ := run_append_own_at (P := Tryd.prog) w base 24 o.type 5 i0 (.int .u8 0) 1 1 Tryd.underlying24 hi0 hz0 hz1 hz2 rfl (by omega) v l.length (bvs l) hown ad r.length c (bvs r)
        (by simp [bvs]) (fun j u hu => by
          simp only [bvs, List.getElem?_map, Option.map_eq_some_iff] at hu
          obtain ⟨y, hy, rfl⟩ := hu
          obtain ⟨ad', e, _, hc⟩ := hr j y hy
          cases e
          exact hc) (bvs_one r) (by simp only [maxLen]; omega) (by omega) hbase
      exact ⟨v', w', hrun, by simpa [Own, bvs] using h2, h3, h5⟩
  obtain ⟨v', w', hrun, h2, h3, h4⟩ := run
  unfold Oper.wp execOp
  simp only [ho, resolve, invoke, builtin, Sem.run_bind, Sem.run_pure, Result.andThen_ok, List.map_toArray, List.map_cons, List.map_nil, hs, hx, hrun]
  exact hK _ _ (h v' w' h2 h4 h3)
/-- the law's digests and lists -/
structure SoSt (w wr : World) (x y : Nat) (a : List UInt8) (mv av : Value) (Mx N Ma : List UInt8) : Prop where
  dx : DgAt wr x Mx
  dy : DgAt wr y N
  mine : Own wr w.heap.size mv a
  all : Own wr w.heap.size av Ma
  xy : x ≠ y
  gx : w.heap.size ≤ x
  gy : w.heap.size ≤ y
  mx : ∀ g, mv.ownBlock = some g → g ≠ x ∧ g ≠ y
  ax : ∀ g, av.ownBlock = some g → g ≠ x ∧ g ≠ y ∧ mv.ownBlock ≠ some g
  bel : Below w.heap.size w wr
section
variable {w wr w' : World} {x y : Nat} {a : List UInt8} {mv av : Value} {Mx N Ma : List UInt8}
theorem SoSt.below (h : SoSt w wr x y a mv av Mx N Ma) (hb : Below wr.heap.size wr w') : SoSt w w' x y a mv av Mx N Ma :=
  ⟨h.dx.move (hb.block _ h.dx.lt), h.dy.move (hb.block _ h.dy.lt), h.mine.below hb, h.all.below hb, h.xy, h.gx, h.gy, h.mx, h.ax, h.bel.trans (hb.mono h.bel.size)⟩
theorem SoSt.wx (h : SoSt w wr x y a mv av Mx N Ma) {M' : List UInt8} (hd : DgAt w' x M') (hk : Kept (fun b => b ≠ x) wr w') : SoSt w w' x y a mv av M' N Ma :=
  ⟨hd, h.dy.move (hk.block _ h.dy.lt (fun e => h.xy e.symm)), h.mine.move fun g hg => hk.block g (h.mine.lt g hg).2 (h.mx g hg).1, h.all.move fun g hg => hk.block g (h.all.lt g hg).2 (h.ax g hg).1, h.xy, h.gx, h.gy, h.mx, h.ax,
    h.bel.trans (hk.to_below (fun b hb => by show b ≠ x; have := h.gx; omega) h.bel.size)⟩
theorem SoSt.wy (h : SoSt w wr x y a mv av Mx N Ma) {M' : List UInt8} (hd : DgAt w' y M') (hk : Kept (fun b => b ≠ y) wr w') : SoSt w w' x y a mv av Mx M' Ma :=
  ⟨h.dx.move (hk.block _ h.dx.lt h.xy), hd, h.mine.move fun g hg => hk.block g (h.mine.lt g hg).2 (h.mx g hg).2, h.all.move fun g hg => hk.block g (h.all.lt g hg).2 (h.ax g hg).2.1, h.xy, h.gx, h.gy, h.mx, h.ax,
    h.bel.trans (hk.to_below (fun b hb => by show b ≠ y; have := h.gy; omega) h.bel.size)⟩
theorem SoSt.wa (h : SoSt w wr x y a mv av Mx N Ma) {v' : Value} {M' : List UInt8} (ho : Own w' w.heap.size v' M') (hb : v'.ownBlock = av.ownBlock ∨ v'.ownBlock = some wr.heap.size) (hg : wr.grownBy w' av.ownBlock) : SoSt w w' x y a mv v' Mx N M' := by
  refine ⟨h.dx.move (hg.block x h.dx.lt (fun e => (h.ax x e.symm).1 rfl)), h.dy.move (hg.block y h.dy.lt (fun e => (h.ax y e.symm).2.1 rfl)), h.mine.move fun g q => hg.block g (h.mine.lt g q).2 (fun e => (h.ax g e.symm).2.2 q), ho, h.xy, h.gx, h.gy, h.mx, ?_, h.bel.grown hg h.bel.size (fun g e => (h.all.lt g e).1)⟩
  intro g e
  rcases hb with q | q
  · exact h.ax g (q ▸ e)
  · rw [q] at e
    obtain rfl := Option.some.inj e
    have := h.dx.lt
    have := h.dy.lt
    exact ⟨by omega, by omega, fun q => by have := (h.mine.lt _ q).2; omega⟩
/-- an owned slice of bytes as Write wants it -/
theorem Own.rn {g : Nat} {v : Value} {l : List UInt8} {base : Nat} (h : Own w base v l) (hg : ∀ k, v.ownBlock = some k → k ≠ g) : ∃ A c, v = .slice A l.length c ∧ l.length ≤ c ∧ c ≤ 9223372036854775807 ∧ RN w w.heap.size g A l ∧ (A = none → c = 0) := by
  rcases h.2 with ⟨rfl, h0⟩ | ⟨k, cap, cur, rfl, hb, hh, hn, hm, hs, ht⟩
  · have : l = [] := List.eq_nil_of_length_eq_zero h0
    subst this
    exact ⟨none, 0, rfl, Nat.le_refl _, by omega, RN.nil _ _ _ _, fun _ => rfl⟩
  · refine ⟨_, cap, rfl, hn, by unfold maxLen at hm; omega, fun i x hx => ⟨k, 0, rfl, (Array.getElem?_eq_some_iff.1 hh).1, hg k rfl, ?_⟩, fun e => by cases e⟩
    have := World.ownsRow.cells (e := 5) (size := 1) h rfl i (bv x) (by simp [bvs, hx])
    rw [add_flat] at this
    exact this
end
def rep (k : Nat) (a : List UInt8) : List UInt8 := (List.replicate k a).flatten
theorem rep_succ (k : Nat) (a : List UInt8) : rep (k + 1) a = rep k a ++ a := by unfold rep; rw [List.replicate_succ', List.flatten_append]; simp
theorem rep_len (k : Nat) (a : List UInt8) : (rep k a).length = k * a.length := by
  induction k with
  | zero => simp [rep]
  | succ k ih => rw [rep_succ, List.length_append, ih, Nat.add_mul]; omega
/-- a digest's sum, by a name of its own -/
theorem sum_is (x : Nat) (M : List UInt8) (H : Array Value) (hH : H = (bvs (shaL M)).toArray) (W : World) (hT : NT W) (hd : DgAt W x M) (hM : M.length ≤ 800000) : Calls Tryd.prog 13 #[.pointer (some ⟨x, 0, none⟩)] W fun e w' => e = .returned (.agg H) ∧ Below W.heap.size W w' := by
  rw [hH]
  exact sum_any x M W hT hd (by omega)
/-- and the sum of one slice -/
theorem sums_is (A : Option Addr) (M : List UInt8) (c m : Nat) (hm : m = M.length) (H : Array Value) (hH : H = (bvs (shaL M)).toArray) (W : World) (hT : NT W) (hr : RB W W.heap.size A M) (hc : M.length ≤ c) (hcm : c ≤ 9223372036854775807) (hn : A = none → c = 0) (hM : M.length ≤ 800000) :
    Calls Tryd.prog 9 #[.slice (some ⟨W.heap.size, 0, none⟩) 1 1] (W.alloc (.cells #[.slice A m c] 24)) fun e w' => e = .returned (.agg H) ∧ Below W.heap.size W w' := by
  subst hm
  have hb : Below W.heap.size W (W.alloc (.cells #[.slice A M.length c] 24)) := (Below.refl _ _).alloc (Nat.le_refl _) _
  have := sums_any (some ⟨W.heap.size, 0, none⟩) 1 [M] (W.alloc (.cells #[.slice A M.length c] 24)) (hT.below hb (Nat.le_refl _)) ((RWB.one W c 24 hr (Nat.le_refl _) hc hcm hn).wide (by simp)) (by simp) (by simpa using hM)
  refine Calls.mono this ?_
  rintro e w' ⟨rfl, h⟩
  exact ⟨by rw [hH]; simp, hb.trans (h.mono (by simp))⟩
section
set_option maxRecDepth 100000
set_option maxHeartbeats 2000000
theorem own_any (A : Option Addr) (a : List UInt8) (c : Nat) (A2 : Option Addr) (b : List UInt8) (c2 : Nat) (n : Int) (w : World) (hT : NT w) (ha : RB w w.heap.size A a) (hac : a.length ≤ c ∧ c ≤ 9223372036854775807 ∧ (A = none → c = 0)) (hb : RB w w.heap.size A2 b) (hbc : b.length ≤ c2 ∧ c2 ≤ 9223372036854775807 ∧ (A2 = none → c2 = 0)) :
    Calls Tryd.prog 6 #[.slice A a.length c, .slice A2 b.length c2, .int .i64 n] w fun e w' => e = .returned (.bool true) ∧ Below w.heap.size w w' := by
  have HT := Lib.hid hT
  have Hk := Lib.hid (known_any w hT)
  have HA := Lib.hid (And.intro ha hac)
  have HB := Lib.hid (And.intro hb hbc)
  obtain ⟨la, hla⟩ : ∃ la, la = a.length := ⟨_, rfl⟩
  obtain ⟨lb, hlb⟩ : ∃ lb, lb = b.length := ⟨_, rfl⟩
  have Hla := Lib.hid hla
  have Hlb := Lib.hid hlb
  rw [← hla, ← hlb]
  have eg := Tryd.eqGuardType28
  clear hT ha hac hb hbc hla hlb
  by_cases c0 : 4000 < (la : Int)
  case pos =>
    have c0n : 4000 < la := by omega
    go_enter Tryd.func6, Tryd.ntmps6
    go_wp2_with fail
    refine Hk.out.mono ?_
    rintro e w1 ⟨rfl, b1⟩
    have B1 := Lib.hid b1
    clear b1 Hk
    go_wp2_with fail
    go_ret
    exact ⟨rfl, B1.out⟩
  by_cases c1 : 4000 < (lb : Int)
  case pos =>
    have c0n : ¬ 4000 < la := by omega
    have c1n : 4000 < lb := by omega
    go_enter Tryd.func6, Tryd.ntmps6
    go_wp2_with fail
    refine Hk.out.mono ?_
    rintro e w1 ⟨rfl, b1⟩
    have B1 := Lib.hid b1
    clear b1 Hk
    go_wp2_with fail
    go_ret
    exact ⟨rfl, B1.out⟩
  have c0n : ¬ 4000 < la := by omega
  have c1n : ¬ 4000 < lb := by omega
  have e0 : decide (4000 < (la : Int)) = false := decide_eq_false c0
  have e1 : decide (4000 < (lb : Int)) = false := decide_eq_false c1
  have e2 : decide (4000 < la) = false := decide_eq_false c0n
  have e3 : decide (4000 < lb) = false := decide_eq_false c1n
  obtain ⟨z, hz⟩ : ∃ z, n.tmod 5 = z := ⟨_, rfl⟩
  have Hz : Hid (z < 5) := (show z < 5 by rw [← hz]; exact Int.tmod_lt_of_pos _ (by omega))
  go_enter Tryd.func6, Tryd.ntmps6
  go_wp2_with fail
  refine Hk.out.mono ?_
  rintro e w1 ⟨rfl, b1⟩
  have B1 := Lib.hid b1
  clear b1 Hk
  go_wp2_with fail
  refine (new_any w1).mono ?_
  rintro e w2 ⟨x, rfl, dx, b2, gx⟩
  have H2 : Hid (DgAt w2 x [] ∧ Below w.heap.size w w2 ∧ w.heap.size ≤ x) := ⟨dx, B1.out.trans (b2.mono B1.out.size), by have := B1.out.size; omega⟩
  clear dx b2 gx B1
  go_wp2_with fail
  refine (new_any w2).mono ?_
  rintro e w3 ⟨y, rfl, dy, b3, gy⟩
  have H3 : Hid (DgAt w3 x [] ∧ DgAt w3 y [] ∧ Below w.heap.size w w3 ∧ w.heap.size ≤ x ∧ w.heap.size ≤ y ∧ x ≠ y) := ⟨H2.out.1.move (b3.block _ H2.out.1.lt), dy, H2.out.2.1.trans (b3.mono H2.out.2.1.size), H2.out.2.2, by have := H2.out.2.1.size; omega, by have := H2.out.1.lt; omega⟩
  clear dy b3 gy H2
  have Hm := Lib.hid (Own.made w3 w.heap.size H3.out.2.2.1.size)
  have Hax := Lib.hid (HA.out.1.below (H3.out.2.2.1.alloc H3.out.2.2.1.size (.cells #[] 5)))
  have Hs4 : Hid (([] : List UInt8).length + a.length ≤ 140737488355327 ∧ w.heap.size ≤ (w3.alloc (.cells #[] 5)).heap.size) := ⟨by have := Hla.out; simp; omega, by have := H3.out.2.2.1.size; simp; omega⟩
  go_wp2_with (at_builtin; go_must (refine app_bytes2 rfl (.tmp 32) (.tmp 33) rfl w.heap.size _ [] rfl Hm.out w.heap.size A la c a rfl Hla.out Hax.out Hs4.out.1 Hs4.out.2 ?_); intro mv w4 hmv hb4 hg4; have H4 := Lib.hid (And.intro hmv (And.intro hb4 hg4)); clear hmv hb4 hg4)
  have H5 : Hid (SoSt w w4 x y a mv (.slice none 0 0) [] [] [] ∧ (z : Int) < 5) := by
    obtain ⟨q1, q2, q3⟩ := H4.out
    obtain ⟨p1, p2, p3, p4, p5, p6⟩ := H3.out
    have l1 := p1.lt
    have l2 := p2.lt
    have hA : Below w3.heap.size w3 (w3.alloc (.cells #[] 5)) := (Below.refl _ _).alloc (Nat.le_refl _) _
    have g1 : ∀ b, b < w3.heap.size → w4.heap[b]? = w3.heap[b]? := fun b hb => (q3.block b (by simp; omega) (fun e => by have e' : some b = some w3.heap.size := e; injection e' with e'; omega)).trans (hA.block b hb)
    refine ⟨⟨p1.move (g1 x l1), p2.move (g1 y l2), q1, Own.nil _ _, p6, p4, p5, fun g e => ?_, (fun g e => by cases e), (p3.alloc p3.size _).grown q3 (p3.alloc p3.size _).size (fun g e => ?_)⟩, Hz.out⟩
    · have q4 : g = w3.heap.size ∨ g = w3.heap.size + 1 := by
        rcases q2 with q | q
        · have e' : some w3.heap.size = some g := q.symm.trans e
          injection e' with e'; exact .inl e'.symm
        · have e' : some (w3.alloc (.cells #[] 5)).heap.size = some g := q.symm.trans e
          injection e' with e'; exact .inr (by rw [← e']; simp)
      omega
    · have e' : some w3.heap.size = some g := e
      injection e' with e'; have := p3.size; omega
  obtain ⟨Am, cm, rfl, hcm1, hcm2, -, hcm3⟩ := H5.out.1.mine.rn (g := x) (fun k e => (H5.out.1.mx k e).1)
  have Hcm := Lib.hid (And.intro hcm1 (And.intro hcm2 hcm3))
  rw [← Hla.out] at H5 ⊢
  clear H4 H3 Hm Hax Hs4 hcm1 hcm2 hcm3 hz Hz e0 e1 e2 e3 c0n c1n
  go_loopw [9, 11] (fun av iv wr => ∃ k : Nat, iv = .int .i64 (k : Int) ∧ k ≤ 5 ∧ (k = 0 ∨ (k : Int) ≤ z) ∧ Hid (SoSt w wr x y a (.slice Am la cm) av (rep k a) (rep k b) (rep k a))) (fun _ iv _ => (z - intOf iv).toNat)
  case atStart => exact ⟨0, rfl, Nat.zero_le _, .inl rfl, H5.out.1⟩
  case round =>
    obtain ⟨k, rfl, hk, hkz0, Hs⟩ := hrel
    have hkz := Lib.hid hkz0
    clear hkz0
    have hz5 : Hid (z < 5) := H5.out.2
    clear H5
    have hki : (k : Int) ≤ 5 := by omega
    by_cases hlt : (k : Int) < z
    case pos =>
      have hk4 : k ≤ 4 := by have := hz5.out; omega
      have Hrl : Hid ((rep k a).length ≤ 20000 ∧ (rep (k + 1) a).length ≤ 20000 ∧ (rep k b).length ≤ 20000) := by
        rw [rep_len, rep_len, rep_len, ← Hla.out, ← Hlb.out]
        have q1 : k * la ≤ 5 * 4000 := Nat.mul_le_mul (by omega) (by omega)
        have q2 : (k + 1) * la ≤ 5 * 4000 := Nat.mul_le_mul (by omega) (by omega)
        have q3 : k * lb ≤ 5 * 4000 := Nat.mul_le_mul (by omega) (by omega)
        exact ⟨by omega, by omega, by omega⟩
      obtain ⟨Aq, cq, hq0, hq1, hq2, hq3, hq4⟩ := Hs.out.mine.rn (g := x) (fun k e => (Hs.out.mx k e).1)
      injection hq0 with hq5 hqx hq6
      clear hqx
      subst hq5 hq6
      have Hw1 := Lib.hid (write_any' x (rep k a) a Am la cm wr (HT.out.below Hs.out.bel (Nat.le_refl _)) (by have := HT.out.2; have := Hs.out.gx; omega) Hs.out.dx Hla.out hq3 hq1 hq2 hq4 (by have := Hrl.out; omega) (by have := Hla.out; omega))
      clear hq1 hq2 hq3 hq4
      go_wp2_with fail
      refine Hw1.out.mono ?_
      rintro e w5 ⟨rfl, h5, k5⟩
      have Hs5 := Lib.hid (Hs.out.wx h5 k5)
      clear h5 k5 Hw1 Hs
      have Hw2 := Lib.hid (write_any' y (rep k b) b A2 lb c2 w5 (HT.out.below Hs5.out.bel (Nat.le_refl _)) (by have := HT.out.2; have := Hs5.out.gy; omega) Hs5.out.dy Hlb.out ((RN.of_rb (HB.out.1.below Hs5.out.bel) Hs5.out.gy).wide Hs5.out.bel.size) HB.out.2.1 HB.out.2.2.1 HB.out.2.2.2 (by have := Hrl.out; omega) (by have := Hlb.out; omega))
      go_wp2_with fail
      refine Hw2.out.mono ?_
      rintro e w6 ⟨rfl, h6, k6⟩
      have Hs6 := Lib.hid (Hs5.out.wy h6 k6)
      clear h6 k6 Hw2 Hs5
      have Hra := Lib.hid (HA.out.1.below Hs6.out.bel)
      have Hln : Hid ((rep k a).length + a.length ≤ 140737488355327) := (show _ ≤ _ by have := Hrl.out; have := Hla.out; omega)
      go_wp2_with (at_builtin; go_must (refine app_bytes2 rfl (.tmp 46) (.tmp 47) rfl w.heap.size _ (rep k a) rfl Hs6.out.all w.heap.size A la c a rfl Hla.out Hra.out Hln.out Hs6.out.bel.size ?_); intro v7 w7 hv7 hb7 hg7; have hs7 := Hs6.out.wa hv7 hb7 hg7; have Hs7 := Lib.hid hs7; clear hs7; obtain ⟨A7, c7, rfl, hc71, hc72, -, hc73⟩ := Hs7.out.all.rn (g := x) (fun k e => (Hs7.out.ax k e).1); have Hc7 := Lib.hid (And.intro hc71 (And.intro hc72 hc73)); obtain ⟨m7, hm7⟩ : ∃ m, m = (rep k a ++ a).length := ⟨_, rfl⟩; rw [← hm7] at Hs7 ⊢; have Hm7 := Lib.hid hm7; clear hv7 hb7 hg7 hc71 hc72 hc73 Hs6 hm7)
      obtain ⟨H, hH⟩ : ∃ H, H = (bvs (shaL (rep k a ++ a))).toArray := ⟨_, rfl⟩
      have HHd := Lib.hid hH
      have heq : ∀ w, (Op.equalIn 10000 28 (.agg H) (.agg H)).run Tryd.prog w = .ok true w := by rw [hH]; exact fun w => eq_same _ (shaL_len _) w
      have Hml : Hid ((rep k a ++ a).length ≤ 800000) := (show _ ≤ _ by rw [← rep_succ]; have := Hrl.out; omega)
      have Hsm := Lib.hid (fun W (h : SoSt w W x y a (.slice Am la cm) (.slice A7 m7 c7) (rep k a ++ a) (rep k b ++ b) (rep k a ++ a)) => sum_is x (rep k a ++ a) H HHd.out W (HT.out.below h.bel (Nat.le_refl _)) h.dx Hml.out)
      have Hss : Hid (∀ W, SoSt w W x y a (.slice Am la cm) (.slice A7 m7 c7) (rep k a ++ a) (rep k b ++ b) (rep k a ++ a) → Calls Tryd.prog 9 #[.slice (some ⟨W.heap.size, 0, none⟩) 1 1] (W.alloc (.cells #[.slice A7 m7 c7] 24)) fun e w' => e = .returned (.agg H) ∧ Below W.heap.size W w') := by
        intro W h
        obtain ⟨Ar, cr, hr0, hr1, hr2, hr3, hr4⟩ := h.all.rn (g := x) (fun k e => (h.ax k e).1)
        injection hr0 with hr5 _ hr6
        subst hr5 hr6
        exact sums_is A7 (rep k a ++ a) c7 m7 Hm7.out H HHd.out W (HT.out.below h.bel (Nat.le_refl _)) hr3.rb hr1 hr2 hr4 Hml.out
      clear hH
      refine (Hsm.out _ Hs7.out).mono ?_
      rintro e w8 ⟨rfl, b8⟩
      have Hs8 := Lib.hid (Hs7.out.below b8)
      clear b8 Hs7
      go_wp2_with fail
      refine (Hss.out _ Hs8.out).mono ?_
      rintro e w9 ⟨rfl, b9⟩
      have Hs9 := Lib.hid (Hs8.out.below b9)
      clear b9 Hs8
      go_wp2_with fail
      refine (Hsm.out _ Hs9.out).mono ?_
      rintro e w10 ⟨rfl, b10⟩
      have Hs10 := Lib.hid (Hs9.out.below b10)
      clear b10 Hs9
      go_wp2_with fail
      refine (Hss.out _ Hs10.out).mono ?_
      rintro e w11 ⟨rfl, b11⟩
      have Hs11 := Lib.hid (Hs10.out.below b11)
      clear b11 Hs10
      obtain ⟨sx, hsx⟩ : ∃ sx, sx = (⟨a.toArray⟩ : ByteArray) := ⟨_, rfl⟩
      have t1 : (convert 24 9 (.slice Am la cm)).run Tryd.prog w11 = .ok (.string sx) w11 := by
        obtain ⟨Ar, cr, hr0, hr1, hr2, hr3, hr4⟩ := Hs11.out.mine.rn (g := x) (fun k e => (Hs11.out.mx k e).1)
        injection hr0 with hr5 _ hr6
        subst hr5 hr6
        rw [hsx, Hla.out]
        exact text_run w11 w11.heap.size Am a cm hr3.rb
      have t2 : (convert 24 9 (.slice A la c)).run Tryd.prog w11 = .ok (.string sx) w11 := by
        rw [hsx, Hla.out]
        exact text_run w11 w.heap.size A a c (HA.out.1.below Hs11.out.bel)
      clear hsx
      go_wp2_with fail
      go_roundw
      case rel => exact ⟨k + 1, (by first | rfl | simp), by omega, .inr (by omega), by rw [rep_succ, rep_succ]; exact Hs11⟩
      case measure => simp [intOf]; omega
    case neg =>
      obtain ⟨A9, c9, rfl, hc91, hc92, -, hc93⟩ := Hs.out.all.rn (g := x) (fun k e => (Hs.out.ax k e).1)
      obtain ⟨m9, hm9⟩ : ∃ m, m = (rep k a).length := ⟨_, rfl⟩
      have Hln := Lib.hid (len_any x (rep k a) wr Hs.out.dx)
      rw [← hm9] at Hs Hln ⊢
      clear hc91 hc92 hc93 hm9
      by_cases hz0 : 0 < z
      case pos =>
        have Hb := Lib.hid Hs.out.bel
        go_wp2_with fail
        refine Hln.out.mono ?_
        rintro e w' ⟨rfl, rfl⟩
        go_wp2_with fail
        go_ret
        exact ⟨rfl, Hb.out⟩
      case neg =>
        have hk0 : k = 0 := by have := hkz.out; omega
        have hd0 : Hid (DgAt wr x [] ∧ Below w.heap.size w wr) := by
          have h := Hs.out.dx
          rw [hk0] at h
          exact ⟨h, Hs.out.bel⟩
        obtain ⟨H, hH⟩ : ∃ H, H = (bvs (shaL [])).toArray := ⟨_, rfl⟩
        have HHd := Lib.hid hH
        have heq : ∀ w, (Op.equalIn 10000 28 (.agg H) (.agg H)).run Tryd.prog w = .ok true w := by rw [hH]; exact fun w => eq_same _ (shaL_len _) w
        have Hsm := Lib.hid (sum_is x [] H HHd.out wr (HT.out.below hd0.out.2 (Nat.le_refl _)) hd0.out.1 (by simp))
        clear hk0 Hs hH hkz
        go_wp2_with fail
        refine Hln.out.mono ?_
        rintro e w' ⟨rfl, rfl⟩
        go_wp2_with fail
        refine Hsm.out.mono ?_
        rintro e w8 ⟨rfl, b8⟩
        have B8 : Hid (Below w.heap.size w w8) := hd0.out.2.trans (b8.mono hd0.out.2.size)
        clear b8 Hsm hd0
        go_wp2_with fail
        refine (sums_any none 0 [] w8 (HT.out.below B8.out (Nat.le_refl _)) (RWB.nil _ _ _) (by simp) (by simp)).mono ?_
        rintro e w9 ⟨rfl, b9⟩
        have B9 : Hid (Below w.heap.size w w9) := B8.out.trans (b9.mono B8.out.size)
        rw [show ([] : List (List UInt8)).flatten = [] from rfl, ← HHd.out]
        clear b9 B8
        go_wp2_with fail
        go_ret
        exact ⟨rfl, B9.out⟩
end
end Go.Proofs.YtabhpgacnenacaaDoor
