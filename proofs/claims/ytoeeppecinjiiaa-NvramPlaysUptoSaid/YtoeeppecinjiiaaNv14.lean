/-
  The law's device is written.
-/
import Derived.Test.YtoeeppecinjiiaaNv13
import Derived.Deep.RegionHeld3
namespace Go.Proofs.Ytoeeppecinjiiaa
open Go.RowKit

theorem info_put : (Try.prog.info? 54).map (fun i => (i.zero, i.size, i.bytes)) = some (some (.agg #[.int .i64 0, .int .u8 0]), 2, 16) := by kernel_rfl
theorem cell_new2 (w : World) (u v : Value) (t : TypeId) : (w.alloc (.cells #[u, v] t)).cell? ⟨w.heap.size, 0, none⟩ = some u ∧ (w.alloc (.cells #[u, v] t)).cell? ⟨w.heap.size, 1, none⟩ = some v :=
  ⟨(Cells.new w #[u, v] t).cell (i := 0) rfl, (Cells.new w #[u, v] t).cell (i := 1) rfl⟩
theorem step_app_put {w : World} {ops : Array Oper} {K : Act → World → Prop} {E : Prop} {o : Oper} {a : Act} {Q : Exit → Act → World → Prop} (hgd : o.guard = none) (s x : Operand)
    (ho : o.op = .call { callee := .builtin .append, args := #[s, x], argTypes := #[46, 46] })
    (base : Nat) (v : Value) (M : Nat) (xs : List Value) (hs : a.eval s = v) (hown : w.ownsRow base 54 2 v M xs)
    (g c : Nat) (u1 u2 : Value) (hx : a.eval x = .slice (some ⟨g, 0, none⟩) 1 c) (hc : w.cell? ⟨g, 0, none⟩ = some u1 ∧ w.cell? ⟨g, 1, none⟩ = some u2) (h1 : u1.oneCell' = true) (h2 : u2.oneCell' = true)
    (hlen : M + 1 ≤ 2199023255552) (hbase : base ≤ w.heap.size)
    (h : ∀ v' w', w'.ownsRow base 54 2 v' (M + 1) (xs ++ [u1, u2]) → w.grownBy w' v.ownBlock → (v'.ownBlock = v.ownBlock ∨ v'.ownBlock = some w.heap.size) → K (a.put o.dst v') w') :
    if Region.wanted o (yielded ops a.tmps) = true then Oper.wp Try.prog o a w K Q else E := by
  obtain ⟨i0, hi0, hz0, hz1, hz2⟩ := info_parts info_put
  have hw : Region.wanted o (yielded ops a.tmps) = true := by simp [Region.wanted, hgd]
  rw [if_pos hw]
  obtain ⟨v', w', hrun, r2, r3, _, r5⟩ := run_append_own_at (P := Try.prog) w base 46 o.type 54 i0 (.agg #[.int .i64 0, .int .u8 0]) 2 16 Try.underlying46 hi0 hz0 hz1 hz2 rfl (by omega) v M xs hown ⟨g, 0, none⟩ 1 c [u1, u2]
    rfl (fun j u hu => by
      rw [add_flat, Nat.zero_add]
      match j with
      | 0 => simp at hu; subst hu; exact hc.1
      | 1 => simp at hu; subst hu; exact hc.2
      | j + 2 => simp at hu) (fun u hu => by
        rcases List.mem_cons.1 hu with rfl | hu
        · exact h1
        · rw [List.mem_singleton] at hu; subst hu; exact h2) (by simp only [maxLen]; omega) (by omega) hbase
  unfold Oper.wp execOp
  simp only [ho, resolve, invoke, builtin, Sem.run_bind, Sem.run_pure, Result.andThen_ok, List.map_toArray, List.map_cons, List.map_nil, hs, hx]
  rw [show (Builtin.append_ #[46, 46] o.type #[v, .slice (some ⟨g, 0, none⟩) 1 c]).run Try.prog w = .ok v' w' from hrun]
  exact h v' w' r2 r3 r5

/-- one byte more, seen from its end -/
theorem rwrite_facts {w wr W9 : World} {Q Q1 : Nat → Option Tag} {rd a k : Nat} {R : Ref} {bs : List UInt8} {x : UInt8} {kv lv v9 : Value} {o : Obj} (h : RefAt wr Q1 rd (R.write a (bs.take k))) (hx : Ext w Q wr Q1) (hk : bs[k]? = some x) (ha : a + k < R.kept.length)
    (c : Cells wr rd 48 [kv, lv]) (t : Q1 rd = some .nv) (k1 : Own wr 0 kv R.kept) (k2 : ∀ g, kv.ownBlock = some g → Q1 g = some .bytes) (l1 : wr.ownsRow 0 54 2 lv (R.write a (bs.take k)).l.length (rowsOf (R.write a (bs.take k)).l)) (l2 : ∀ g, lv.ownBlock = some g → Q1 g = some .undos)
    (hown : W9.ownsRow 0 54 2 v9 ((R.write a (bs.take k)).l.length + 1) (rowsOf (R.write a (bs.take k)).l ++ [.int .i64 ((a : Int) + (k : Int)), .int .u8 (x.toNat : Int)])) (hg : (wr.alloc o).grownBy W9 lv.ownBlock) (hb : v9.ownBlock = lv.ownBlock ∨ v9.ownBlock = some (wr.alloc o).heap.size) :
    W9.cell? ⟨rd, 1, none⟩ = some lv ∧ W9.frozen? ⟨rd, 1, none⟩ = false ∧ (∀ (b i : Nat) (u : Value), Q b = none → b < w.heap.size → wr.cell? ⟨b, i, none⟩ = some u → W9.cell? ⟨b, i, none⟩ = some u ∧ (W9.setCell ⟨rd, 1, none⟩ v9).cell? ⟨b, i, none⟩ = some u) ∧ ∃ Q2, RefAt (W9.setCell ⟨rd, 1, none⟩ v9) Q2 rd (R.write a (bs.take (k + 1))) ∧ Ext w Q (W9.setCell ⟨rd, 1, none⟩ v9) Q2 := by
  have hrd := c.lt
  have hlrd : lv.ownBlock ≠ some rd := fun e => by have := l2 rd e; rw [t] at this; cases this
  have k9 : Kept (fun b => lv.ownBlock ≠ some b) wr W9 := ((Kept.refl _ wr).alloc o).grown hg (fun g e h => h e)
  have cn := c.move (k9.block rd hrd hlrd)
  have hv9 : ∀ g, v9.ownBlock = some g → g < W9.heap.size := fun g hg => (World.ownsRow.lt hown g hg).2
  have hv9n : ∀ g, v9.ownBlock = some g → lv.ownBlock = some g ∨ wr.heap.size ≤ g := by
    intro g hg
    rcases hb with e | e
    · exact .inl (e ▸ hg)
    · rw [e] at hg; cases hg; exact .inr (by simp)
  have hv9rd : v9.ownBlock ≠ some rd := by
    intro e
    rcases hv9n rd e with q | q
    · exact hlrd q
    · omega
  have kS : Kept (fun b => b ≠ rd) W9 (W9.setCell ⟨rd, 1, none⟩ v9) := (Kept.refl _ W9).setCell (fun q => q rfl) v9
  have kall : Kept (fun b => lv.ownBlock ≠ some b ∧ b ≠ rd) wr (W9.setCell ⟨rd, 1, none⟩ v9) := ⟨kS.os.trans k9.os, kS.tape.trans k9.tape, kS.output.trans k9.output, Nat.le_trans k9.size kS.size, fun b hb q => (kS.block b (Nat.lt_of_lt_of_le hb k9.size) q.2).trans (k9.block b hb q.1)⟩
  have hQ1 : ∀ b, Q1 b = none → lv.ownBlock ≠ some b ∧ b ≠ rd := fun b hb => ⟨(fun e => by rw [l2 b e] at hb; cases hb), (fun e => by rw [e, t] at hb; cases hb)⟩
  have hsz : (W9.setCell ⟨rd, 1, none⟩ v9).heap.size = W9.heap.size := by simp [World.setCell]
  have elen : (R.write a (bs.take (k + 1))).l = (R.write a (bs.take k)).l ++ [(a + k, x)] := by
    have hkl := (List.getElem?_eq_some_iff.1 hk).1
    have e : bs.take (k + 1) = bs.take k ++ [x] := by
      rw [List.take_add_one, hk]; rfl
    rw [e]
    simp only [Ref.write, putsOf_append, putsOf, List.append_assoc]
    rw [List.length_take, Nat.min_eq_left (by omega)]
  refine ⟨cn.cell rfl, cn.frozen 1, fun b i u hq hlt hu => ?_, fun b => if b < wr.heap.size then Q1 b else if v9.ownBlock = some b then some .undos else none, ⟨fun b hq => ?_, ⟨kv, v9, cn.set 1 v9, ?_, ?_, fun g hg => ?_, ?_, fun g hg => ?_⟩, h.low, h.high, ?_⟩, ?_⟩
  · have hq1 := hQ1 b ((hx.2 b hlt).trans hq)
    have hlt1 := Nat.lt_of_lt_of_le hlt hx.1.size
    exact ⟨(World.cell?_of_block (w := wr) (k9.block b hlt1 hq1.1)).trans hu, (World.cell?_of_block (w := wr) (kall.block b hlt1 hq1)).trans hu⟩
  · rw [hsz]
    by_cases q1 : b < wr.heap.size
    · exact Nat.lt_of_lt_of_le q1 k9.size
    · simp only [if_neg q1] at hq
      by_cases q2 : v9.ownBlock = some b
      · exact hv9 b q2
      · rw [if_neg q2] at hq; exact absurd rfl hq
  · show (if _ then _ else _) = _
    rw [if_pos hrd]; exact t
  · have : Own wr 0 kv (R.write a (bs.take (k + 1))).kept := k1
    exact Own.move this fun g hg => kall.block g (Own.lt k1 g hg).2 ⟨(fun e => by have := l2 g e; rw [k2 g hg] at this; cases this), (fun e => by have := k2 g hg; rw [e, t] at this; cases this)⟩
  · show (if _ then _ else _) = _
    rw [if_pos (Own.lt k1 g hg).2]; exact k2 g hg
  · rw [elen, rowsOf_append, List.length_append]
    refine ownsRow_move (show W9.ownsRow 0 54 2 v9 _ _ from hown) fun g hg => kS.block g (hv9 g hg) (fun e => hv9rd (e ▸ hg))
  · show (if _ then _ else _) = _
    by_cases q1 : g < wr.heap.size
    · rw [if_pos q1]
      rcases hv9n g hg with q | q
      · exact l2 g q
      · omega
    · rw [if_neg q1, if_pos hg]
  · intro p hp
    rw [elen] at hp
    rcases List.mem_append.1 hp with hp | hp
    · exact h.places p hp
    · rw [List.mem_singleton] at hp
      subst hp
      exact ha
  · refine hx.trans ⟨kall.mono fun b _ hb => hQ1 b hb, fun b hlt => ?_⟩
    show (if _ then _ else _) = _
    rw [if_pos hlt]

set_option maxRecDepth 20000 in
set_option maxHeartbeats 4000000 in
theorem rwrite_any (rd a : Nat) (R : Ref) (Q : Nat → Option Tag) (A : Option Addr) (cp : Nat) (bs : List UInt8) (w : World) (h : RefAt w Q rd R) (hr : RB w w.heap.size A bs) (hA : bs ≠ [] → ∀ ad, A = some ad → Q ad.block = none) (hf : a + bs.length ≤ R.kept.length) (hl : R.l.length + bs.length ≤ 1099511627776) :
    Calls Try.prog 13 #[.pointer (some ⟨rd, 0, none⟩), .int .i64 (a : Int), .slice A bs.length cp] w (RefPost w Q rd (R.write a bs) (.tuple #[])) := by
  have hhi := h.high
  have Hround : Hid (∀ k, k < bs.length → ∃ x, bs[k]? = some x ∧ ∃ b o, A = some ⟨b, o, none⟩ ∧ ∀ wr Q1, RefAt wr Q1 rd (R.write a (bs.take k)) → Ext w Q wr Q1 → ∃ Al cl, wr.cell? ⟨rd, 1, none⟩ = some (.slice Al (R.l.length + k) cl) ∧ wr.cell? ⟨b, o + k, none⟩ = some (.int .u8 (x.toNat : Int)) ∧ b < wr.heap.size ∧ wr.ownsRow 0 54 2 (.slice Al (R.l.length + k) cl) (R.l.length + k) (rowsOf (R.write a (bs.take k)).l) ∧
      ∀ W9 v9 o9, W9.ownsRow 0 54 2 v9 (R.l.length + k + 1) (rowsOf (R.write a (bs.take k)).l ++ [.int .i64 ((a : Int) + (k : Int)), .int .u8 (x.toNat : Int)]) → (wr.alloc o9).grownBy W9 (Value.slice Al (R.l.length + k) cl).ownBlock → (v9.ownBlock = (Value.slice Al (R.l.length + k) cl).ownBlock ∨ v9.ownBlock = some (wr.alloc o9).heap.size) →
        (∃ A9 n9 c9, v9 = .slice A9 n9 c9) ∧ W9.cell? ⟨rd, 1, none⟩ = some (.slice Al (R.l.length + k) cl) ∧ W9.frozen? ⟨rd, 1, none⟩ = false ∧ W9.cell? ⟨b, o + k, none⟩ = some (.int .u8 (x.toNat : Int)) ∧ (W9.setCell ⟨rd, 1, none⟩ v9).cell? ⟨b, o + k, none⟩ = some (.int .u8 (x.toNat : Int)) ∧ ∃ Q2, RefAt (W9.setCell ⟨rd, 1, none⟩ v9) Q2 rd (R.write a (bs.take (k + 1))) ∧ Ext w Q (W9.setCell ⟨rd, 1, none⟩ v9) Q2) := by
    intro k hk
    have h0 : 0 < bs.length := by omega
    obtain ⟨b, o, rfl, hbl⟩ := hr.flat h0
    have hx := List.getElem?_eq_getElem hk
    refine ⟨bs[k], hx, b, o, rfl, fun wr Q1 g1 g2 => ?_⟩
    have hQ := hA (fun e => by rw [e] at h0; simp at h0) _ rfl
    obtain ⟨kv, lv, c, t, k1, k2, l1, l2⟩ := g1.cells
    have hlen : (R.write a (bs.take k)).l.length = R.l.length + k := by
      simp only [Ref.write, List.length_append, putsOf_length, List.length_take]
      omega
    obtain ⟨Al, cl, rfl, _⟩ := ownsRow_rd l1
    have hcell : w.cell? ⟨b, o + k, none⟩ = some (.int .u8 (bs[k].toNat : Int)) := by
      obtain ⟨ad, e, _, hc⟩ := hr k _ hx
      cases e
      rw [add_flat] at hc
      exact hc
    have hcr := (World.cell?_of_block (w := w) (w' := wr) (a := ⟨b, o + k, none⟩) (g2.1.block b hbl hQ)).trans hcell
    rw [hlen] at c l1 l2
    refine ⟨Al, cl, c.cell rfl, hcr, Nat.lt_of_lt_of_le hbl g2.1.size, l1, fun W9 v9 o9 q1 q2 q3 => ?_⟩
    obtain ⟨s1, s2, s3, s4⟩ := rwrite_facts (v9 := v9) (o := o9) g1 g2 hx (by omega) c t k1 k2 (by rw [hlen]; exact l1) l2 (by rw [hlen]; exact q1) q2 q3
    obtain ⟨A9, c9, e9, _⟩ := ownsRow_rd q1
    exact ⟨⟨_, _, _, e9⟩, s1, s2, (s3 b (o + k) _ hQ hbl hcr).1, (s3 b (o + k) _ hQ hbl hcr).2, s4⟩
  have Hst : Hid (∃ Q1, RefAt w Q1 rd (R.write a (bs.take 0)) ∧ Ext w Q w Q1) := ⟨Q, by simpa [Ref.write, putsOf] using h, Ext.refl _ _⟩
  have Hend : Hid (R.write a (bs.take bs.length) = R.write a bs) := by show _ = _; rw [List.take_length]
  generalize bs.length = n at *
  have hM : R.l.length + n ≤ 1099511627776 := hl
  generalize R.l.length = M at *
  have hfn : (a : Int) + (n : Int) ≤ 67108864 := by omega
  clear h hr hA hf hl hhi
  go_enter Try.func13, Try.ntmps13
  go_wp2_with fail
  go_loopw [6] (fun iv wr => ∃ k : Nat, iv = .int .i64 (k : Int) ∧ k ≤ n ∧ Hid (∃ Q1, RefAt wr Q1 rd (R.write a (bs.take k)) ∧ Ext w Q wr Q1)) (fun iv _ => n - (intOf iv).toNat)
  case atStart => exact ⟨0, rfl, Nat.zero_le _, Hst.out⟩
  case round =>
    obtain ⟨k, rfl, hk, hrel⟩ := hrel
    by_cases hlt : k < n
    case neg =>
      obtain rfl : k = n := by omega
      have Hfin : Hid (RefPost w Q rd (R.write a bs) (.tuple #[]) (.returned (.tuple #[])) wr) := by
        obtain ⟨Q1, g1, g2⟩ := hrel.out
        rw [Hend.out] at g1
        exact ⟨Q1, rfl, g1, g2⟩
      clear hlt
      go_wp2_with fail
      go_end0
      exact Hfin.out
    obtain ⟨x, _, b, o, rfl, hround⟩ := Hround.out k hlt
    obtain ⟨Q1, g1, g2⟩ := hrel.out
    obtain ⟨Al, cl, c1, z3, hbl, hown, hfin⟩ := hround wr Q1 g1 g2
    have HL := Lib.hid hown
    have Hfin := Lib.hid hfin
    have HZ : Hid (∀ o9 : Obj, (wr.alloc o9).cell? ⟨b, o + k, none⟩ = some (.int .u8 (x.toNat : Int))) := fun o9 => (World.cell?_alloc_lt wr o9 ⟨b, o + k, none⟩ (cell_lt z3)).trans z3
    have hal2 : ∀ o9 : Obj, (wr.alloc o9).cell? ⟨rd, 1, none⟩ = some (.slice Al (M + k) cl) := fun o9 => (World.cell?_alloc_lt wr o9 ⟨rd, 1, none⟩ (cell_lt c1)).trans c1
    have hk' : (k : Int) < (n : Int) := by omega
    have hak : (a : Int) + (k : Int) ≤ 67108864 := by omega
    have hwk : IntKind.i64.wrap ((a : Int) + (k : Int)) = (a : Int) + (k : Int) := IntWalk.i64_in _ (by omega)
    have hMk : M + k + 1 ≤ 2199023255552 := by omega
    generalize hXS : rowsOf (R.write a (bs.take k)).l = XS at *
    clear hXS hround hown hfin g1 g2 hbl
    go_wp2_with fail
    refine wp_region_noPanic ?_
    refine wp_region_held_drew (S := (fun W => W.cell? ⟨b, o + k, none⟩ = some (.int .u8 (x.toNat : Int)))) (by kernel_rfl) ?_ (fun hHeld => ?_)
    · try dsimp only
      (first | exact z3 | exact HZ.out _ | exact s3 | exact e3)
    refine wpAnyH_take (i := 0) (v := ?_) rfl (by kernel_rfl) (by kernel_rfl) (by kernel_rfl) (fun _ _ _ h => h) (Or.inl ⟨by rfl, ?_⟩) (by assumption) ?_
    rotate_left
    · intro w hSw
      try dsimp only at hSw
      simp only [List.getElem_toArray, List.getElem_cons_succ, List.getElem_cons_zero]
      go_simp
      try with_reducible rfl
    simp only [List.getElem_toArray, List.getElem_cons_succ, List.getElem_cons_zero]
    try simp only [Act.put, List.setIfInBounds_toArray, List.set_cons_zero, List.set_cons_succ]
    refine wpAnyH_take (i := 1) (v := ?_) rfl (by kernel_rfl) (by kernel_rfl) (by kernel_rfl) (fun _ _ _ h => h) (Or.inl ⟨by rfl, ?_⟩) (by assumption) ?_
    rotate_left
    · intro w hSw
      try dsimp only at hSw
      simp only [List.getElem_toArray, List.getElem_cons_succ, List.getElem_cons_zero]
      go_simp
      try with_reducible rfl
    simp only [List.getElem_toArray, List.getElem_cons_succ, List.getElem_cons_zero]
    try simp only [Act.put, List.setIfInBounds_toArray, List.set_cons_zero, List.set_cons_succ]
    refine wpAnyH_take (i := 2) (v := ?_) rfl (by kernel_rfl) (by kernel_rfl) (by kernel_rfl) (fun _ _ _ h => h) (Or.inl ⟨by rfl, ?_⟩) (by assumption) ?_
    rotate_left
    · intro w hSw
      try dsimp only at hSw
      simp only [List.getElem_toArray, List.getElem_cons_succ, List.getElem_cons_zero]
      go_simp
      try with_reducible rfl
    simp only [List.getElem_toArray, List.getElem_cons_succ, List.getElem_cons_zero]
    try simp only [Act.put, List.setIfInBounds_toArray, List.set_cons_zero, List.set_cons_succ]
    refine wpAnyH_take (i := 3) (v := ?_) rfl (by kernel_rfl) (by kernel_rfl) (by kernel_rfl) (fun _ _ _ h => h) (Or.inl ⟨by rfl, ?_⟩) (by assumption) ?_
    rotate_left
    · intro w hSw
      try dsimp only at hSw
      simp only [List.getElem_toArray, List.getElem_cons_succ, List.getElem_cons_zero]
      go_simp
      try with_reducible rfl
    simp only [List.getElem_toArray, List.getElem_cons_succ, List.getElem_cons_zero]
    try simp only [Act.put, List.setIfInBounds_toArray, List.set_cons_zero, List.set_cons_succ]
    refine wpAnyH_take (i := 5) (v := ?_) rfl (by kernel_rfl) (by kernel_rfl) (by kernel_rfl) (fun _ _ _ h => h) (Or.inl ⟨by rfl, ?_⟩) (by assumption) ?_
    rotate_left
    · intro w hSw
      try dsimp only at hSw
      simp only [List.getElem_toArray, List.getElem_cons_succ, List.getElem_cons_zero]
      go_simp
      try with_reducible rfl
    simp only [List.getElem_toArray, List.getElem_cons_succ, List.getElem_cons_zero]
    try simp only [Act.put, List.setIfInBounds_toArray, List.set_cons_zero, List.set_cons_succ]
    refine wpAnyH_take (i := 6) (v := ?_) rfl (by kernel_rfl) (by kernel_rfl) (by kernel_rfl) (fun _ _ _ h => h) (Or.inl ⟨by rfl, ?_⟩) (by assumption) ?_
    rotate_left
    · intro w hSw
      try dsimp only at hSw
      simp only [List.getElem_toArray, List.getElem_cons_succ, List.getElem_cons_zero]
      go_simp
      try with_reducible rfl
    simp only [List.getElem_toArray, List.getElem_cons_succ, List.getElem_cons_zero]
    try simp only [Act.put, List.setIfInBounds_toArray, List.set_cons_zero, List.set_cons_succ]
    refine wpAnyH_take (i := 7) (v := ?_) rfl (by kernel_rfl) (by kernel_rfl) (by kernel_rfl) (fun _ _ _ h => h) (Or.inl ⟨by rfl, ?_⟩) (by assumption) ?_
    rotate_left
    · intro w hSw
      try dsimp only at hSw
      simp only [List.getElem_toArray, List.getElem_cons_succ, List.getElem_cons_zero]
      go_simp
      try with_reducible rfl
    simp only [List.getElem_toArray, List.getElem_cons_succ, List.getElem_cons_zero]
    try simp only [Act.put, List.setIfInBounds_toArray, List.set_cons_zero, List.set_cons_succ]
    refine wpAnyH_take (i := 8) (v := ?_) rfl (by kernel_rfl) (by kernel_rfl) (by kernel_rfl) (fun _ _ _ h => h) (Or.inl ⟨by rfl, ?_⟩) (by assumption) ?_
    rotate_left
    · intro w hSw
      try dsimp only at hSw
      simp only [List.getElem_toArray, List.getElem_cons_succ, List.getElem_cons_zero]
      go_simp
      try with_reducible rfl
    simp only [List.getElem_toArray, List.getElem_cons_succ, List.getElem_cons_zero]
    try simp only [Act.put, List.setIfInBounds_toArray, List.set_cons_zero, List.set_cons_succ]
    refine wpAnyH_take (i := 9) (v := ?_) rfl (by kernel_rfl) (by kernel_rfl) (by kernel_rfl) (fun _ _ _ h => h) (Or.inl ⟨by rfl, ?_⟩) (by assumption) ?_
    rotate_left
    · intro w hSw
      try dsimp only at hSw
      simp only [List.getElem_toArray, List.getElem_cons_succ, List.getElem_cons_zero]
      go_simp
      try with_reducible rfl
    simp only [List.getElem_toArray, List.getElem_cons_succ, List.getElem_cons_zero]
    try simp only [Act.put, List.setIfInBounds_toArray, List.set_cons_zero, List.set_cons_succ]
    refine wpAnyH_take (i := 10) (v := ?_) rfl (by kernel_rfl) (by kernel_rfl) (by kernel_rfl) (fun _ _ _ h => h) (Or.inl ⟨by rfl, ?_⟩) (by assumption) ?_
    rotate_left
    · intro w hSw
      try dsimp only at hSw
      simp only [List.getElem_toArray, List.getElem_cons_succ, List.getElem_cons_zero]
      go_simp
      try with_reducible rfl
    simp only [List.getElem_toArray, List.getElem_cons_succ, List.getElem_cons_zero]
    try simp only [Act.put, List.setIfInBounds_toArray, List.set_cons_zero, List.set_cons_succ]
    refine wpAnyH_take (i := 11) (v := ?_) rfl (by kernel_rfl) (by kernel_rfl) (by kernel_rfl) (fun _ _ _ h => h) (Or.inl ⟨by rfl, ?_⟩) (by assumption) ?_
    rotate_left
    · intro w hSw
      try dsimp only at hSw
      simp only [List.getElem_toArray, List.getElem_cons_succ, List.getElem_cons_zero]
      go_simp
      try with_reducible rfl
    simp only [List.getElem_toArray, List.getElem_cons_succ, List.getElem_cons_zero]
    try simp only [Act.put, List.setIfInBounds_toArray, List.set_cons_zero, List.set_cons_succ]
    refine wpAnyH_take (i := 12) (v := ?_) rfl (by kernel_rfl) (by kernel_rfl) (by kernel_rfl) (fun _ _ _ h => h) (Or.inl ⟨by rfl, ?_⟩) (by assumption) ?_
    rotate_left
    · intro w hSw
      try dsimp only at hSw
      simp only [List.getElem_toArray, List.getElem_cons_succ, List.getElem_cons_zero]
      go_simp
      try with_reducible rfl
    simp only [List.getElem_toArray, List.getElem_cons_succ, List.getElem_cons_zero]
    try simp only [Act.put, List.setIfInBounds_toArray, List.set_cons_zero, List.set_cons_succ]
    refine wpAnyH_ready (rs := [4, 13]) (by kernel_rfl) (by simp) ?_
    refine AllReadyH.cons rfl (fun K hK => ?_) ?_
    · skip
      simp only [List.getElem_toArray, List.getElem_cons_succ, List.getElem_cons_zero]
      go_simp
      refine hK.out _ _ ?_ (fun hHeld => ?_)
      · try dsimp only
        (first | exact z3 | exact HZ.out _ | exact s3 | exact e3)
      clear hK K
      try simp only [List.getElem_toArray, List.getElem_cons_succ, List.getElem_cons_zero]
      try simp only [Act.put, List.setIfInBounds_toArray, List.set_cons_zero, List.set_cons_succ]
      refine wpAnyH_ready (rs := [13]) (by kernel_rfl) (by simp) ?_
      refine AllReadyH.cons rfl (fun K hK => ?_) ?_
      · skip
        simp only [List.getElem_toArray, List.getElem_cons_succ, List.getElem_cons_zero]
        go_simp
        refine hK.out _ _ ?_ (fun hHeld => ?_)
        · try dsimp only
          (first | exact z3 | exact HZ.out _ | exact s3 | exact e3)
        clear hK K
        try simp only [List.getElem_toArray, List.getElem_cons_succ, List.getElem_cons_zero]
        try simp only [Act.put, List.setIfInBounds_toArray, List.set_cons_zero, List.set_cons_succ]
        refine wpAnyH_ready (rs := [14]) (by kernel_rfl) (by simp) ?_
        refine AllReadyH.cons rfl (fun K hK => ?_) ?_
        · skip
          (skip; (refine step_app_put (by rfl) (.tmp 17) (.tmp 26) (by rfl) 0 (.slice Al (M + k) cl) (M + k) XS (by rfl) (World.ownsRow.alloc (w := wr.drew) HL.out _) wr.heap.size 1 (.int .i64 ((a : Int) + (k : Int))) (.int .u8 (x.toNat : Int)) (by rfl) (cell_new2 _ _ _ _) rfl rfl hMk (Nat.zero_le _) ?_); intro v9 W9 hown9 hg9 hb9)
          obtain ⟨⟨A9, n9, c9, rfl⟩, s2, sf, s3, e3, hend⟩ := Hfin.out W9 v9 _ hown9 ⟨hg9.os, hg9.tape, hg9.output, hg9.size, hg9.block⟩ hb9
          have Hend2 := Lib.hid hend
          clear hend hown9 hg9 hb9
          refine hK.out _ _ ?_ (fun hHeld => ?_)
          · try dsimp only
            (first | exact z3 | exact HZ.out _ | exact s3 | exact e3)
          clear hK K
          try simp only [List.getElem_toArray, List.getElem_cons_succ, List.getElem_cons_zero]
          try simp only [Act.put, List.setIfInBounds_toArray, List.set_cons_zero, List.set_cons_succ]
          refine wpAnyH_take (i := 15) (v := ?_) rfl (by kernel_rfl) (by kernel_rfl) (by kernel_rfl) (fun _ _ _ h => h) (Or.inl ⟨by rfl, ?_⟩) (by assumption) ?_
          rotate_left
          · intro w hSw
            try dsimp only at hSw
            simp only [List.getElem_toArray, List.getElem_cons_succ, List.getElem_cons_zero]
            go_simp
            try with_reducible rfl
          simp only [List.getElem_toArray, List.getElem_cons_succ, List.getElem_cons_zero]
          try simp only [Act.put, List.setIfInBounds_toArray, List.set_cons_zero, List.set_cons_succ]
          refine wpAnyH_take (i := 16) (v := ?_) rfl (by kernel_rfl) (by kernel_rfl) (by kernel_rfl) (fun _ _ _ h => h) (Or.inl ⟨by rfl, ?_⟩) (by assumption) ?_
          rotate_left
          · intro w hSw
            try dsimp only at hSw
            simp only [List.getElem_toArray, List.getElem_cons_succ, List.getElem_cons_zero]
            go_simp
            try with_reducible rfl
          simp only [List.getElem_toArray, List.getElem_cons_succ, List.getElem_cons_zero]
          try simp only [Act.put, List.setIfInBounds_toArray, List.set_cons_zero, List.set_cons_succ]
          refine wpAnyH_ready (rs := [17]) (by kernel_rfl) (by simp) ?_
          refine AllReadyH.cons rfl (fun K hK => ?_) ?_
          · skip
            simp only [List.getElem_toArray, List.getElem_cons_succ, List.getElem_cons_zero]
            go_simp
            refine hK.out _ _ ?_ (fun hHeld => ?_)
            · try dsimp only
              (first | exact z3 | exact HZ.out _ | exact s3 | exact e3)
            clear hK K
            try simp only [List.getElem_toArray, List.getElem_cons_succ, List.getElem_cons_zero]
            try simp only [Act.put, List.setIfInBounds_toArray, List.set_cons_zero, List.set_cons_succ]
            refine wpAnyH_done (by kernel_rfl) ?_ _
            refine NoPanic.normal ?_
            go_wp2_with fail
            go_roundw
            case rel => exact ⟨k + 1, by go_num, by omega, Hend2.out⟩
            case measure => simp [intOf]; omega
          exact AllReadyH.nil
        exact AllReadyH.nil
      exact AllReadyH.nil
    refine AllReadyH.cons rfl (fun K hK => ?_) ?_
    · skip
      simp only [List.getElem_toArray, List.getElem_cons_succ, List.getElem_cons_zero]
      go_simp
      refine hK.out _ _ ?_ (fun hHeld => ?_)
      · try dsimp only
        (first | exact z3 | exact HZ.out _ | exact s3 | exact e3)
      clear hK K
      try simp only [List.getElem_toArray, List.getElem_cons_succ, List.getElem_cons_zero]
      try simp only [Act.put, List.setIfInBounds_toArray, List.set_cons_zero, List.set_cons_succ]
      refine wpAnyH_ready (rs := [4]) (by kernel_rfl) (by simp) ?_
      refine AllReadyH.cons rfl (fun K hK => ?_) ?_
      · skip
        simp only [List.getElem_toArray, List.getElem_cons_succ, List.getElem_cons_zero]
        go_simp
        refine hK.out _ _ ?_ (fun hHeld => ?_)
        · try dsimp only
          (first | exact z3 | exact HZ.out _ | exact s3 | exact e3)
        clear hK K
        try simp only [List.getElem_toArray, List.getElem_cons_succ, List.getElem_cons_zero]
        try simp only [Act.put, List.setIfInBounds_toArray, List.set_cons_zero, List.set_cons_succ]
        refine wpAnyH_ready (rs := [14]) (by kernel_rfl) (by simp) ?_
        refine AllReadyH.cons rfl (fun K hK => ?_) ?_
        · skip
          (skip; (refine step_app_put (by rfl) (.tmp 17) (.tmp 26) (by rfl) 0 (.slice Al (M + k) cl) (M + k) XS (by rfl) (World.ownsRow.alloc (w := wr.drew) HL.out _) wr.heap.size 1 (.int .i64 ((a : Int) + (k : Int))) (.int .u8 (x.toNat : Int)) (by rfl) (cell_new2 _ _ _ _) rfl rfl hMk (Nat.zero_le _) ?_); intro v9 W9 hown9 hg9 hb9)
          obtain ⟨⟨A9, n9, c9, rfl⟩, s2, sf, s3, e3, hend⟩ := Hfin.out W9 v9 _ hown9 ⟨hg9.os, hg9.tape, hg9.output, hg9.size, hg9.block⟩ hb9
          have Hend2 := Lib.hid hend
          clear hend hown9 hg9 hb9
          refine hK.out _ _ ?_ (fun hHeld => ?_)
          · try dsimp only
            (first | exact z3 | exact HZ.out _ | exact s3 | exact e3)
          clear hK K
          try simp only [List.getElem_toArray, List.getElem_cons_succ, List.getElem_cons_zero]
          try simp only [Act.put, List.setIfInBounds_toArray, List.set_cons_zero, List.set_cons_succ]
          refine wpAnyH_take (i := 15) (v := ?_) rfl (by kernel_rfl) (by kernel_rfl) (by kernel_rfl) (fun _ _ _ h => h) (Or.inl ⟨by rfl, ?_⟩) (by assumption) ?_
          rotate_left
          · intro w hSw
            try dsimp only at hSw
            simp only [List.getElem_toArray, List.getElem_cons_succ, List.getElem_cons_zero]
            go_simp
            try with_reducible rfl
          simp only [List.getElem_toArray, List.getElem_cons_succ, List.getElem_cons_zero]
          try simp only [Act.put, List.setIfInBounds_toArray, List.set_cons_zero, List.set_cons_succ]
          refine wpAnyH_take (i := 16) (v := ?_) rfl (by kernel_rfl) (by kernel_rfl) (by kernel_rfl) (fun _ _ _ h => h) (Or.inl ⟨by rfl, ?_⟩) (by assumption) ?_
          rotate_left
          · intro w hSw
            try dsimp only at hSw
            simp only [List.getElem_toArray, List.getElem_cons_succ, List.getElem_cons_zero]
            go_simp
            try with_reducible rfl
          simp only [List.getElem_toArray, List.getElem_cons_succ, List.getElem_cons_zero]
          try simp only [Act.put, List.setIfInBounds_toArray, List.set_cons_zero, List.set_cons_succ]
          refine wpAnyH_ready (rs := [17]) (by kernel_rfl) (by simp) ?_
          refine AllReadyH.cons rfl (fun K hK => ?_) ?_
          · skip
            simp only [List.getElem_toArray, List.getElem_cons_succ, List.getElem_cons_zero]
            go_simp
            refine hK.out _ _ ?_ (fun hHeld => ?_)
            · try dsimp only
              (first | exact z3 | exact HZ.out _ | exact s3 | exact e3)
            clear hK K
            try simp only [List.getElem_toArray, List.getElem_cons_succ, List.getElem_cons_zero]
            try simp only [Act.put, List.setIfInBounds_toArray, List.set_cons_zero, List.set_cons_succ]
            refine wpAnyH_done (by kernel_rfl) ?_ _
            refine NoPanic.normal ?_
            go_wp2_with fail
            go_roundw
            case rel => exact ⟨k + 1, by go_num, by omega, Hend2.out⟩
            case measure => simp [intOf]; omega
          exact AllReadyH.nil
        exact AllReadyH.nil
      exact AllReadyH.nil
    exact AllReadyH.nil
end Go.Proofs.Ytoeeppecinjiiaa
