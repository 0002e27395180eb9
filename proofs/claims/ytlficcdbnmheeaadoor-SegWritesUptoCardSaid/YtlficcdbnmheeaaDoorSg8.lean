/-
  The writer: grow.
-/
import Derived.Test.YtlficcdbnmheeaaDoorKSg5
import Derived.Deep.RegionHeld3
import Derived.Deep.CutBlock
namespace Go.Proofs.YtlficcdbnmheeaaDoor
open Go.RowKit Go.Sort Go.Lib

section
set_option maxRecDepth 20000
set_option maxHeartbeats 4000000
variable {w w' : World} {wb base k c : Nat} {P G : Int} {id t : Nat} {v : Value} {rest : List UInt8}
/-- append, with what becomes of the row's block -/
theorem app_bytes2 {w : World} {ops : Array Oper} {rest : List Oper} {o : Oper} {a : Act} {Q : Exit → Act → World → Prop} (hgd : o.guard = none) (s x : Operand)
    (ho : o.op = .call { callee := .builtin .append, args := #[s, x], argTypes := #[25, 25] })
    (base : Nat) (v : Value) (l : List UInt8) (hs : a.eval s = v) (hown : Own w base v l)
    (B : Nat) (A : Option Addr) (m c : Nat) (r : List UInt8) (hx : a.eval x = .slice A m c) (hm : m = r.length) (hr : RB w B A r)
    (hlen : l.length + r.length ≤ 140737488355327) (hbase : base ≤ w.heap.size)
    (h : ∀ v' w', Own w' base v' (l ++ r) → Below base w w' → w.grownBy w' v.ownBlock → (v'.ownBlock = v.ownBlock ∨ v'.ownBlock = some w.heap.size) → wpList Tryd.prog ops Q rest (a.put o.dst v') w') :
    wpList Tryd.prog ops Q (o :: rest) a w := by
  subst hm
  obtain ⟨i0, hi0, hz0, hz1, hz2⟩ := info_parts info8
  refine wpList_plain hgd fun K hK => ?_
  have run : ∃ v' w', (Builtin.append_ #[25, 25] o.type #[v, .slice A r.length c]).run Tryd.prog w = .ok v' w' ∧ Own w' base v' (l ++ r) ∧ w.grownBy w' v.ownBlock ∧ (v'.ownBlock = v.ownBlock ∨ v'.ownBlock = some w.heap.size) := by
    by_cases h0 : r.length = 0
    · obtain rfl : r = [] := List.eq_nil_of_length_eq_zero h0
      refine ⟨v, w, ?_, by simpa [Own] using hown, World.grownBy.refl w _, .inl rfl⟩
      rcases hown.2 with ⟨rfl, _⟩ | ⟨g, cap, cur, rfl, _, _, hnc, _⟩
      · cases A <;> simp [Builtin.append_, run_underlying Tryd.underlying25, sizeOf, typeInfo, hi0, Builtin.lenOf, Builtin.firstCells, loadCells, loadCellsFrom]
      · cases A <;> simp [Builtin.append_, run_underlying Tryd.underlying25, sizeOf, typeInfo, hi0, Builtin.lenOf, Builtin.firstCells, hnc, storeCells, loadCells, loadCellsFrom]
    · have hr0 : 0 < r.length := by omega
      obtain ⟨ad, rfl, _, _⟩ := hr.at_ hr0
      obtain ⟨v', w', hrun, h2, h3, _, h5⟩ := run_append_own_at (P := Tryd.prog) w base 25 o.type 5 i0 (.int .u8 0) 1 1 Tryd.underlying25 hi0 hz0 hz1 hz2 rfl (by omega) v l.length (bvs l) hown ad r.length c (bvs r)
        (by simp [bvs]) (fun j u hu => by
          simp only [bvs, List.getElem?_map, Option.map_eq_some_iff] at hu
          obtain ⟨y, hy, rfl⟩ := hu
          obtain ⟨ad', e, _, hc⟩ := hr j y hy
          cases e
          exact hc) (bvs_one r) (by simp only [maxLen]; omega) (by omega) hbase
      exact ⟨v', w', hrun, by simpa [Own, bvs] using h2, h3, h5⟩
  obtain ⟨v', w', hrun, h2, h3, h4⟩ := run
  unfold Oper.wp execOp
  simp only [ho, resolve, invoke, builtin, Sem.run_bind, Sem.run_pure, Result.andThen_ok, List.map_toArray, List.map_cons, List.map_nil, hs, hx, hrun]
  exact hK _ _ (h v' w' h2 ((Below.refl _ _).grown h3 hbase hown.ge) h3 h4)
theorem set_otherG {w : World} {b x : Nat} (i : Nat) (v : Value) (h : x ≠ b) : (w.setCell ⟨b, i, none⟩ v).heap[x]? = w.heap[x]? := Below.heap_setCell _ _ _ _ h
theorem own_wr_ne {w : World} {wb base : Nat} {v : Value} {l : List UInt8} {cs : List Value} {t : TypeId} (h : Own w base v l) (hc : Cells w wb t cs) (ht : t ≠ 5) : some wb ≠ v.ownBlock := fun e => by
  rcases h.2 with ⟨rfl, _⟩ | ⟨g, cap, cur, rfl, _, hg, _⟩
  · cases e
  · cases e
    unfold Cells at hc
    rw [hc] at hg
    simp at hg
    exact ht hg.2
theorem slice_rest (g L cp s : Nat) (hs : s ≤ L) (_hL : L ≤ cp) (W : World) :
    (Instr.slice 25 (.slice (some ⟨g, 0, none⟩) L cp) (some (.int .i64 (s : Int))) none none).run Tryd.prog W = .ok (.slice (if cp = s then some ⟨g, 0, none⟩ else some ⟨g, s, none⟩) (L - s) (cp - s)) W := by
  have he : Tryd.prog.elem 25 = 5 := by simp [Program.elem, Tryd.underlying25]
  have hz : ∀ w, (Go.sizeOf 5).run Tryd.prog w = .ok 1 w := fun w => by kernel_rfl
  rw [run_slice_l W 25 _ _ _ (by rw [he]; exact Tryd.underlying25) .i64 _ (by omega) (by omega), he, hz]
  simp [Result.andThen, sliced, add_flat]
theorem wr_tab (h : WrAt w wb base k c P G id t v rest) (hT : Tab w) (hK : Kept (fun x => x ≠ wb ∧ v.ownBlock ≠ some x) w w') : Tab w' := fun r hr9 => by
  have h9 := hT r hr9
  have hlt := World.block_lt_of_cell? _ _ h9
  have h10 : w'.heap[0]? = w.heap[0]? := hK.block _ hlt ⟨fun e => by
    have h11 := h.wr
    unfold Cells at h11
    rw [← e] at h11
    have : w.cell? ⟨0, 0, none⟩ = _ := hT 0 (by omega)
    simp [World.cell?, h11] at this, fun e => by
    have := (World.ownsRow.lt h.own _ e).1
    have := h.hgl
    omega⟩
  exact (World.cell?_of_block h10).trans h9
theorem grow_any (h : WrAt w wb base k c P G id t v rest) (hT : Tab w) (A : Option Addr) (cp : Nat) (b : List UInt8) (hr : RB w w.heap.size A b) (hb1 : 1 ≤ b.length) (hcp : b.length ≤ cp) (hbase : base ≤ w.heap.size)
    (n : Nat) (hn : n = (rest ++ b).length / (k * c)) (hroom : (t : Int) + (n : Int) < P) (hlen : b.length ≤ 8589934592) :
    Calls Tryd.prog 53 #[.pointer (some ⟨wb, 0, none⟩), .slice A b.length cp] w fun e w' => ∃ g v', e = .returned (.tuple #[.slice (some ⟨g, 0, none⟩) n n, .int .i64 0]) ∧ (∃ B, w.heap.size ≤ B ∧ B ≤ w'.heap.size ∧ RMM w' w.heap.size B (some ⟨g, 0, none⟩) (rowsM k c G id t (cutN (rest ++ b) (k * c) n)) ∧ (n = 0 ∨ ∀ x, v'.ownBlock = some x → B ≤ x)) ∧ WrAt w' wb base k c P G id (t + n) v' ((rest ++ b).drop (n * (k * c))) ∧
      Kept (fun x => x ≠ wb ∧ v.ownBlock ≠ some x) w w' ∧ (v'.ownBlock = v.ownBlock ∨ ∀ x, v'.ownBlock = some x → w.heap.size ≤ x) := by
  obtain ⟨f1, f2, f3, f4, f5, f6, f7, f8, f9, hrv⟩ := h.facts
  have hrr := h.hr
  have H := Lib.hid h
  have hB1 : Below w.heap.size w (w.alloc (.cells #[.pointer (some ⟨wb, 0, none⟩)] 53)) := (Below.refl _ _).alloc (Nat.le_refl _) _
  have hC1 : Cells (w.alloc (.cells #[.pointer (some ⟨wb, 0, none⟩)] 53)) w.heap.size 53 [.pointer (some ⟨wb, 0, none⟩)] := Cells.new w _ _
  have h1 := h.below hB1
  have x0 := hC1.cell (i := 0) rfl
  have c5 := h1.wr.cell (i := 5) rfl
  obtain ⟨R, hR⟩ : ∃ R, R = k * c := ⟨_, rfl⟩
  rw [← hR] at hn hrv hrr f8 f9
  have Hrow := Lib.hid fun W => row_any (k : Int) P G W
  rw [hrv] at Hrow
  unfold shV at Hrow
  obtain ⟨L, hL⟩ : ∃ L, L = (rest ++ b).length := ⟨_, rfl⟩
  rw [← hL] at hn
  have hL1 : 1 ≤ L := by rw [hL, List.length_append]; omega
  have hL2 : L ≤ 17179869184 := by rw [hL, List.length_append]; omega
  have hnR : n * R ≤ L := by rw [hn]; exact Nat.div_mul_le_self L R
  have hn4 : n ≤ 4095 := by omega
  have Hfin : Hid (∀ (w2 : World) (v1 : Value), Own w2 base v1 (rest ++ b) → (w.alloc (.cells #[.pointer (some ⟨wb, 0, none⟩)] 53)).grownBy w2 v.ownBlock → (v1.ownBlock = v.ownBlock ∨ v1.ownBlock = some (w.alloc (.cells #[.pointer (some ⟨wb, 0, none⟩)] 53)).heap.size) →
      ∃ g1 cap1, v1 = .slice (some ⟨g1, 0, none⟩) L cap1 ∧ L ≤ cap1 ∧ Own w2 base (.slice (some ⟨g1, 0, none⟩) L cap1) (rest ++ b) ∧ RB w2 w2.heap.size (some ⟨g1, 0, none⟩) (rest ++ b) ∧ EnvG w2 w.heap.size wb (k : Int) P G id t v ∧ Kept (fun x => x ≠ wb ∧ v.ownBlock ≠ some x) w w2 ∧ Tab w2 ∧ (v.ownBlock = some g1 ∨ w.heap.size ≤ g1)) := fun w2 v1 ho hg hv => by
    obtain ⟨g1, cap1, e1, q1, q2, q3, _⟩ := ho.form (by rw [← hL]; omega)
    have hwr := h1.wr.move (hg.block _ h1.wr.lt (own_wr_ne h1.own h1.wr (by decide)))
    have hbx := hC1.move (hg.block _ hC1.lt (own_wr_ne h1.own hC1 (by decide)))
    rw [← hL] at e1 q3
    subst e1
    obtain ⟨A1, c1, e2, _, hrb, _⟩ := ho.rb
    rw [← hL] at e2
    cases e2
    have hK : Kept (fun x => x ≠ wb ∧ v.ownBlock ≠ some x) w w2 := ⟨hg.os.trans hB1.os, hg.tape.trans hB1.tape, hg.output.trans hB1.output, Nat.le_trans hB1.size hg.size, fun x hx hq => (hg.block x (Nat.lt_of_lt_of_le hx hB1.size) (fun e => hq.2 e.symm)).trans (hB1.block x hx)⟩
    refine ⟨g1, cap1, rfl, q3, ho, hrb, ⟨hbx.cell rfl, hwr⟩, hK, wr_tab H.out hT hK, ?_⟩
    rcases hv with hv | hv
    · exact .inl hv.symm
    · refine .inr ?_
      have : g1 = _ := Option.some.inj hv
      rw [this]; simp
  have Hown : Hid (Own (w.alloc (.cells #[.pointer (some ⟨wb, 0, none⟩)] 53)) base v rest ∧ RB (w.alloc (.cells #[.pointer (some ⟨wb, 0, none⟩)] 53)) w.heap.size A b ∧ rest.length + b.length ≤ 140737488355327 ∧ base ≤ (w.alloc (.cells #[.pointer (some ⟨wb, 0, none⟩)] 53)).heap.size) := ⟨h1.own, hr.below hB1, by omega, by simp; omega⟩
  obtain ⟨A0, cr, hv0, _⟩ := h.own.rb
  have Hv := Lib.hid hv0
  have Hlen1 := Lib.hid hL1
  have Hnums := Lib.hid (And.intro hn (And.intro hnR (And.intro hn4 (And.intro hL2 (And.intro f8 (And.intro f9 (And.intro hR (And.intro hL hroom))))))))
  obtain ⟨bl, hbl⟩ : ∃ bl, bl = b.length := ⟨_, rfl⟩
  have Hbl := Lib.hid hbl
  have hm : Hid ((n : Int) * (R : Int) = ((n * R : Nat) : Int)) := by show _ = _; simp
  rw [← hbl]
  clear hm h hT hr hb1 hcp hbase hn hroom hlen f1 f2 f3 f4 f5 f6 f7 f8 f9 hrv hrr hB1 hC1 h1 hR hL hL1 hL2 hnR hn4 hv0 hbl
  go_enter Tryd.func53, Tryd.ntmps53
  go_wp2_with (at_builtin; go_must (refine app_bytes2 rfl (.tmp 13) (.tmp 14) rfl base v rest rfl Hown.out.1 _ A bl cp b rfl Hbl.out Hown.out.2.1 Hown.out.2.2.1 Hown.out.2.2.2 ?_); intro v1 w2 ho2 hb2 hg2 hv2; obtain ⟨g1, cap1, rfl, q1, q2, q3, q4, q5, q6, q7⟩ := Hfin.out w2 v1 ho2 hg2 hv2; have H2 := Lib.hid (And.intro q1 (And.intro q2 (And.intro q3 (And.intro q4 (And.intro q5 (And.intro q6 q7)))))); have y0 := q4.box; have y1 := q4.wr.cell (i := 0) rfl; have y2 := q4.wr.cell (i := 1) rfl; have y3 := q4.wr.cell (i := 2) rfl; clear ho2 hb2 hg2 hv2 q1 q2 q3 q4 q5 q6 q7 x0 c5)
  refine (Hrow.out w2).mono ?_
  rintro e w3 ⟨rfl, hg3⟩
  have H3 := Lib.hid hg3.below
  obtain ⟨i1, i2, i3, i4, i5, i6, i7, i8, i9⟩ := Hnums.out
  have Hcut := Lib.hid (cut_any g1 0 cap1 R n L w3 H2.out.1 i1 (by omega) (by omega) (by omega) (by omega))
  clear hg3 i1 i2 i3 i4 i5 i6 i7 i8 i9 y0 y1 y2 y3
  go_wp2_with fail
  refine Hcut.out.mono ?_
  rintro e w4 ⟨rfl, hC4, hb4⟩
  have hB24 : Below w2.heap.size w2 w4 := H3.out.trans (hb4.mono H3.out.size)
  obtain ⟨_, hstr, hrb2, hE2, hK2, hT2, hg1⟩ := H2.out
  obtain ⟨i1, i2, i3, i4, i5, i6, i7, i8, i9⟩ := Hnums.out
  have hcm := cut_rm hC4 ((hrb2.below hB24).wide hB24.size) (by rw [← i8]; exact i2)
  have He := Lib.hid (each2_any (some ⟨w3.heap.size, 0, none⟩) n n (cutN (rest ++ b) R n) (hE2.below hB24) H.out.hok H.out.hcG (hT2.below hB24 hT2.pos) hcm H.out.hid (cutN_len _ _ _).symm (by omega) i9 (fun i l hl => by
    rw [cutN_row (by rw [← i8]; exact i2) hl, i7]; exact Nat.le_refl _))
  have hmf : ∀ (fn : Fn) (first cap : Array Value) (w : World), (Instr.makeFunc fn first cap).run Tryd.prog w = .ok (.func fn first cap) w := fun _ _ _ _ => rfl
  have y0 := (hE2.below hB24).box
  have H4 := Lib.hid hB24
  clear hC4 hb4 hB24 hstr hrb2 hE2 hK2 hT2 hg1 i1 i2 i3 i4 i5 i6 i7 i8 i9 hcm Hcut
  go_wp2_with fail
  refine He.out.mono ?_
  rintro e w5 ⟨rfl, hm5, hb5⟩
  have hB25 : Below w2.heap.size w2 w5 := H4.out.trans (hb5.mono H4.out.size)
  obtain ⟨_, hstr, hrb2, hE2, hK2, hT2, hg1⟩ := H2.out
  have hE5 := hE2.below hB25
  have H5 : Hid (RMM w5 w4.heap.size w5.heap.size (some ⟨w4.heap.size, 0, none⟩) (rowsM k c G id t (cutN (rest ++ b) R n)) ∧ EnvG w5 w.heap.size wb (k : Int) P G id t v ∧ Own w5 base (.slice (some ⟨g1, 0, none⟩) L cap1) (rest ++ b) ∧ Kept (fun x => x ≠ wb ∧ v.ownBlock ≠ some x) w w5 ∧ w.heap.size ≤ w4.heap.size ∧ w4.heap.size ≤ w5.heap.size) := ⟨hm5, hE5, hstr.below hB25, hK2.below hB25, Nat.le_trans hK2.size H4.out.size, hb5.size⟩
  have y0 := hE5.box
  have y4 := hE5.wr.cell (i := 4) rfl
  have z4 := hE5.wr.frozen 4
  have hnn : (n : Int) ≤ 4095 := by have := Hnums.out.2.2.1; omega
  have htt : (t : Int) ≤ 4095 := H.out.facts.2.2.2.2.1
  clear hm5 hb5 hB25 hstr hrb2 hE2 hK2 hT2 hg1 hE5 He H4 hmf H3
  go_upto_region 7 with fail
  obtain ⟨W6, hW6⟩ : ∃ W6, W6 = w5.setCell ⟨wb, 4, none⟩ (.int .i64 ((t : Int) + (n : Int))) := ⟨_, rfl⟩
  have hbne : w.heap.size ≠ wb := by have := H.out.wr.lt; omega
  have hC6 : Cells W6 wb 98 [.int .i64 (k : Int), .int .i64 P, .int .i64 G, .int .u64 (id : Int), .int .i64 ((t + n : Nat) : Int), v] := by
    have := H5.out.2.1.wr.set 4 (.int .i64 ((t : Int) + (n : Int)))
    rw [hW6]
    simpa using this
  have hbx6 : W6.cell? ⟨w.heap.size, 0, none⟩ = some (.pointer (some ⟨wb, 0, none⟩)) := by
    rw [hW6, World.cell?_setCell_other _ _ _ _ (by intro e; simp only [Addr.mk.injEq] at e; omega)]
    exact H5.out.2.1.box
  have H6 : Hid (Cells W6 wb 98 [.int .i64 (k : Int), .int .i64 P, .int .i64 G, .int .u64 (id : Int), .int .i64 ((t + n : Nat) : Int), v] ∧ W6.cell? ⟨w.heap.size, 0, none⟩ = some (.pointer (some ⟨wb, 0, none⟩)) ∧ Kept (fun x => x ≠ wb ∧ v.ownBlock ≠ some x) w W6 ∧ (∀ b, b ≠ wb → W6.heap[b]? = w5.heap[b]?) ∧ W6.heap.size = w5.heap.size) :=
    ⟨hC6, hbx6, by rw [hW6]; exact H5.out.2.2.2.1.setCell (p := ⟨wb, 4, none⟩) (fun q => q.1 rfl) _, fun b hb => by rw [hW6]; exact set_otherG _ _ hb, by rw [hW6]; simp [World.setCell]⟩
  rw [← hW6]
  have Hp : Hid (n * R ≤ L ∧ R = k * c) := ⟨Hnums.out.2.1, Hnums.out.2.2.2.2.2.2.1⟩
  obtain ⟨s, hs⟩ : ∃ s, s = n * R := ⟨_, rfl⟩
  have Hs := Lib.hid hs
  have hsL : s ≤ L := by rw [hs]; exact Hp.out.1
  obtain ⟨A9, hA9⟩ : ∃ A9, A9 = (if cap1 = s then some (⟨g1, 0, none⟩ : Addr) else some ⟨g1, s, none⟩) := ⟨_, rfl⟩
  have HA9 := Lib.hid hA9
  have hsl0 : ∀ W, (Instr.slice 25 (.slice (some ⟨g1, 0, none⟩) L cap1) (some (.int .i64 (s : Int))) none none).run Tryd.prog W = .ok (.slice A9 (L - s) (cap1 - s)) W := fun W => by rw [hA9]; exact slice_rest g1 L cap1 s hsL H2.out.1 W
  have hL34 := Hnums.out.2.2.2.1
  have hwr : IntKind.i64.wrap ((n : Int) * (R : Int)) = (s : Int) := by
    have : (n : Int) * (R : Int) = (s : Int) := by rw [hs]; simp
    rw [this, IntKind.wrap_i64]
    omega
  have hsl : ∀ W, (Instr.slice 25 (.slice (some ⟨g1, 0, none⟩) L cap1) (some (.int .i64 (IntKind.i64.wrap ((n : Int) * (R : Int))))) none none).run Tryd.prog W = .ok (.slice A9 (L - s) (cap1 - s)) W := fun W => by rw [hwr]; exact hsl0 W
  have HS : Hid (∀ W, Gr W6.drew W → (W.cell? ⟨w.heap.size, 0, none⟩ = some (.pointer (some ⟨wb, 0, none⟩)) ∧ W.cell? ⟨wb, 0, none⟩ = some (.int .i64 (k : Int)) ∧ W.cell? ⟨wb, 1, none⟩ = some (.int .i64 P) ∧ W.cell? ⟨wb, 2, none⟩ = some (.int .i64 G)) ∧ W.cell? ⟨wb, 5, none⟩ = some v ∧ W.frozen? ⟨wb, 5, none⟩ = false ∧
      ∀ v9, (W.setCell ⟨wb, 5, none⟩ v9).cell? ⟨w.heap.size, 0, none⟩ = some (.pointer (some ⟨wb, 0, none⟩)) ∧ (W.setCell ⟨wb, 5, none⟩ v9).cell? ⟨wb, 0, none⟩ = some (.int .i64 (k : Int)) ∧ (W.setCell ⟨wb, 5, none⟩ v9).cell? ⟨wb, 1, none⟩ = some (.int .i64 P) ∧ (W.setCell ⟨wb, 5, none⟩ v9).cell? ⟨wb, 2, none⟩ = some (.int .i64 G)) := fun W hg => by
    have hC : Cells W wb 98 [.int .i64 (k : Int), .int .i64 P, .int .i64 G, .int .u64 (id : Int), .int .i64 ((t + n : Nat) : Int), v] := (H6.out.1 : Cells W6.drew wb _ _).move (hg.below.block _ H6.out.1.lt)
    have hx : W.cell? ⟨w.heap.size, 0, none⟩ = some (.pointer (some ⟨wb, 0, none⟩)) := (hg.below.cell (p := ⟨w.heap.size, 0, none⟩) (World.block_lt_of_cell? _ _ H6.out.2.1)).trans H6.out.2.1
    refine ⟨⟨hx, hC.cell rfl, hC.cell rfl, hC.cell rfl⟩, hC.cell rfl, hC.frozen 5, fun v9 => ?_⟩
    have hC' := hC.set 5 v9
    exact ⟨by rw [World.cell?_setCell_other _ _ _ _ (by intro e; simp only [Addr.mk.injEq] at e; omega)]; exact hx, hC'.cell rfl, hC'.cell rfl, hC'.cell rfl⟩
  have k0 := (HS.out W6.drew (Gr.refl _)).1
  have hR9 : R = k * c := Hp.out.2
  have hdl : ((rest ++ b).drop s).length = L - s := by rw [List.length_drop, ← Hnums.out.2.2.2.2.2.2.2.1]
  have hrest' : L - s < k * c := by
    rw [← hR9, hs]
    have := Nat.mod_lt L (show 0 < R by have := Hnums.out.2.2.2.2.1; omega)
    have h9 := Nat.div_add_mod L R
    rw [← Hnums.out.1, Nat.mul_comm] at h9
    omega
  have hG67 : ∀ w7, Gr W6.drew w7 → Kept (fun x => x ≠ wb ∧ v.ownBlock ≠ some x) w w7 ∧ Cells w7 wb 98 [.int .i64 (k : Int), .int .i64 P, .int .i64 G, .int .u64 (id : Int), .int .i64 ((t + n : Nat) : Int), v] ∧ Below w5.heap.size W6.drew w7 ∧ (∀ b, b ≠ wb → b < w5.heap.size → w7.heap[b]? = w5.heap[b]?) ∧ w5.heap.size ≤ w7.heap.size := fun w7 hg => by
    have hb := hg.below
    have hsz : W6.drew.heap.size = w5.heap.size := H6.out.2.2.2.2
    rw [hsz] at hb
    refine ⟨(H6.out.2.2.1.drew : Kept _ w W6.drew).below hg.below, (H6.out.1 : Cells W6.drew wb _ _).move (hg.below.block _ H6.out.1.lt), hb, fun b hb1 hb2 => (hb.block b hb2).trans (H6.out.2.2.2.1 b hb1), by have := hb.size; rw [hsz] at this; exact this⟩
  have hgbase : base ≤ g1 := by
    have := (World.ownsRow.lt H5.out.2.2.1 g1 rfl).1
    exact this
  have hg1ne : g1 ≠ wb := fun e => own_wr_ne H5.out.2.2.1 H5.out.2.1.wr (by decide) (by rw [e]; rfl)
  have hg1lt : g1 < w5.heap.size := (World.ownsRow.lt H5.out.2.2.1 g1 rfl).2
  have hstr7 : ∀ w7, Gr W6.drew w7 → Own w7 base (.slice (some ⟨g1, 0, none⟩) L cap1) (rest ++ b) := fun w7 hg => H5.out.2.2.1.move fun x hx => by
    cases hx
    exact (hG67 w7 hg).2.2.2.1 g1 hg1ne hg1lt
  have hrm7 : ∀ w7, Gr W6.drew w7 → RMM w7 w.heap.size w5.heap.size (some ⟨w4.heap.size, 0, none⟩) (rowsM k c G id t (cutN (rest ++ b) (k * c) n)) := fun w7 hg => by
    rw [← hR9]
    refine (H5.out.1.keep (fun b hb1 hb2 => (hG67 w7 hg).2.2.2.1 b (fun e => ?_) hb2) (Nat.le_refl _)).low H5.out.2.2.2.2.1
    have h9 := H5.out.2.2.2.2.1
    have h10 := H.out.wr.lt
    omega
  have hWr : ∀ (W : World) (u : Value), Cells W wb 98 [.int .i64 (k : Int), .int .i64 P, .int .i64 G, .int .u64 (id : Int), .int .i64 ((t + n : Nat) : Int), u] → Own W base u ((rest ++ b).drop s) → WrAt W wb base k c P G id (t + n) u ((rest ++ b).drop (n * (k * c))) := fun W u hc ho => by
    rw [← hR9, ← hs]
    exact ⟨hc, ho, H.out.hok, H.out.hcG, H.out.hid, by have := Hnums.out.2.2.2.2.2.2.2.2; omega, by rw [hdl]; exact hrest', H.out.hgl⟩
  have HF0 : Hid (n = 0 → ∀ w7, Gr W6.drew w7 → (∃ B, w.heap.size ≤ B ∧ B ≤ (w7.setCell ⟨wb, 5, none⟩ (.slice A9 (L - s) (cap1 - s))).heap.size ∧ RMM (w7.setCell ⟨wb, 5, none⟩ (.slice A9 (L - s) (cap1 - s))) w.heap.size B (some ⟨w4.heap.size, 0, none⟩) (rowsM k c G id t (cutN (rest ++ b) (k * c) n)) ∧ (n = 0 ∨ ∀ x, (Value.slice A9 (L - s) (cap1 - s)).ownBlock = some x → B ≤ x)) ∧ WrAt (w7.setCell ⟨wb, 5, none⟩ (.slice A9 (L - s) (cap1 - s))) wb base k c P G id (t + n) (.slice A9 (L - s) (cap1 - s)) ((rest ++ b).drop (n * (k * c))) ∧ Kept (fun x => x ≠ wb ∧ v.ownBlock ≠ some x) w (w7.setCell ⟨wb, 5, none⟩ (.slice A9 (L - s) (cap1 - s))) ∧
      ((Value.slice A9 (L - s) (cap1 - s)).ownBlock = v.ownBlock ∨ ∀ x, (Value.slice A9 (L - s) (cap1 - s)).ownBlock = some x → w.heap.size ≤ x)) := fun hn0 w7 hg => by
    obtain ⟨g2, g3, g4, g5, g6⟩ := hG67 w7 hg
    have hs0 : s = 0 := by rw [hs, hn0, Nat.zero_mul]
    have hcap : ¬ cap1 = s := by have := H2.out.1; have := Hnums.out.2.2.2.2.1; have := Hlen1.out; omega
    have eA : (Value.slice A9 (L - s) (cap1 - s)) = .slice (some ⟨g1, 0, none⟩) L cap1 := by rw [hA9, if_neg hcap, hs0]; rfl
    rw [eA]
    have hK8 := g2.setCell (p := ⟨wb, 5, none⟩) (fun q => q.1 rfl) (.slice (some ⟨g1, 0, none⟩) L cap1)
    have hC8 := g3.set 5 (.slice (some ⟨g1, 0, none⟩) L cap1)
    refine ⟨⟨w.heap.size, Nat.le_refl _, hK8.size, ?_, .inl hn0⟩, hWr _ _ (by simpa using hC8) ?_, hK8, ?_⟩
    · rw [hn0]
      exact RMM.nil _ _ _ _
    · rw [hs0, List.drop_zero]
      exact (hstr7 w7 hg).move fun x hx => by cases hx; exact set_otherG _ _ hg1ne
    · rcases H2.out.2.2.2.2.2.2 with q | q
      · exact .inl q.symm
      · exact .inr fun x hx => by cases hx; exact q
  have HF1 : Hid (0 < n → ∀ w7, Gr W6.drew w7 → ∃ w8, w8 = w7.setCell ⟨wb, 5, none⟩ (.slice A9 (L - s) (cap1 - s)) ∧ w8.drew.cell? ⟨w.heap.size, 0, none⟩ = some (.pointer (some ⟨wb, 0, none⟩)) ∧ w8.drew.cell? ⟨wb, 5, none⟩ = some (.slice A9 (L - s) (cap1 - s)) ∧
      Hid (Calls Tryd.prog 82 #[.slice A9 (L - s) (cap1 - s)] w8.drew fun e w' => ∃ v9, e = .returned v9 ∧ Own w' w8.drew.heap.size v9 ((rest ++ b).drop s) ∧ Below w8.drew.heap.size w8.drew w') ∧
      Hid (∀ w9 v9, Own w9 w8.drew.heap.size v9 ((rest ++ b).drop s) → Below w8.drew.heap.size w8.drew w9 → w9.cell? ⟨w.heap.size, 0, none⟩ = some (.pointer (some ⟨wb, 0, none⟩)) ∧ w9.cell? ⟨wb, 5, none⟩ = some (.slice A9 (L - s) (cap1 - s)) ∧ w9.frozen? ⟨wb, 5, none⟩ = false ∧ (∀ u, (w9.setCell ⟨wb, 5, none⟩ u).cell? ⟨w.heap.size, 0, none⟩ = some (.pointer (some ⟨wb, 0, none⟩))) ∧
        ((∃ B, w.heap.size ≤ B ∧ B ≤ (w9.setCell ⟨wb, 5, none⟩ v9).heap.size ∧ RMM (w9.setCell ⟨wb, 5, none⟩ v9) w.heap.size B (some ⟨w4.heap.size, 0, none⟩) (rowsM k c G id t (cutN (rest ++ b) (k * c) n)) ∧ (n = 0 ∨ ∀ x, v9.ownBlock = some x → B ≤ x)) ∧ WrAt (w9.setCell ⟨wb, 5, none⟩ v9) wb base k c P G id (t + n) v9 ((rest ++ b).drop (n * (k * c))) ∧ Kept (fun x => x ≠ wb ∧ v.ownBlock ≠ some x) w (w9.setCell ⟨wb, 5, none⟩ v9) ∧ (v9.ownBlock = v.ownBlock ∨ ∀ x, v9.ownBlock = some x → w.heap.size ≤ x)))) := fun hn0 w7 hg => by
    obtain ⟨g2, g3, g4, g5, g6⟩ := hG67 w7 hg
    obtain ⟨w8, hw8⟩ : ∃ w8, w8 = w7.setCell ⟨wb, 5, none⟩ (.slice A9 (L - s) (cap1 - s)) := ⟨_, rfl⟩
    have hsz8 : w8.heap.size = w7.heap.size := by rw [hw8]; simp [World.setCell]
    have hC8 : Cells w8 wb 98 [.int .i64 (k : Int), .int .i64 P, .int .i64 G, .int .u64 (id : Int), .int .i64 ((t + n : Nat) : Int), .slice A9 (L - s) (cap1 - s)] := by
      rw [hw8]
      simpa using g3.set 5 (.slice A9 (L - s) (cap1 - s))
    have hbx8 : w8.cell? ⟨w.heap.size, 0, none⟩ = some (.pointer (some ⟨wb, 0, none⟩)) := by rw [hw8]; exact ((HS.out w7 hg).2.2.2 _).1
    have hK8 : Kept (fun x => x ≠ wb ∧ v.ownBlock ≠ some x) w w8 := by rw [hw8]; exact g2.setCell (p := ⟨wb, 5, none⟩) (fun q => q.1 rfl) _
    have hstr8 : Own w8 base (.slice (some ⟨g1, 0, none⟩) L cap1) (rest ++ b) := by rw [hw8]; exact (hstr7 w7 hg).move fun x hx => by cases hx; exact set_otherG _ _ hg1ne
    have hrb8 : RB w8 w8.heap.size A9 ((rest ++ b).drop s) := by
      obtain ⟨A1, c1, e2, _, hrb, _⟩ := hstr8.rb
      have e3 := (Value.slice.inj e2).1
      rw [← e3] at hrb
      rw [hA9]
      by_cases hq : cap1 = s
      · rw [if_pos hq]
        have : (rest ++ b).drop s = [] := List.eq_nil_of_length_eq_zero (by rw [hdl]; have := H2.out.1; omega)
        rw [this]
        exact RB.nil _ _ _
      · rw [if_neg hq]
        have := hrb.cutFlat s
        rwa [Nat.zero_add] at this
    have hbs : base ≤ w8.heap.size := by rw [hsz8]; omega
    have hcl := clone_any A9 (cap1 - s) ((rest ++ b).drop s) w8.drew w8.drew.heap.size hrb8 (Nat.le_refl _) (by rw [hdl]; have := Hnums.out.2.2.2.1; omega)
    rw [hdl] at hcl
    refine ⟨w8, hw8, hbx8, hC8.cell rfl, hcl, fun w9 v9 ho9 hb9 => ?_⟩
    have hC9 : Cells w9 wb 98 _ := (hC8 : Cells w8.drew wb _ _).move (hb9.block _ hC8.lt)
    have hbx9 : w9.cell? ⟨w.heap.size, 0, none⟩ = some (.pointer (some ⟨wb, 0, none⟩)) := (hb9.cell (p := ⟨w.heap.size, 0, none⟩) (World.block_lt_of_cell? _ _ hbx8)).trans hbx8
    have hK9 : Kept (fun x => x ≠ wb ∧ v.ownBlock ≠ some x) w w9 := (hK8.drew : Kept _ w w8.drew).below hb9
    have hK10 := hK9.setCell (p := ⟨wb, 5, none⟩) (fun q => q.1 rfl) v9
    have hlow9 : ∀ x, v9.ownBlock = some x → w8.heap.size ≤ x := fun x hx => (World.ownsRow.lt ho9 x hx).1
    have hwl := H.out.wr.lt
    have hK4 := H5.out.2.2.2.2
    have hsz9 : w8.heap.size ≤ w9.heap.size := hb9.size
    refine ⟨hbx9, hC9.cell rfl, hC9.frozen 5, fun u => ?_, ⟨w5.heap.size, by omega, ?_, ?_, .inr fun x hx => by have := hlow9 x hx; omega⟩, hWr _ _ (by simpa using hC9.set 5 v9) ?_, hK10, .inr fun x hx => by have := hlow9 x hx; omega⟩
    · rw [World.cell?_setCell_other _ _ _ _ (by intro e; simp only [Addr.mk.injEq] at e; omega)]
      exact hbx9
    · simp [World.setCell]; omega
    · refine (hrm7 w7 hg).keep (fun b hb1 hb2 => ?_) (Nat.le_refl _)
      have hne : b ≠ wb := by omega
      rw [set_otherG _ _ hne, hb9.block b (by show b < w8.heap.size; omega)]
      show w8.heap[b]? = _
      rw [hw8, set_otherG _ _ hne]
    · refine (ho9.wide (by show base ≤ w8.heap.size; exact hbs)).move fun x hx => set_otherG _ _ ?_
      have := hlow9 x hx
      omega
  clear hW6 hC6 hbx6 hs hsL hA9 hsl0 hwr hL34 y0 y4 z4 hbne hR9 hdl hrest' hG67 hgbase hg1ne hg1lt hstr7 hrm7 hWr
  go_region_held3 (fun X => X.cell? ⟨w.heap.size, 0, none⟩ = some (.pointer (some ⟨wb, 0, none⟩)) ∧ X.cell? ⟨wb, 0, none⟩ = some (.int .i64 (k : Int)) ∧ X.cell? ⟨wb, 1, none⟩ = some (.int .i64 P) ∧ X.cell? ⟨wb, 2, none⟩ = some (.int .i64 G)) (first | exact k0 | exact j1 | exact j2 _) (first
    | (go_at_call 14; refine (Hrow.out _).mono ?_; rintro e w7 ⟨rfl, hg7⟩; obtain ⟨j1, j5, f5, j2⟩ := HS.out w7 hg7; have H7 := Lib.hid hg7; clear hg7))
  all_goals
    by_cases hn0 : n = 0
    · have Hf := Lib.hid (HF0.out hn0 w7 H7.out)
      have hn0' : (n : Int) = 0 := by omega
      generalize w7.setCell ⟨wb, 5, none⟩ (.slice A9 (L - s) (cap1 - s)) = w8 at *
      clear HF0 HF1 j1 j2 j5 f5 k0
      subst hn0
      go_wp2_with fail
      go_ret2
      obtain ⟨⟨B, q1, q2, q3, _⟩, q4, q5, q6⟩ := Hf.out
      exact ⟨w4.heap.size, rfl, ⟨B, q1, q2, q3⟩, _, by simpa only [Nat.zero_mul, List.drop_zero, Nat.add_zero] using q4, q5, q6⟩
    · have hn1 : 0 < n := by omega
      have hn1' : (0 : Int) < (n : Int) := by omega
      obtain ⟨w8, hw8, k1, k5, HC, HN⟩ := HF1.out hn1 w7 H7.out
      rw [← hw8]
      clear HF0 HF1 j1 j2 j5 f5 k0 hw8
      go_upto_region 9 with fail
      refine wp_region_noPanic ?_
      refine wp_region_held_drew (S := fun X => X.cell? ⟨w.heap.size, 0, none⟩ = some (.pointer (some ⟨wb, 0, none⟩))) (by kernel_rfl) ?_ (fun hHeld => ?_)
      · try dsimp only
        first | exact k1 | exact p1 | exact p4 _
      refine wpAnyH_take (i := 0) (v := ?_) rfl (by kernel_rfl) (by kernel_rfl) (by kernel_rfl) (fun _ _ _ h => h) (Or.inl ⟨by rfl, ?_⟩) (by assumption) ?_
      rotate_left
      · intro w hSw
        try dsimp only at hSw
        simp only [List.getElem_toArray, List.getElem_cons_zero]
        go_simp
        try with_reducible rfl
      simp only [List.getElem_toArray, List.getElem_cons_zero]
      try simp only [Act.put, List.setIfInBounds_toArray]
      refine wpAnyH_take (i := 1) (v := ?_) rfl (by kernel_rfl) (by kernel_rfl) (by kernel_rfl) (fun _ _ _ h => h) (Or.inl ⟨by rfl, ?_⟩) (by assumption) ?_
      rotate_left
      · intro w hSw
        try dsimp only at hSw
        simp only [List.getElem_toArray, List.getElem_cons_zero]
        go_simp
        try with_reducible rfl
      simp only [List.getElem_toArray, List.getElem_cons_zero]
      try simp only [Act.put, List.setIfInBounds_toArray]
      refine wpAnyH_take (i := 2) (v := ?_) rfl (by kernel_rfl) (by kernel_rfl) (by kernel_rfl) (fun _ _ _ h => h) (Or.inl ⟨by rfl, ?_⟩) (by assumption) ?_
      rotate_left
      · intro w hSw
        try dsimp only at hSw
        simp only [List.getElem_toArray, List.getElem_cons_zero]
        go_simp
        try with_reducible rfl
      simp only [List.getElem_toArray, List.getElem_cons_zero]
      try simp only [Act.put, List.setIfInBounds_toArray]
      refine wpAnyH_take (i := 3) (v := ?_) rfl (by kernel_rfl) (by kernel_rfl) (by kernel_rfl) (fun _ _ _ h => h) (Or.inl ⟨by rfl, ?_⟩) (by assumption) ?_
      rotate_left
      · intro w hSw
        try dsimp only at hSw
        simp only [List.getElem_toArray, List.getElem_cons_zero]
        go_simp
        try with_reducible rfl
      simp only [List.getElem_toArray, List.getElem_cons_zero]
      try simp only [Act.put, List.setIfInBounds_toArray]
      refine wpAnyH_ready (rs := [4]) (by kernel_rfl) (by simp) ?_
      refine AllReadyH.cons rfl (fun K hK => ?_) ?_
      · skip
        simp only [List.getElem_toArray, List.getElem_cons_zero]
        go_simp
        refine hK.out _ _ ?_ (fun hHeld => ?_)
        · try dsimp only
          first | exact k1 | exact p1 | exact p4 _
        clear hK K
        try simp only [List.getElem_toArray, List.getElem_cons_succ, List.getElem_cons_zero]
        try simp only [Act.put, List.setIfInBounds_toArray]
        refine wpAnyH_ready (rs := [5]) (by kernel_rfl) (by simp) ?_
        refine AllReadyH.cons rfl (fun K hK => ?_) ?_
        · skip
          simp only [List.getElem_toArray, List.getElem_cons_succ, List.getElem_cons_zero]
          go_simp
          go_at_call 82
          refine HC.out.mono ?_
          rintro e w9 ⟨v9, rfl, ho9, hb9⟩
          obtain ⟨A7, c7, rfl, _, _⟩ := ho9.rb
          obtain ⟨p1, p2, p3, p4, p5⟩ := HN.out w9 _ ho9 hb9
          clear ho9 hb9
          generalize ((rest ++ b).drop s).length = l9 at *
          have H9 := Lib.hid p5
          clear p5
          refine hK.out _ _ ?_ (fun hHeld => ?_)
          · try dsimp only
            first | exact k1 | exact p1 | exact p4 _
          clear hK K
          try simp only [List.getElem_toArray, List.getElem_cons_succ, List.getElem_cons_zero]
          try simp only [Act.put, List.setIfInBounds_toArray, List.set_cons_zero, List.set_cons_succ]
          refine wpAnyH_take (i := 6) (v := ?_) rfl (by kernel_rfl) (by kernel_rfl) (by kernel_rfl) (fun _ _ _ h => h) (Or.inl ⟨by rfl, ?_⟩) (by assumption) ?_
          rotate_left
          · intro w hSw
            try dsimp only at hSw
            simp only [List.getElem_toArray, List.getElem_cons_succ, List.getElem_cons_zero]
            go_simp
            try with_reducible rfl
          simp only [List.getElem_toArray, List.getElem_cons_succ, List.getElem_cons_zero]
          try simp only [Act.put, List.setIfInBounds_toArray, List.set_cons_zero, List.set_cons_succ]
          refine wpAnyH_take (i := 7) (v := ?_) rfl (by kernel_rfl) (by kernel_rfl) (by kernel_rfl) (fun _ _ _ h => h) (Or.inl ⟨by rfl, ?_⟩) (by assumption) ?_
          rotate_left
          · intro w hSw
            try dsimp only at hSw
            simp only [List.getElem_toArray, List.getElem_cons_succ, List.getElem_cons_zero]
            go_simp
            try with_reducible rfl
          simp only [List.getElem_toArray, List.getElem_cons_succ, List.getElem_cons_zero]
          try simp only [Act.put, List.setIfInBounds_toArray, List.set_cons_zero, List.set_cons_succ]
          refine wpAnyH_ready (rs := [8]) (by kernel_rfl) (by simp) ?_
          refine AllReadyH.cons rfl (fun K hK => ?_) ?_
          · skip
            simp only [List.getElem_toArray, List.getElem_cons_succ, List.getElem_cons_zero]
            go_simp
            refine hK.out _ _ ?_ (fun hHeld => ?_)
            · try dsimp only
              first | exact k1 | exact p1 | exact p4 _
            clear hK K
            try simp only [List.getElem_toArray, List.getElem_cons_succ, List.getElem_cons_zero]
            try simp only [Act.put, List.setIfInBounds_toArray, List.set_cons_zero, List.set_cons_succ]
            refine wpAnyH_done (by kernel_rfl) ?_ _
            refine NoPanic.normal ?_
            go_wp2_with fail
            go_ret2
            exact ⟨_, _, rfl, H9.out⟩
          exact AllReadyH.nil
        exact AllReadyH.nil
      exact AllReadyH.nil
end
end Go.Proofs.YtlficcdbnmheeaaDoor
