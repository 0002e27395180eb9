/-
  The program's products: the two tables of half bytes.
-/
import Derived.Test.YtlficcdbnmheeaaDoorKGf13
import Derived.Deep.MidRow
import Derived.Deep.RegionHeld3
import Derived.Test.YtlficcdbnmheeaaDoorKGf25
namespace Go.Proofs.YtlficcdbnmheeaaDoor
open Go.RowKit

set_option maxRecDepth 20000
def lowT (f : UInt8) : List UInt8 := (List.range 16).map fun i => bm f (UInt8.ofNat i)
def highT (f : UInt8) : List UInt8 := (List.range 16).map fun i => bm f (UInt8.ofNat (i * 16))
theorem lowT_length (f : UInt8) : (lowT f).length = 16 := by simp [lowT]
theorem highT_length (f : UInt8) : (highT f).length = 16 := by simp [highT]
theorem lowT_get (f : UInt8) (i : Nat) (h : i < 16) : (lowT f)[i]? = some (bm f (UInt8.ofNat i)) := by
  unfold lowT
  rw [List.getElem?_map, List.getElem?_range h]; rfl
theorem highT_get (f : UInt8) (i : Nat) (h : i < 16) : (highT f)[i]? = some (bm f (UInt8.ofNat (i * 16))) := by
  unfold highT
  rw [List.getElem?_map, List.getElem?_range h]; rfl
/-- the first k of sixteen -/
def tabP (T : List UInt8) (k : Nat) : List UInt8 := T.take k ++ List.replicate (16 - k) 0
theorem tabP_length {T : List UInt8} (h : T.length = 16) {k : Nat} (hk : k ≤ 16) : (tabP T k).length = 16 := by
  simp [tabP, h]; omega
theorem tabP_step {T : List UInt8} (h : T.length = 16) {k : Nat} (hk : k < 16) {x : UInt8} (hx : T[k]? = some x) : (tabP T k).set k x = tabP T (k + 1) := by
  have hk' : k < T.length := by omega
  have e := (List.getElem?_eq_some_iff.1 hx).2
  unfold tabP
  obtain ⟨m, hm⟩ : ∃ m, 16 - k = m + 1 := ⟨16 - k - 1, by omega⟩
  rw [List.set_append_right _ _ (by simp; omega), List.length_take, show k - min k T.length = 0 by omega, hm, show 16 - (k + 1) = m by omega, List.replicate_succ, List.set_cons_zero, List.take_succ_eq_append_getElem hk', e]
  simp
theorem tabP_done {T : List UInt8} (h : T.length = 16) : tabP T 16 = T := by
  unfold tabP
  rw [List.take_of_length_le (by omega)]
  simp
theorem tabP_blank {T : List UInt8} (h : T.length = 16) {k : Nat} (hk : k < 16) : (bvs (tabP T k))[k]? = some (.int .u8 0) := by
  unfold tabP bvs
  rw [List.getElem?_map, List.getElem?_append_right (by simp; omega), List.getElem?_replicate]
  rw [if_pos (by simp; omega)]; rfl
theorem bvs_set (l : List UInt8) (i : Nat) (x : UInt8) : (bvs l).set i (.int .u8 (x.toNat : Int)) = bvs (l.set i x) := by
  unfold bvs
  rw [List.map_set]; rfl
theorem info16 : (Tryd.prog.info? 179).map (·.size) = some 16 := by kernel_rfl
theorem Cells.drewN {w : World} {b : Nat} {t : TypeId} {cs : List Value} (h : Cells w b t cs) (q : Nat) : Cells (w.drewN q) b t cs := h
theorem loadV_tab {w : World} {b : Nat} {cs : List Value} (h : Cells w b 179 cs) (hl : cs.length = 16) : (loadVar 179 ⟨b, 0, none⟩).run Tryd.prog w = .ok (.agg cs.toArray) w :=
  run_loadVar_row _ _ _ _ cs.toArray (0, 0) _ h Tryd.underlying179 rfl (by rw [info16]; simp [hl])
theorem load_tab {w : World} {b : Nat} {cs : List Value} (h : Cells w b 179 cs) (hl : cs.length = 16) : (Instr.loadAt 179 (.pointer (some ⟨b, 0, none⟩))).run Tryd.prog w = .ok (.agg cs.toArray) w := by
  simp only [Instr.loadAt, Instr.sureAddr, Sem.run_bind, Sem.run_pure, Result.andThen_ok, loadV_tab h hl]
theorem storeV_tab {w : World} {b : Nat} {cs ds : List Value} (h : Cells w b 179 cs) (hl : cs.length = 16) (hd : ds.length = 16) (h1 : ∀ u ∈ ds, u.oneCell' = true) : (Instr.storeAt 179 (.pointer (some ⟨b, 0, none⟩)) (.agg ds.toArray)).run Tryd.prog w = .ok () (w.setRow b ds.toArray) := by
  simp only [Instr.storeAt, Instr.sureAddr, Sem.run_bind, Sem.run_pure, Result.andThen_ok]
  exact run_storeVar_row w b _ _ cs.toArray ds.toArray h (by rw [info16]; simp [hd]) (by simp [hl, hd]) (all_oneCell_toArray h1)
theorem setRow_same {w : World} {b : Nat} {t : TypeId} {cs : List Value} (h : Cells w b t cs) : w.setRow b cs.toArray = w := by
  unfold World.setRow
  congr 1
  apply Array.ext_getElem?
  intro i
  rw [Array.getElem?_modify]
  by_cases e : b = i
  · subst e
    rw [if_pos rfl, h]; rfl
  · rw [if_neg e]
theorem store_tab {w : World} {b : Nat} {cs : List Value} (h : Cells w b 179 cs) (hl : cs.length = 16) (h1 : ∀ u ∈ cs, u.oneCell' = true) : (Instr.storeAt 179 (.pointer (some ⟨b, 0, none⟩)) (.agg cs.toArray)).run Tryd.prog w = .ok () w := by
  rw [storeV_tab h hl hl h1, setRow_same h]
/-- a load in a region that leaves its world as it is -/
theorem yields_load {ops : Array Oper} {w0 : World} {o : Oper} {a : Act} (hgd : o.guard = none) (ty : TypeId) (x : Operand) (ho : o.op = .load ty x) (p v : Value) (hx : a.eval x = p)
    (hr : (Instr.loadAt ty p).run Tryd.prog w0 = .ok v w0) : YieldsIf Tryd.prog ops (fun W => W = w0) o v a :=
  .inl ⟨by simp only [Region.wanted, hgd], fun W hW => by
    subst hW
    simp only [execOp, ho, hx, Sem.run_bind, hr, Result.andThen_ok, Sem.run_pure]⟩
/-- a store, by its run -/
theorem wp_storeAt {w w' : World} {Q : Exit → Act → World → Prop} {K : Act → World → Prop} {o : Oper} {a : Act} (ty : TypeId) (x y : Operand) (ho : o.op = .store ty x y) (p v : Value) (hx : a.eval x = p) (hy : a.eval y = v)
    (hr : (Instr.storeAt ty p v).run Tryd.prog w = .ok () w') (h : K (a.put o.dst undef) w') : o.wp Tryd.prog a w K Q := by
  unfold Oper.wp execOp
  simp only [ho, hx, hy, Sem.run_bind, hr, Result.andThen_ok, Sem.run_pure, Oper.upon]
  exact h
theorem results_cells2 {fn : Func} {p q : Tmp} {s t : TypeId} (h : fn.results = #[.cell p s, .cell q t]) (tmps : Array Value) (w : World) (a b : Addr) (u v : Value) (ha : tmps.getD p undef = .pointer (some a)) (hb : tmps.getD q undef = .pointer (some b))
    (h1 : (loadVar s a).run Tryd.prog w = .ok u w) (h2 : (loadVar t b).run Tryd.prog w = .ok v w) : (results fn tmps).run Tryd.prog w = .ok (.tuple #[u, v]) w := by
  have ha' : tmps[p]?.getD undef = .pointer (some a) := by simpa using ha
  have hb' : tmps[q]?.getD undef = .pointer (some b) := by simpa using hb
  simp [results, h, ha', hb', asAddr, h1, h2]
structure TabRel (w : World) (T1 T2 : List UInt8) (j k : Nat) (wr : World) : Prop where
  one : Cells wr w.heap.size 179 (bvs (tabP T1 j))
  two : Cells wr (w.heap.size + 1) 179 (bvs (tabP T2 k))
  bel : Below w.heap.size w wr
theorem TabRel.step {w wr : World} {T1 T2 : List UInt8} {k : Nat} {x y : UInt8} (h : TabRel w T1 T2 k k wr) (hk : k < 16) (h1 : T1.length = 16) (h2 : T2.length = 16) (hx : T1[k]? = some x) (hy : T2[k]? = some y) :
    TabRel w T1 T2 (k + 1) (k + 1) ((wr.setCell ⟨w.heap.size, k, none⟩ (.int .u8 (x.toNat : Int))).setCell ⟨w.heap.size + 1, k, none⟩ (.int .u8 (y.toNat : Int))) := by
  refine ⟨?_, ?_, (h.bel.setCell (p := ⟨w.heap.size, k, none⟩) (Nat.le_refl _) _).setCell (p := ⟨w.heap.size + 1, k, none⟩) (Nat.le_succ _) _⟩
  · have := h.one.set k (.int .u8 (x.toNat : Int))
    rw [bvs_set, tabP_step h1 hk hx] at this
    exact this.move (Below.heap_setCell _ _ _ _ (by show w.heap.size ≠ w.heap.size + 1; omega))
  · have := (h.two.move (w' := wr.setCell ⟨w.heap.size, k, none⟩ (.int .u8 (x.toNat : Int))) (Below.heap_setCell _ _ _ _ (by show w.heap.size + 1 ≠ w.heap.size; omega))).set k (.int .u8 (y.toNat : Int))
    rw [bvs_set, tabP_step h2 hk hy] at this
    exact this
theorem products_any (f : UInt8) (w : World) :
    Calls Tryd.prog 106 #[.int .u8 (f.toNat : Int)] w fun e w' => e = .returned (.tuple #[.agg (bvs (lowT f)).toArray, .agg (bvs (highT f)).toArray]) ∧ Below w.heap.size w w' := by
  have HM : Hid (∀ (x : UInt8) W, Calls Tryd.prog 114 #[.int .u8 (f.toNat : Int), .int .u8 (x.toNat : Int)] W fun e w' => e = .returned (.int .u8 ((bm f x).toNat : Int)) ∧ w' = W) := fun x W => by
    have := mul_any f.toNat x.toNat W (u8_lt f) (u8_lt x)
    rw [← bm_nat] at this
    exact this.mono fun _ _ ⟨a, b⟩ => ⟨a, b.symm⟩
  have Hst : Hid (∀ W, W = (w.alloc (.cells (bvs (List.replicate 16 0)).toArray 179)).alloc (.cells (bvs (List.replicate 16 0)).toArray 179) → TabRel w (lowT f) (highT f) 0 0 W) := fun W hW => by
    subst hW
    refine ⟨?_, ?_, ((Below.refl _ _).alloc (Nat.le_refl _) _).alloc (by simp) _⟩
    · have := (Cells.new w (bvs (List.replicate 16 0)).toArray 179).alloc (.cells (bvs (List.replicate 16 0)).toArray 179)
      simpa [tabP] using this
    · have := Cells.new (w.alloc (.cells (bvs (List.replicate 16 0)).toArray 179)) (bvs (List.replicate 16 0)).toArray 179
      simpa [tabP] using this
  go_enter Tryd.func106, Tryd.ntmps106
  go_wp2_with fail
  have Hs0 := Lib.hid (Hst.out _ rfl)
  clear Hst
  go_loopw [5] (fun iv wr => ∃ k : Nat, iv = .int .i64 (k : Int) ∧ k ≤ 16 ∧ Hid (TabRel w (lowT f) (highT f) k k wr)) (fun iv _ => 16 - (intOf iv).toNat)
  case atStart => exact ⟨0, rfl, Nat.zero_le _, Hs0.out⟩
  case round =>
    obtain ⟨k, rfl, hk, hrel⟩ := hrel
    by_cases hlt : k < 16
    · have hlt' : (k : Int) < 16 := by omega
      have c1 : wr.cell? ⟨w.heap.size, k, none⟩ = some (.int .u8 0) := hrel.out.one.cell (tabP_blank (lowT_length f) hlt)
      have c2 : wr.frozen? ⟨w.heap.size, k, none⟩ = false := hrel.out.one.frozen k
      have c3 : wr.cell? ⟨w.heap.size + 1, k, none⟩ = some (.int .u8 0) := hrel.out.two.cell (tabP_blank (highT_length f) hlt)
      have c4 : wr.frozen? ⟨w.heap.size + 1, k, none⟩ = false := hrel.out.two.frozen k
      have e1 : (UInt8.ofNat k).toNat = k := by rw [UInt8.toNat_ofNat']; omega
      have e2 : (UInt8.ofNat (k * 16)).toNat = k * 16 := by rw [UInt8.toNat_ofNat']; omega
      have HM1 := Lib.hid (HM.out (UInt8.ofNat k))
      have HM2 := Lib.hid (HM.out (UInt8.ofNat (k * 16)))
      rw [e1] at HM1
      rw [e2, show ((k * 16 : Nat) : Int) = (k : Int) * 16 by omega] at HM2
      have Hn : Hid (TabRel w (lowT f) (highT f) (k + 1) (k + 1) ((wr.setCell ⟨w.heap.size, k, none⟩ (.int .u8 ((bm f (UInt8.ofNat k)).toNat : Int))).setCell ⟨w.heap.size + 1, k, none⟩ (.int .u8 ((bm f (UInt8.ofNat (k * 16))).toNat : Int)))) := hrel.out.step hlt (lowT_length f) (highT_length f) (lowT_get f k hlt) (highT_get f k hlt)
      generalize (bm f (UInt8.ofNat k)).toNat = x1 at *
      generalize (bm f (UInt8.ofNat (k * 16))).toNat = x2 at *
      clear Hs0 HM e1 e2 hrel hlt
      obtain ⟨g, hg⟩ : ∃ g, g = w.heap.size := ⟨_, rfl⟩
      have HG := Lib.hid hg
      rw [← hg] at c1 c2 c3 c4 Hn ⊢
      clear hg
      go_wp2_with fail
      refine (HM1.out _).mono ?_
      rintro e w1 ⟨rfl, rfl⟩
      go_wp2_with fail
      refine (HM2.out _).mono ?_
      rintro e w2 ⟨rfl, rfl⟩
      go_wp2_with fail
      go_roundw
      case rel => exact ⟨k + 1, by go_num, by omega, Hn.out⟩
      case measure => simp [intOf]; omega
    · obtain rfl : k = 16 := by omega
      have q1 := hrel.out.one
      have q2 := hrel.out.two
      rw [tabP_done (lowT_length f)] at q1
      rw [tabP_done (highT_length f)] at q2
      have b1 : (bvs (lowT f)).length = 16 := by rw [bvs_length, lowT_length]
      have b2 : (bvs (highT f)).length = 16 := by rw [bvs_length, highT_length]
      have l1 := fun q => load_tab (q1.drewN q) b1
      have l2 := fun q => load_tab (q2.drewN q) b2
      have v1 := fun q => loadV_tab (q1.drewN q) b1
      have v2 := fun q => loadV_tab (q2.drewN q) b2
      have s1 := fun q => store_tab (q1.drewN q) b1 (bvs_one _)
      have s2 := fun q => store_tab (q2.drewN q) b2 (bvs_one _)
      have Hbe := Lib.hid hrel.out.bel
      obtain ⟨t1, ht1⟩ : ∃ t1, t1 = (bvs (lowT f)).toArray := ⟨_, rfl⟩
      obtain ⟨t2, ht2⟩ : ∃ t2, t2 = (bvs (highT f)).toArray := ⟨_, rfl⟩
      have Ht : Hid (t1 = (bvs (lowT f)).toArray ∧ t2 = (bvs (highT f)).toArray) := ⟨ht1, ht2⟩
      rw [← ht1] at l1 v1 s1
      rw [← ht2] at l2 v2 s2
      have l1' : (Instr.loadAt 179 (.pointer (some ⟨w.heap.size, 0, none⟩))).run Tryd.prog wr.drew = .ok (.agg t1) wr.drew := l1 1
      have l2' : (Instr.loadAt 179 (.pointer (some ⟨w.heap.size + 1, 0, none⟩))).run Tryd.prog wr.drew = .ok (.agg t2) wr.drew := l2 1
      have v1' : (loadVar 179 ⟨w.heap.size, 0, none⟩).run Tryd.prog wr.drew = .ok (.agg t1) wr.drew := v1 1
      have v2' : (loadVar 179 ⟨w.heap.size + 1, 0, none⟩).run Tryd.prog wr.drew = .ok (.agg t2) wr.drew := v2 1
      have s1' : (Instr.storeAt 179 (.pointer (some ⟨w.heap.size, 0, none⟩)) (.agg t1)).run Tryd.prog wr.drew = .ok () wr.drew := s1 1
      have s2' : (Instr.storeAt 179 (.pointer (some ⟨w.heap.size + 1, 0, none⟩)) (.agg t2)).run Tryd.prog wr.drew = .ok () wr.drew := s2 1
      clear q1 q2 b1 b2 Hs0 HM hrel hlt l1 l2 v1 v2 s1 s2 ht1 ht2
      obtain ⟨g, hg⟩ : ∃ g, g = w.heap.size := ⟨_, rfl⟩
      have HG := Lib.hid hg
      rw [← hg] at l1' l2' v1' v2' s1' s2' ⊢
      clear hg
      go_wp2_with fail
      refine wp_region_noPanic ?_
      refine wp_region_held_drew (S := fun W => W = wr.drew) (by kernel_rfl) rfl (fun hHeld => ?_)
      refine wpAnyH_take (i := 0) rfl (by kernel_rfl) (by kernel_rfl) (by kernel_rfl) (fun _ _ _ h => h) (yields_load rfl _ _ rfl _ _ rfl l1') rfl ?_
      refine wpAnyH_take (i := 1) rfl (by kernel_rfl) (by kernel_rfl) (by kernel_rfl) (fun _ _ _ h => h) (yields_load rfl _ _ rfl _ _ rfl l2') rfl ?_
      refine wpAnyH_ready (rs := [2]) (by kernel_rfl) (by simp) ?_
      refine AllReadyH.cons rfl (fun K hK => ?_) AllReadyH.nil
      rw [if_pos (by rfl)]
      refine wp_storeAt _ _ _ rfl _ _ rfl rfl s1' ?_
      refine hK.out _ _ rfl (fun _ => ?_)
      clear hK K
      refine wpAnyH_ready (rs := [3]) (by kernel_rfl) (by simp) ?_
      refine AllReadyH.cons rfl (fun K hK => ?_) AllReadyH.nil
      rw [if_pos (by rfl)]
      refine wp_storeAt _ _ _ rfl _ _ rfl rfl s2' ?_
      refine hK.out _ _ rfl (fun _ => ?_)
      clear hK K
      refine wpAnyH_done (by kernel_rfl) ?_ _
      refine NoPanic.normal ?_
      simp only [Act.put, List.getElem_toArray, List.getElem_cons_succ, List.getElem_cons_zero, List.setIfInBounds_toArray, List.set_cons_zero, List.set_cons_succ]
      go_wp2_with fail
      refine bodyPost_ret (v := .tuple #[.agg t1, .agg t2]) (results_cells2 rfl _ _ _ _ _ _ rfl rfl v1' v2') rfl ?_
      exact ⟨by rw [Ht.out.1, Ht.out.2], drewN_below Hbe.out 1⟩
end Go.Proofs.YtlficcdbnmheeaaDoor

/-
  The program's add: a list, multiplied, added to another by the two tables.
-/
namespace Go.Proofs.YtlficcdbnmheeaaDoor
open Go.RowKit

set_option maxRecDepth 20000
theorem setRow_cells {w : World} {b : Nat} {t : TypeId} {cs ds : List Value} (h : Cells w b t cs) : Cells (w.setRow b ds.toArray) b t ds := by
  unfold Cells at h ⊢
  simp only [World.setRow, Array.getElem?_modify, if_true]
  rw [h]; rfl
theorem setRow_other (w : World) (b k : Nat) (ds : Array Value) (hk : k ≠ b) : (w.setRow b ds).heap[k]? = w.heap[k]? := by
  simp only [World.setRow, Array.getElem?_modify]
  rw [if_neg (fun e => hk e.symm)]
theorem setRow_size (w : World) (b : Nat) (ds : Array Value) : (w.setRow b ds).heap.size = w.heap.size := by simp [World.setRow]
theorem half_mul (f x : UInt8) : bm f (UInt8.ofNat (x.toNat % 16)) ^^^ bm f (UInt8.ofNat (x.toNat / 16 * 16)) = bm x f := by
  rw [bm_comm x f]
  have key : ∀ x : Fin 256, (x.val % 16) ^^^ (x.val / 16 * 16) = x.val := by decide +kernel
  refine u8_ext ?_
  have h1 := u8_lt x
  rw [bx_nat, bm_nat, bm_nat, bm_nat, UInt8.toNat_ofNat', UInt8.toNat_ofNat', Nat.mod_eq_of_lt (by omega), Nat.mod_eq_of_lt (show x.toNat / 16 * 16 < 2 ^ 8 by omega), ← gm_xor_right]
  rw [key ⟨x.toNat, h1⟩]
/-- a store, by its run, at a list of operations -/
theorem list_store {ops : Array Oper} {w w' : World} {Q : Exit → Act → World → Prop} {rest : List Oper} {o : Oper} {a : Act} (hgd : o.guard = none) (ty : TypeId) (x y : Operand) (ho : o.op = .store ty x y) (p v : Value) (hx : a.eval x = p) (hy : a.eval y = v)
    (hr : (Instr.storeAt ty p v).run Tryd.prog w = .ok () w') (h : wpList Tryd.prog ops Q rest (a.put o.dst undef) w') : wpList Tryd.prog ops Q (o :: rest) a w :=
  wpList_plain hgd fun _ hK => wp_storeAt ty x y ho p v hx hy hr (hK _ _ h)
/-- behind the two tables' laying; j places done -/
structure AddAt (w : World) (b g : Nat) (f : UInt8) (s l : List UInt8) (j : Nat) (wr : World) : Prop where
  low : Cells wr g 179 (bvs (lowT f))
  high : Cells wr (g + 1) 179 (bvs (highT f))
  sum : Blk wr b (addP s l f j)
  keep : Kept (fun k => k ≠ b) w wr
  past : w.heap.size ≤ g
  less : b < w.heap.size
theorem AddAt.start {w w1 : World} {b : Nat} {f : UInt8} {s l : List UInt8} (hb : Blk w b s) (h : Below w.heap.size w w1) :
    ∀ (z : List Value), z.length = 16 → ∀ W2, W2 = (w1.alloc (.cells z.toArray 179)).alloc (.cells z.toArray 179) →
    (Instr.storeAt 179 (.pointer (some ⟨w1.heap.size, 0, none⟩)) (.agg (bvs (lowT f)).toArray)).run Tryd.prog W2 = .ok () (W2.setRow w1.heap.size (bvs (lowT f)).toArray) ∧
    (Instr.storeAt 179 (.pointer (some ⟨w1.heap.size + 1, 0, none⟩)) (.agg (bvs (highT f)).toArray)).run Tryd.prog (W2.setRow w1.heap.size (bvs (lowT f)).toArray) = .ok () ((W2.setRow w1.heap.size (bvs (lowT f)).toArray).setRow (w1.heap.size + 1) (bvs (highT f)).toArray) ∧
    AddAt w b w1.heap.size f s l 0 ((W2.setRow w1.heap.size (bvs (lowT f)).toArray).setRow (w1.heap.size + 1) (bvs (highT f)).toArray) := by
  intro z hz W2 hW
  have b1 : (bvs (lowT f)).length = 16 := by rw [bvs_length, lowT_length]
  have b2 : (bvs (highT f)).length = 16 := by rw [bvs_length, highT_length]
  have c1 : Cells W2 w1.heap.size 179 z := by
    have := (Cells.new w1 z.toArray 179).alloc (.cells z.toArray 179)
    rw [hW]; simpa using this
  have c2 : Cells W2 (w1.heap.size + 1) 179 z := by
    have := Cells.new (w1.alloc (.cells z.toArray 179)) z.toArray 179
    rw [hW]; simpa using this
  have c3 : Cells (W2.setRow w1.heap.size (bvs (lowT f)).toArray) (w1.heap.size + 1) 179 z := c2.move (setRow_other _ _ _ _ (by omega))
  have hs := h.size
  have hlt := hb.lt
  have hz2 : W2.heap.size = w1.heap.size + 2 := by rw [hW]; simp
  refine ⟨storeV_tab c1 hz b1 (bvs_one _), storeV_tab c3 hz b2 (bvs_one _), (setRow_cells c1).move (setRow_other _ _ _ _ (by omega)), setRow_cells c3, ?_, ?_, hs, hlt⟩
  · have e : addP s l f 0 = s := by simp [addP]
    rw [e]
    unfold Blk
    rw [setRow_other _ _ _ _ (by omega), setRow_other _ _ _ _ (by omega), hW, Below.heap_alloc _ _ _ (by simp; omega), Below.heap_alloc _ _ _ (by omega), h.block b hlt]
    exact hb
  · have k1 : Kept (fun k => k ≠ b) w W2 := by
      rw [hW]
      exact ((Kept.refl _ w).below h |>.alloc _).alloc _
    exact ⟨k1.os, k1.tape, k1.output, by rw [setRow_size, setRow_size]; exact k1.size, fun k hk hK => by
      rw [setRow_other _ _ _ _ (by omega), setRow_other _ _ _ _ (by omega)]
      exact k1.block k hk hK⟩
theorem AddAt.step {w wr : World} {b g j : Nat} {f x y : UInt8} {s l : List UInt8} (h : AddAt w b g f s l j wr) (hl : s.length = l.length) (hx : s[j]? = some x) (hy : l[j]? = some y) :
    wr.cell? ⟨b, j, none⟩ = some (.int .u8 (x.toNat : Int)) ∧ wr.frozen? ⟨b, j, none⟩ = false ∧ AddAt w b g f s l (j + 1) (wr.setCell ⟨b, j, none⟩ (.int .u8 ((x ^^^ bm y f).toNat : Int))) := by
  have h1 := h.past
  have h2 := h.less
  have hget := addP_get s l f x j hl hx
  refine ⟨?_, h.sum.frozen j, h.low.move (Below.heap_setCell _ _ _ _ (by show g ≠ b; omega)), h.high.move (Below.heap_setCell _ _ _ _ (by show g + 1 ≠ b; omega)), ?_, h.keep.setCell (p := ⟨b, j, none⟩) (fun e => e rfl) _, h1, h2⟩
  · have hjl : j < (addP s l f j).length := (List.getElem?_eq_some_iff.1 hget).1
    rw [h.sum.cell hjl]
    rw [List.getElem?_eq_getElem hjl] at hget
    rw [Option.some.inj hget]
  · have := h.sum.set j (x ^^^ bm y f)
    rw [addP_step s l f x y j hl hx hy] at this
    exact this
theorem AddAt.drewN {w wr : World} {b g j : Nat} {f : UInt8} {s l : List UInt8} (h : AddAt w b g f s l j wr) (q : Nat) : AddAt w b g f s l j (wr.drewN q) := ⟨h.low, h.high, h.sum, h.keep.drewN q, h.past, h.less⟩
set_option maxHeartbeats 1600000 in
theorem add_list (b n c : Nat) (s l : List UInt8) (f : UInt8) (A : Option Addr) (cl B : Nat) (w : World) (hb : Blk w b s) (hn : n = s.length) (hl : s.length = l.length) (hr : RB w B A l) (hB : B ≤ b) (hm : n ≤ 1048576) :
    Calls Tryd.prog 96 #[.slice (some ⟨b, 0, none⟩) n c, .int .u8 (f.toNat : Int), .slice A n cl] w fun e w' => e = .returned (.tuple #[]) ∧ Blk w' b (addR s l f) ∧ Kept (fun k => k ≠ b) w w' := by
  have HP := Lib.hid (products_any f w)
  have Hb := Lib.hid hb
  have Hr : Hid (RB w B A l ∧ B ≤ b ∧ n = s.length ∧ s.length = l.length) := ⟨hr, hB, hn, hl⟩
  have hm' : (n : Int) ≤ 1048576 := by omega
  clear hb hr hB hn hl hm
  go_enter Tryd.func96, Tryd.ntmps96
  go_wp2_with fail
  refine HP.out.mono ?_
  rintro e w1 ⟨rfl, hb1⟩
  have HS := Lib.hid (AddAt.start (f := f) (l := l) Hb.out hb1 [.int .u8 0, .int .u8 0, .int .u8 0, .int .u8 0, .int .u8 0, .int .u8 0, .int .u8 0, .int .u8 0, .int .u8 0, .int .u8 0, .int .u8 0, .int .u8 0, .int .u8 0, .int .u8 0, .int .u8 0, .int .u8 0] rfl _ rfl)
  clear hb1 HP
  go_wp2_with (first | (refine list_store rfl 179 (.tmp 6) (.tmp 13) rfl _ _ (by rfl) (by rfl) HS.out.1 ?_) | (refine list_store rfl 179 (.tmp 7) (.tmp 14) rfl _ _ (by rfl) (by rfl) HS.out.2.1 ?_))
  have H0 := Lib.hid HS.out.2.2
  clear HS
  obtain ⟨g, hg⟩ : ∃ g, g = w1.heap.size := ⟨_, rfl⟩
  rw [← hg] at H0 ⊢
  clear hg
  go_loopw [8, 9, 17] (fun _ _ jv wr => ∃ j : Nat, jv = .int .i64 (j : Int) ∧ j ≤ n ∧ Hid (AddAt w b g f s l j wr)) (fun _ _ jv _ => n - (intOf jv).toNat)
  case atStart => exact ⟨0, rfl, Nat.zero_le _, H0.out⟩
  case round =>
    obtain ⟨j, rfl, hj, hrel⟩ := hrel
    by_cases hlt : j < n
    · obtain ⟨y, hy⟩ : ∃ y, s[j]? = some y := ⟨_, List.getElem?_eq_getElem (by have := Hr.out; omega)⟩
      obtain ⟨z, hz⟩ : ∃ z, l[j]? = some z := ⟨_, List.getElem?_eq_getElem (by have := Hr.out; omega)⟩
      obtain ⟨k1, k2, k3⟩ := hrel.out.step Hr.out.2.2.2 hy hz
      obtain ⟨b', o', rfl, hb'⟩ := Hr.out.1.flat (by have := Hr.out; omega)
      have k4 : wr.cell? ⟨b', o' + j, none⟩ = some (.int .u8 (z.toNat : Int)) := by
        obtain ⟨ad, e, _, hc⟩ := Hr.out.1 j z hz
        cases e
        rw [add_flat] at hc
        exact (World.cell?_of_block (hrel.out.keep.block b' (by have := hrel.out.less; have := Hr.out.2.1; omega) (by have := Hr.out.2.1; omega))).trans hc
      have hz8 := u8_lt z
      obtain ⟨lo, hlo⟩ : ∃ lo, lo = bm f (UInt8.ofNat (z.toNat % 16)) := ⟨_, rfl⟩
      obtain ⟨hi, hhi⟩ : ∃ hi, hi = bm f (UInt8.ofNat (z.toNat / 16 * 16)) := ⟨_, rfl⟩
      have hsum : lo ^^^ hi = bm z f := by rw [hlo, hhi]; exact half_mul f z
      have k5 : wr.cell? ⟨g, z.toNat % 16, none⟩ = some (.int .u8 (lo.toNat : Int)) := hrel.out.low.cell (by
        unfold bvs
        rw [List.getElem?_map, lowT_get f _ (by omega), hlo]; rfl)
      have k6 : wr.cell? ⟨g + 1, z.toNat / 16, none⟩ = some (.int .u8 (hi.toNat : Int)) := hrel.out.high.cell (by
        unfold bvs
        rw [List.getElem?_map, highT_get f _ (by omega), hhi]; rfl)
      have HA : Hid (∀ W, Calls Tryd.prog 107 #[.int .u8 (lo.toNat : Int), .int .u8 (hi.toNat : Int)] W fun e w' => e = .returned (.int .u8 ((bm z f).toNat : Int)) ∧ w' = W) := fun W => by
        have := add_any lo.toNat hi.toNat W (u8_lt lo) (u8_lt hi)
        rw [← bx_nat, hsum] at this
        exact this.mono fun _ _ ⟨a, b⟩ => ⟨a, b.symm⟩
      have HB : Hid (∀ W, Calls Tryd.prog 107 #[.int .u8 (y.toNat : Int), .int .u8 ((bm z f).toNat : Int)] W fun e w' => e = .returned (.int .u8 ((y ^^^ bm z f).toNat : Int)) ∧ w' = W) := fun W => by
        have := add_any y.toNat (bm z f).toNat W (u8_lt y) (u8_lt _)
        rw [← bx_nat] at this
        exact this.mono fun _ _ ⟨a, b⟩ => ⟨a, b.symm⟩
      have Hn := Lib.hid k3
      have e1 : bits .and .u8 (z.toNat : Int) 15 = ((z.toNat % 16 : Nat) : Int) := by
        have := u8_and_nat z.toNat 15 hz8 (by omega)
        rw [show z.toNat &&& 15 = z.toNat % 16 from Nat.and_two_pow_sub_one_eq_mod z.toNat 4] at this
        exact this
      have hlt' : (j : Int) < (n : Int) := by omega
      generalize (y ^^^ bm z f).toNat = s2 at *
      generalize (bm z f).toNat = zx at *
      generalize lo.toNat = lon at *
      generalize hi.toNat = hin at *
      generalize y.toNat = yn at *
      generalize z.toNat = zn at *
      have hz9 : (zn : Int) < 256 := by omega
      have e2 : (zn : Int) / 16 = ((zn / 16 : Nat) : Int) := by omega
      have hm1 : ((zn % 16 : Nat) : Int) < 16 := by omega
      have hm2 : ((zn / 16 : Nat) : Int) < 16 := by omega
      generalize zn % 16 = m1 at *
      generalize zn / 16 = m2 at *
      clear hlt hrel hy hz k3 hlo hhi hsum hz8 hb'
      go_wp2_with fail
      refine wp_region_still_tail 17 (by kernel_rfl) (by kernel_rfl) ?_
      simp only [List.take_succ_cons, List.take_zero, List.drop_succ_cons, List.drop_zero]
      repeat (first | still_step | still_call (HA.out _) | still_call (HB.out _))
      try refine wpStill_nil ?_
      change wpList _ _ _ _ _ wr.drew
      go_wp2_with fail
      go_roundw
      case rel => exact ⟨j + 1, by go_num, by omega, Hn.out.drewN 1⟩
      case measure => simp [intOf]; omega
    · obtain rfl : j = n := by omega
      have Hd : Hid (Blk wr b (addR s l f) ∧ Kept (fun k => k ≠ b) w wr) := by
        have h1 := hrel.out.sum
        rw [Hr.out.2.2.1, addP_done s l f Hr.out.2.2.2] at h1
        exact ⟨h1, hrel.out.keep⟩
      clear hlt hrel
      go_wp2_with fail
      go_end0
      exact ⟨rfl, Hd.out.1, Hd.out.2⟩
end Go.Proofs.YtlficcdbnmheeaaDoor

/-
  The program's times: rows of factors times lists of bytes, place by place.
-/
namespace Go.Proofs.YtlficcdbnmheeaaDoor
open Go.RowKit

set_option maxRecDepth 20000
/-- the first j lists, each multiplied, summed -/
def linK (row : List UInt8) (L : Mtx) (n : Nat) : Nat → List UInt8
  | 0 => List.replicate n 0
  | j + 1 => addR (linK row L n j) (L.getD j []) (row.getD j 0)
def lin (row : List UInt8) (L : Mtx) (n : Nat) : List UInt8 := linK row L n row.length
def linM (M L : Mtx) (n : Nat) : Mtx := M.map fun r => lin r L n
theorem linK_length (row : List UInt8) (L : Mtx) (n : Nat) (hL : ∀ (k : Nat) (l : List UInt8), L[k]? = some l → l.length = n) : ∀ j, j ≤ L.length → (linK row L n j).length = n
  | 0, _ => by simp [linK]
  | j + 1, h => by
    have hl := hL j _ (List.getElem?_eq_getElem (by omega))
    have ih := linK_length row L n hL j (by omega)
    show (addR _ _ _).length = n
    unfold addR
    rw [List.length_zipWith, ih, getD_of (List.getElem?_eq_getElem (by omega : j < L.length)), hl]
    omega
theorem linM_length (M L : Mtx) (n : Nat) : (linM M L n).length = M.length := by simp [linM]
theorem linM_get (M L : Mtx) (n i : Nat) (r : List UInt8) (h : M[i]? = some r) : (linM M L n)[i]? = some (lin r L n) := by
  unfold linM
  rw [List.getElem?_map, h]; rfl
def hdr (n b : Nat) : Value := .slice (some ⟨b, 0, none⟩) n n
/-- rows made so far: their blocks, all unlike, and what they hold -/
structure TimesAt (w : World) (N n : Nat) (M : Mtx) (bs : List Nat) (wr : World) : Prop where
  head : Cells wr w.heap.size 25 (bs.map (hdr n) ++ List.replicate (N - bs.length) (.slice none 0 0))
  rows : ∀ (i b : Nat) (l : List UInt8), bs[i]? = some b → M[i]? = some l → Blk wr b l ∧ l.length = n
  high : ∀ (i b : Nat), bs[i]? = some b → w.heap.size < b ∧ b < wr.heap.size
  apart : ∀ (i j b : Nat), bs[i]? = some b → bs[j]? = some b → i = j
  bel : Below w.heap.size w wr
theorem TimesAt.drewN {w wr : World} {N n : Nat} {M : Mtx} {bs : List Nat} (h : TimesAt w N n M bs wr) (q : Nat) : TimesAt w N n M bs (wr.drewN q) := ⟨h.head, h.rows, h.high, h.apart, drewN_below h.bel q⟩
theorem TimesAt.start (w : World) (N n : Nat) (M : Mtx) {cs : Array Value} (h : cs = (List.replicate N (.slice none 0 0)).toArray) : TimesAt w N n M [] (w.alloc (.cells cs 25)) := by
  refine ⟨?_, fun i b l hb => by simp at hb, fun i b hb => by simp at hb, fun i j b hb => by simp at hb, (Below.refl _ _).alloc (Nat.le_refl _) _⟩
  have hc := Cells.new w cs 25
  rw [h] at hc ⊢
  simpa using hc
/-- one more row, all 0 -/
theorem TimesAt.push {w wr : World} {N n : Nat} {M : Mtx} {bs : List Nat} (h : TimesAt w N n M bs wr) (hk : bs.length < N) (hM : bs.length < M.length) {ds : Array Value} (hd : ds = (bvs (List.replicate n 0)).toArray) :
    wr.cell? ⟨w.heap.size, bs.length, none⟩ = some (.slice none 0 0) ∧ wr.frozen? ⟨w.heap.size, bs.length, none⟩ = false ∧
    TimesAt w N n (M.set bs.length (List.replicate n 0)) (bs ++ [wr.heap.size]) ((wr.setCell ⟨w.heap.size, bs.length, none⟩ (.slice (some ⟨wr.heap.size, 0, none⟩) n n)).alloc (.cells ds 5)) := by
  have hg := h.head.lt
  have hl : (bs.map (hdr n)).length = bs.length := List.length_map _
  refine ⟨h.head.cell ?_, h.head.frozen _, ?_, ?_, ?_, ?_, ?_⟩
  · rw [List.getElem?_append_right (by omega), hl, Nat.sub_self, List.getElem?_replicate, if_pos (by omega)]
  · have := (h.head.set bs.length (.slice (some ⟨wr.heap.size, 0, none⟩) n n)).alloc (.cells ds 5)
    have e : (bs.map (hdr n) ++ List.replicate (N - bs.length) (Value.slice none 0 0)).set bs.length (.slice (some ⟨wr.heap.size, 0, none⟩) n n) = (bs ++ [wr.heap.size]).map (hdr n) ++ List.replicate (N - (bs ++ [wr.heap.size]).length) (Value.slice none 0 0) := by
      obtain ⟨m, hm⟩ : ∃ m, N - bs.length = m + 1 := ⟨N - bs.length - 1, by omega⟩
      rw [List.set_append_right _ _ (by omega), hl, Nat.sub_self, hm, List.replicate_succ, List.set_cons_zero, List.length_append, show N - (bs.length + [wr.heap.size].length) = m by simp; omega]
      simp [hdr]
    rw [e] at this
    exact this
  · intro i b l hb hl2
    by_cases hi : i < bs.length
    · rw [List.getElem?_append_left hi] at hb
      rw [List.getElem?_set_ne (by omega)] at hl2
      obtain ⟨r1, r2⟩ := h.rows i b l hb hl2
      refine ⟨Blk.alloc ?_ _, r2⟩
      unfold Blk
      rw [show (wr.setCell ⟨w.heap.size, bs.length, none⟩ (.slice (some ⟨wr.heap.size, 0, none⟩) n n)).heap[b]? = wr.heap[b]? from Below.heap_setCell _ _ _ _ (by have := (h.high i b hb).1; show b ≠ w.heap.size; omega)]
      exact r1
    · rw [List.getElem?_append_right (by omega)] at hb
      have hi0 : i - bs.length = 0 := by
        have := (List.getElem?_eq_some_iff.1 hb).1
        simp at this
        omega
      rw [hi0] at hb
      cases hb
      obtain rfl : i = bs.length := by omega
      rw [List.getElem?_set_self hM] at hl2
      cases hl2
      refine ⟨?_, by simp⟩
      have key := heap_alloc_new (wr.setCell ⟨w.heap.size, bs.length, none⟩ (.slice (some ⟨wr.heap.size, 0, none⟩) n n)) (.cells ds 5)
      rw [show (wr.setCell ⟨w.heap.size, bs.length, none⟩ (.slice (some ⟨wr.heap.size, 0, none⟩) n n)).heap.size = wr.heap.size by simp [World.setCell]] at key
      unfold Blk
      rw [key, hd]
  · intro i b hb
    have e : ((wr.setCell ⟨w.heap.size, bs.length, none⟩ (.slice (some ⟨wr.heap.size, 0, none⟩) n n)).alloc (.cells ds 5)).heap.size = wr.heap.size + 1 := by simp [World.setCell]
    rw [e]
    by_cases hi : i < bs.length
    · rw [List.getElem?_append_left hi] at hb
      have := h.high i b hb
      omega
    · rw [List.getElem?_append_right (by omega)] at hb
      have hi0 : i - bs.length = 0 := by
        have := (List.getElem?_eq_some_iff.1 hb).1
        simp at this
        omega
      rw [hi0] at hb
      cases hb
      omega
  · have low : ∀ i, i < bs.length → bs[i]? ≠ some wr.heap.size := fun i hi e => by have := (h.high i _ e).2; omega
    have last : ∀ i b, (bs ++ [wr.heap.size])[i]? = some b → (i < bs.length ∧ bs[i]? = some b) ∨ (i = bs.length ∧ b = wr.heap.size) := fun i b hb => by
      by_cases hi : i < bs.length
      · rw [List.getElem?_append_left hi] at hb
        exact .inl ⟨hi, hb⟩
      · rw [List.getElem?_append_right (by omega)] at hb
        have hi0 : i - bs.length = 0 := by
          have := (List.getElem?_eq_some_iff.1 hb).1
          simp at this
          omega
        rw [hi0] at hb
        cases hb
        exact .inr ⟨by omega, rfl⟩
    intro i j b hi hj
    rcases last i b hi with ⟨h1, h2⟩ | ⟨h1, h2⟩ <;> rcases last j b hj with ⟨h3, h4⟩ | ⟨h3, h4⟩
    · exact h.apart i j b h2 h4
    · rw [h4] at h2; exact absurd h2 (low i h1)
    · rw [h2] at h4; exact absurd h4 (low j h3)
    · omega
  · exact (h.bel.setCell (p := ⟨w.heap.size, bs.length, none⟩) (Nat.le_refl _) _).alloc (by have := h.bel.size; simp [World.setCell]; omega) _
/-- where a made row lies -/
theorem TimesAt.row {w wr : World} {N n : Nat} {M : Mtx} {bs : List Nat} (h : TimesAt w N n M bs wr) {i b : Nat} (hb : bs[i]? = some b) : wr.cell? ⟨w.heap.size, i, none⟩ = some (.slice (some ⟨b, 0, none⟩) n n) :=
  h.head.cell (by rw [List.getElem?_append_left (by rw [List.length_map]; exact (List.getElem?_eq_some_iff.1 hb).1), List.getElem?_map, hb]; rfl)
/-- one made row is another one now -/
theorem TimesAt.turn {w wr w1 : World} {N n : Nat} {M : Mtx} {bs : List Nat} {i b : Nat} {l : List UInt8} (h : TimesAt w N n M bs wr) (hb : bs[i]? = some b) (hk : Kept (fun k => k ≠ b) wr w1) (hl : Blk w1 b l) (hn : l.length = n) :
    TimesAt w N n (M.set i l) bs w1 := by
  have hh := h.high i b hb
  refine ⟨h.head.move (hk.block _ h.head.lt (by omega)), fun j c x hj hx => ?_, fun j c hj => ⟨(h.high j c hj).1, Nat.lt_of_lt_of_le (h.high j c hj).2 hk.size⟩, h.apart, ?_⟩
  · by_cases hij : j = i
    · subst hij
      rw [hb] at hj
      cases hj
      rw [List.getElem?_set_self (by have := (List.getElem?_eq_some_iff.1 hx).1; simpa using this)] at hx
      cases hx
      exact ⟨hl, hn⟩
    · rw [List.getElem?_set_ne (fun e => hij e.symm)] at hx
      obtain ⟨r1, r2⟩ := h.rows j c x hj hx
      refine ⟨?_, r2⟩
      unfold Blk
      rw [hk.block c (h.high j c hj).2 (fun e => by subst e; exact hij (h.apart j i c hj hb))]
      exact r1
  · exact h.bel.trans (hk.to_below (fun k hk' => by omega) h.bel.size)
theorem TimesAt.done {w wr : World} {N n : Nat} {M : Mtx} {bs : List Nat} (h : TimesAt w N n M bs wr) (hN : bs.length = N) (hM : M.length = N) (hN2 : N ≤ 255) (hn : 1 ≤ n) (hn2 : n ≤ 1048576) :
    MatO wr w.heap.size wr.heap.size (.slice (some ⟨w.heap.size, 0, none⟩) N N) M := by
  have hc := h.head
  have hl : (bs.map (hdr n)).length = N := by rw [List.length_map, hN]
  rw [hN, Nat.sub_self, List.replicate_zero, List.append_nil] at hc
  have hg : ∀ (i : Nat) rv, (bs.map (hdr n))[i]? = some rv → ∃ b, bs[i]? = some b ∧ rv = hdr n b := fun i rv hrv => by
    rw [List.getElem?_map] at hrv
    obtain ⟨b, hb, e⟩ := Option.map_eq_some_iff.1 hrv
    exact ⟨b, hb, e.symm⟩
  refine ⟨bs.map (hdr n), ?_, fun g hg' => by cases hg'; exact h.head.lt, by rw [hl, hM], fun i rv l hrv hll => ?_, fun i j ri rj g hij hri hrj hgi hgj => ?_⟩
  · have := OwnV.mk (base := w.heap.size) (e := 25) (xs := bs.map (hdr n)) (cap := N) (Nat.le_refl _) hc (by omega) (by simp only [maxLen]; omega) hl (List.take_of_length_le (by omega))
    rw [hl] at this
    exact this
  · obtain ⟨b, hb, rfl⟩ := hg i rv hrv
    obtain ⟨r1, r2⟩ := h.rows i b l hb hll
    refine ⟨by omega, ?_, fun g hg' => by cases hg'; exact (h.high i b hb).2⟩
    have := r1.own (base := w.heap.size) (by have := (h.high i b hb).1; omega) (by omega)
    rw [r2] at this
    exact this
  · obtain ⟨b, hb, rfl⟩ := hg i ri hri
    obtain ⟨c, hc', rfl⟩ := hg j rj hrj
    cases hgi
    have e5 : c = b := Option.some.inj hgj
    subst e5
    exact hij (h.apart i j c hb hc')
theorem info_rows22 : (Tryd.prog.info? 25).map (fun i => (i.zero, i.size, i.bytes)) = some (some (.slice none 0 0), 1, 24) := by kernel_rfl
/-- make([][]byte, n) -/
theorem make_lists (n : Nat) (hn : n ≤ 4096) : ∃ cs : Array Value, Hid (cs = (List.replicate n (.slice none 0 0)).toArray) ∧
    ∀ u : World, (Instr.makeSlice 34 (.int .i64 (n : Int)) (.int .i64 (n : Int))).run Tryd.prog u = .ok (.slice (some ⟨u.heap.size, 0, none⟩) n n) (u.alloc (.cells cs 25)) := by
  obtain ⟨i0, hi, hz0, hz1, hz2⟩ := info_parts info_row
  refine ⟨_, rfl, fun u => ?_⟩
  have h := run_make (P := Tryd.prog) u 34 25 i0 (.slice none 0 0) Tryd.underlying34 hi hz0 .i64 .i64 (n : Int) (n : Int) (by omega) (Int.le_refl _) (by rw [hz2]; omega) (by omega)
  rw [h]
  simp only [Int.toNat_natCast, hz1, Nat.mul_one]
  congr 3
  apply Array.toList_inj.1
  show (madeCells #[Value.slice none 0 0] n).toList = _
  rw [toList_madeCells_one]
/-- the loops' relation: i rows done, and of row i the first j lists -/
def TmRel (w : World) (M L : Mtx) (n i : Nat) (bs : List Nat) (wr : World) : Prop := bs.length = i ∧ TimesAt w M.length n (linM M L n) bs wr
set_option maxHeartbeats 1600000 in
theorem times_any' (A : Option Addr) (c : Nat) (M : Mtx) (A2 : Option Addr) (c2 K n : Nat) (L : Mtx) (w : World) (h : RM w w.heap.size A M) (h2 : RM w w.heap.size A2 L) (hM : M.length ≤ 255) (hM1 : 1 ≤ M.length) (hK : K = L.length) (hK1 : 1 ≤ K) (hK2 : K ≤ 255)
    (hr : ∀ (k : Nat) (l : List UInt8), M[k]? = some l → l.length = K) (hl : ∀ (k : Nat) (l : List UInt8), L[k]? = some l → l.length = n) (hn1 : 1 ≤ n) (hn2 : n ≤ 1048576) :
    Calls Tryd.prog 76 #[.slice A M.length c, .slice A2 K c2] w fun e w' => e = .returned (.slice (some ⟨w.heap.size, 0, none⟩) M.length M.length) ∧ MatO w' w.heap.size w'.heap.size (.slice (some ⟨w.heap.size, 0, none⟩) M.length M.length) (linM M L n) ∧ Below w.heap.size w w' := by
  obtain ⟨cs, Hcs, hmk⟩ := make_lists M.length (by omega)
  obtain ⟨ds, Hds, hmd⟩ := make_run n (by omega)
  have Hst := Lib.hid (TimesAt.start w M.length n (linM M L n) Hcs.out)
  have Hb : Hid (M.length ≤ 255 ∧ 1 ≤ K ∧ K ≤ 255 ∧ 1 ≤ n ∧ n ≤ 1048576 ∧ K = L.length ∧ (linM M L n).length = M.length) := ⟨hM, hK1, hK2, hn1, hn2, hK, linM_length _ _ _⟩
  obtain ⟨b2, o2, rfl, hb2⟩ := h2.at_ (by omega)
  obtain ⟨b1, o1, rfl, hb1⟩ := h.at_ (by omega)
  have Hh := Lib.hid h
  have H2 := Lib.hid h2
  have Hr := Lib.hid hr
  have Hl := Lib.hid hl
  obtain ⟨N, hN⟩ : ∃ N, N = M.length := ⟨_, rfl⟩
  have HN : Hid (N = M.length ∧ b1 < w.heap.size ∧ b2 < w.heap.size) := ⟨hN, hb1, hb2⟩
  have hN' : (N : Int) ≤ 255 := by omega
  have hK1' : (1 : Int) ≤ (K : Int) := by omega
  have hK2' : (K : Int) ≤ 255 := by omega
  have hn2' : (n : Int) ≤ 1048576 := by omega
  rw [← hN] at hmk ⊢
  clear h h2 hr hl hN hM hM1 hK hK1 hK2 hn1 hn2 hb1 hb2
  go_enter Tryd.func76, Tryd.ntmps76
  go_wp2_with fail
  obtain ⟨LM, hLM⟩ : ∃ LM, LM = linM M L n := ⟨_, rfl⟩
  have HLM : Hid (LM = linM M L n ∧ LM.length = N) := ⟨hLM, by rw [hLM, linM_length]; exact HN.out.1.symm⟩
  have Hs0 : Hid (TimesAt w N n LM [] (w.alloc (.cells cs 25))) := by rw [hLM, HN.out.1]; exact Hst.out
  clear hLM Hst
  go_loopw [6, 7, 15] (fun _ _ iv wr => ∃ (i : Nat) (bs : List Nat), iv = .int .i64 (i : Int) ∧ i ≤ N ∧ Hid (bs.length = i ∧ TimesAt w N n LM bs wr)) (fun _ _ iv _ => N - (intOf iv).toNat)
  case atStart => exact ⟨0, [], rfl, Nat.zero_le _, rfl, Hs0.out⟩
  case round =>
    obtain ⟨i, bs, rfl, hi, hrel⟩ := hrel
    by_cases hlt : i < N
    · have hlt' : (i : Int) < (N : Int) := by omega
      obtain ⟨row, hrow⟩ : ∃ row, M[i]? = some row := ⟨_, List.getElem?_eq_getElem (by have := HN.out.1; omega)⟩
      obtain ⟨Ai, ci, hci, hrb, _⟩ := Hh.out.row hrow
      have hrl := Hr.out i row hrow
      rw [hrl] at hci
      have k1 : wr.cell? ⟨b1, o1 + i, none⟩ = some (.slice Ai K ci) := (hrel.out.2.bel.cell (p := ⟨b1, o1 + i, none⟩) HN.out.2.1).trans hci
      obtain ⟨l0, hl0⟩ : ∃ l0, L[0]? = some l0 := ⟨_, List.getElem?_eq_getElem (by have := Hb.out; omega)⟩
      obtain ⟨A0, c0, hc0, _, _⟩ := H2.out.row hl0
      rw [Hl.out 0 l0 hl0, Nat.add_zero] at hc0
      have k2 : wr.cell? ⟨b2, o2, none⟩ = some (.slice A0 n c0) := (hrel.out.2.bel.cell (p := ⟨b2, o2, none⟩) HN.out.2.2).trans hc0
      obtain ⟨q1, q2, q3⟩ := hrel.out.2.push (by rw [hrel.out.1]; exact hlt) (by rw [hrel.out.1, HLM.out.2]; exact hlt) Hds.out
      rw [hrel.out.1] at q1 q2 q3
      have hgl : w.heap.size < wr.heap.size := hrel.out.2.head.lt
      have q4 : (wr.alloc (.cells ds 5)).cell? ⟨w.heap.size, i, none⟩ = some (.slice none 0 0) := (World.cell?_alloc_lt wr _ ⟨w.heap.size, i, none⟩ hgl).trans q1
      have hne : ¬ wr.heap.size = w.heap.size := by omega
      have Hrow : Hid (row.length = K ∧ RB w w.heap.size Ai row ∧ lin row L n = linK row L n K ∧ LM[i]? = some (lin row L n)) := ⟨hrl, hrb, by unfold lin; rw [hrl], by rw [HLM.out.1]; exact linM_get M L n i row hrow⟩
      have Hq : Hid (TimesAt w N n (LM.set i (linK row L n 0)) (bs ++ [wr.heap.size]) ((wr.setCell ⟨w.heap.size, i, none⟩ (.slice (some ⟨wr.heap.size, 0, none⟩) n n)).alloc (.cells ds 5)) ∧ (bs ++ [wr.heap.size])[i]? = some wr.heap.size ∧ (bs ++ [wr.heap.size]).length = i + 1) := ⟨q3, by rw [← hrel.out.1, List.getElem?_append_right (Nat.le_refl _), Nat.sub_self]; rfl, by rw [List.length_append, hrel.out.1]; rfl⟩
      generalize bs ++ [wr.heap.size] = bt at *
      obtain ⟨g, hg⟩ : ∃ g, g = w.heap.size := ⟨_, rfl⟩
      have HG := Lib.hid hg
      rw [← hg] at q1 q2 q4 hne Hq hgl ⊢
      clear hg hrow hci hrb hl0 hc0 q3 hrel hlt hrl
      go_wp2_with fail
      obtain ⟨b, hbb⟩ : ∃ b, b = wr.heap.size := ⟨_, rfl⟩
      rw [← hbb] at Hq ⊢
      clear hbb q1 q2 q4 hne hgl hmd k1 k2
      go_loopw [8, 9, 30] (fun _ _ jv wz => ∃ j : Nat, jv = .int .i64 (j : Int) ∧ j ≤ K ∧ Hid (TimesAt w N n (LM.set i (linK row L n j)) bt wz)) (fun _ _ jv _ => K - (intOf jv).toNat)
      case atStart => exact ⟨0, rfl, Nat.zero_le _, Hq.out.1⟩
      case round =>
        obtain ⟨j, rfl, hj, hrel⟩ := hrel
        by_cases hjl : j < K
        · have hjl' : (j : Int) < (K : Int) := by omega
          obtain ⟨b', o', rfl, hb'⟩ := Hrow.out.2.1.flat (by have := Hrow.out.1; omega)
          obtain ⟨x, hx⟩ : ∃ x, row[j]? = some x := ⟨_, List.getElem?_eq_getElem (by have := Hrow.out.1; omega)⟩
          have k1 : wr.cell? ⟨b', o' + j, none⟩ = some (.int .u8 (x.toNat : Int)) := by
            obtain ⟨ad, e, _, hc⟩ := Hrow.out.2.1 j x hx
            cases e
            rw [add_flat] at hc
            exact (hrel.out.bel.cell (p := ⟨b', o' + j, none⟩) hb').trans hc
          obtain ⟨l, hl⟩ : ∃ l, L[j]? = some l := ⟨_, List.getElem?_eq_getElem (by have := Hb.out; omega)⟩
          obtain ⟨Aj, cj, hcj, hlb, _⟩ := H2.out.row hl
          have hln := Hl.out j l hl
          rw [hln] at hcj
          have k2 : wr.cell? ⟨b2, o2 + j, none⟩ = some (.slice Aj n cj) := (hrel.out.bel.cell (p := ⟨b2, o2 + j, none⟩) HN.out.2.2).trans hcj
          have k3 := hrel.out.row Hq.out.2.1
          rw [← HG.out] at k3
          obtain ⟨r1, r2⟩ := hrel.out.rows i b (linK row L n j) Hq.out.2.1 (List.getElem?_set_self (by have := HLM.out.2; omega))
          have hhb := (hrel.out.high i b Hq.out.2.1).1
          have HC := Lib.hid (add_list b n n (linK row L n j) l x Aj cj w.heap.size wr.drew (show Blk wr.drew b _ from r1) r2.symm (by rw [r2, hln]) ((hlb.below hrel.out.bel).drewN 1) (by omega) (by have := Hb.out; omega))
          have Hn : Hid (∀ w1, Blk w1 b (addR (linK row L n j) l x) → Kept (fun k => k ≠ b) wr.drew w1 → TimesAt w N n (LM.set i (linK row L n (j + 1))) bt w1) := fun w1 h1 h2 => by
            have e : linK row L n (j + 1) = addR (linK row L n j) l x := by
              show addR _ _ _ = _
              rw [getD_of hl, List.getD_eq_getElem?_getD, hx]; rfl
            have := (hrel.out.drewN 1).turn Hq.out.2.1 h2 h1 (by rw [← e]; exact linK_length row L n Hl.out _ (by have := Hb.out; omega))
            rw [List.set_set, ← e] at this
            exact this
          have hx8 := x.toNat
          clear hx hl hcj hlb hrel hjl r1 r2 hhb hln hb'
          generalize addR (linK row L n j) l x = s2 at *
          go_wp2_with fail
          refine wp_region_still_tail 9 (by kernel_rfl) (by kernel_rfl) ?_
          simp only [List.take_succ_cons, List.take_zero, List.drop_succ_cons, List.drop_zero]
          repeat still_step
          try refine wpStill_nil ?_
          change wpList _ _ _ _ _ wr.drew
          go_wp2_with fail
          refine HC.out.mono ?_
          rintro e w1 ⟨rfl, h1, h2⟩
          have Hn1 := Lib.hid (Hn.out w1 h1 h2)
          clear h1 h2 HC Hn
          go_wp2_with fail
          go_roundw
          case rel => exact ⟨j + 1, by go_num, by omega, Hn1.out⟩
          case measure => simp [intOf]; omega
        · obtain rfl : j = K := by omega
          have Hn : Hid (bt.length = i + 1 ∧ TimesAt w N n LM bt wr) := ⟨Hq.out.2.2, by
            have h1 := hrel.out
            rw [← Hrow.out.2.2.1] at h1
            have e : LM.set i (lin row L n) = LM := by
              apply List.ext_getElem?
              intro t
              rw [List.getElem?_set]
              by_cases e : i = t
              · subst e; rw [if_pos rfl, if_pos (by have := HLM.out.2; omega), Hrow.out.2.2.2]
              · rw [if_neg e]
            rw [e] at h1
            exact h1⟩
          clear hjl hrel
          go_wp2_with fail
          go_roundw
          case rel => exact ⟨i + 1, bt, by go_num, by omega, Hn.out⟩
          case measure => simp [intOf]; omega
    · obtain rfl : i = N := by omega
      have Hd : Hid (MatO wr w.heap.size wr.heap.size (.slice (some ⟨w.heap.size, 0, none⟩) i i) LM ∧ Below w.heap.size w wr) := ⟨hrel.out.2.done hrel.out.1 HLM.out.2 (by have := Hb.out; have := HN.out; omega) (by have := Hb.out; omega) (by have := Hb.out; omega), hrel.out.2.bel⟩
      clear hlt hrel
      go_wp2_with fail
      go_ret
      exact ⟨rfl, by rw [← HLM.out.1]; exact Hd.out.1, Hd.out.2⟩
end Go.Proofs.YtlficcdbnmheeaaDoor

/-
  The program's mustFit, parted, mustBeThere.
-/
namespace Go.Proofs.YtlficcdbnmheeaaDoor
open Go.RowKit

set_option maxRecDepth 20000
/-- how long those are that hold something; none, if two are unlike -/
def fitS : Nat → Mtx → Option Nat
  | n, [] => some n
  | n, l :: t => if n ≠ 0 ∧ l.length ≠ 0 ∧ l.length ≠ n then none else fitS (max n l.length) t
theorem fitS_some : ∀ (S : Mtx) (n m : Nat), fitS n S = some m → n ≤ m ∧ (∀ l ∈ S, l.length = 0 ∨ l.length = m) ∧ (n ≠ 0 → m = n) ∧ ((∀ l ∈ S, l.length = 0) → m = n)
  | [], n, m, h => by
    cases h
    exact ⟨Nat.le_refl _, (by intro l hl; cases hl), fun _ => rfl, fun _ => rfl⟩
  | l :: t, n, m, h => by
    unfold fitS at h
    by_cases hb : n ≠ 0 ∧ l.length ≠ 0 ∧ l.length ≠ n
    · rw [if_pos hb] at h; cases h
    · rw [if_neg hb] at h
      obtain ⟨h1, h2, h3, h4⟩ := fitS_some t _ m h
      refine ⟨by omega, fun x hx => ?_, fun hn => ?_, fun ha => ?_⟩
      · rcases List.mem_cons.1 hx with rfl | hx
        · by_cases h0 : x.length = 0
          · exact .inl h0
          · exact .inr (by rw [h3 (by omega)]; omega)
        · exact h2 x hx
      · rw [h3 (by omega)]; omega
      · have := ha l List.mem_cons_self
        have := h4 fun x hx => ha x (List.mem_cons_of_mem _ hx)
        omega
theorem fitS_none : ∀ (S : Mtx) (n : Nat), fitS n S = none → ∀ m, (n = 0 ∨ n = m) → ¬ ∀ l ∈ S, l.length = 0 ∨ l.length = m
  | [], n, h, _, _, _ => by cases h
  | l :: t, n, h, m, hm, ha => by
    unfold fitS at h
    have hl := ha l List.mem_cons_self
    by_cases hb : n ≠ 0 ∧ l.length ≠ 0 ∧ l.length ≠ n
    · omega
    · rw [if_neg hb] at h
      exact fitS_none t _ h m (by omega) fun x hx => ha x (List.mem_cons_of_mem _ hx)
theorem fitS_drop {S : Mtx} {k n : Nat} {l : List UInt8} (h : S[k]? = some l) : fitS n (S.drop k) = if n ≠ 0 ∧ l.length ≠ 0 ∧ l.length ≠ n then none else fitS (max n l.length) (S.drop (k + 1)) := by
  have hk := (List.getElem?_eq_some_iff.1 h).1
  rw [List.drop_eq_getElem_cons hk, (List.getElem?_eq_some_iff.1 h).2]; rfl
def pan (x : Int) : List PanicEntry := [{ v := .iface 30 (.int .i64 x), recovered := false }]
/-- what comes of a must: nothing, or the panic -/
def mayEnd (b : Bool) : Ending := if b then .returned (.tuple #[]) else .panicked (pan 1)
theorem mayEnd_no {b : Bool} (h : b = false) : Ending.panicked [{ v := .iface 30 (.int .i64 1), recovered := false }] = mayEnd b := by subst h; rfl
theorem mayEnd_yes {b : Bool} (h : b = true) : Ending.returned (.tuple #[]) = mayEnd b := by subst h; rfl
def fitB (n : Int) (S : Mtx) : Bool := decide ((S.length : Int) = n) && (fitS 0 S).isSome
set_option maxHeartbeats 1600000 in
theorem mustFit_any (n : Int) (A : Option Addr) (c N : Nat) (S : Mtx) (w : World) (B : Nat) (h : RM w B A S) (hN : N = S.length) (hN2 : N ≤ 4096) (hl : ∀ (k : Nat) (l : List UInt8), S[k]? = some l → l.length ≤ 1048576) :
    Calls Tryd.prog 74 #[.int .i64 n, .slice A N c] w fun e w' => e = mayEnd (fitB n S) ∧ w = w' := by
  by_cases hne : (N : Int) = n
  case neg =>
    have hb : ((N : Int) != n) = true := by simp; omega
    have Hr : Hid (fitB n S = false) := by
      unfold fitB
      rw [decide_eq_false (by rw [← hN]; exact hne)]; rfl
    clear h hN hl hne
    go_enter Tryd.func74, Tryd.ntmps74
    go_wp2_with fail
    exact ⟨rfl, mayEnd_no Hr.out, rfl⟩
  subst hne
  have Hst : Hid (fitS 0 (S.drop 0) = fitS 0 S) := rfl
  have Hres : Hid (fitB (N : Int) S = (fitS 0 S).isSome) := by
    unfold Hid fitB
    rw [decide_eq_true (by rw [← hN])]; rfl
  have Hh := Lib.hid h
  have HN := Lib.hid hN
  have Hl := Lib.hid hl
  have hN' : (N : Int) ≤ 4096 := by omega
  clear h hN hl hN2
  go_enter Tryd.func74, Tryd.ntmps74
  go_wp2_with fail
  go_loop [4, 6, 14] (fun lv _ iv => ∃ k g : Nat, lv = .int .i64 (g : Int) ∧ iv = .int .i64 (k : Int) ∧ k ≤ N ∧ Hid (fitS g (S.drop k) = fitS 0 S ∧ g ≤ 1048576)) (fun _ _ iv => N - (intOf iv).toNat)
  case atStart => exact ⟨0, 0, rfl, rfl, Nat.zero_le _, Hst.out, by omega⟩
  case round =>
    obtain ⟨k, g, rfl, rfl, hk, hrel⟩ := hrel
    by_cases hlt : k < N
    · obtain ⟨l, hx⟩ : ∃ l, S[k]? = some l := ⟨_, List.getElem?_eq_getElem (by rw [← HN.out]; exact hlt)⟩
      obtain ⟨b, o, A', c', rfl, hb, hc, _, _⟩ := Hh.out k l hx
      have hll := Hl.out k l hx
      have hs := fitS_drop (n := g) hx
      rw [hrel.out.1] at hs
      have hg2 := hrel.out.2
      have hlt' : (k : Int) < (N : Int) := by omega
      generalize l.length = m at *
      clear hx hb hlt hrel
      by_cases hbad : g ≠ 0 ∧ m ≠ 0 ∧ m ≠ g
      · have h1 : ((g : Int) != 0) = true := by simp; omega
        have h2 : ((m : Int) != 0) = true := by simp; omega
        have h3 : ((m : Int) != (g : Int)) = true := by simp; omega
        rw [if_pos hbad] at hs
        have Hs := Lib.hid hs
        clear hbad hs hll hg2
        go_wp2_with fail
        exact ⟨rfl, mayEnd_no (by rw [Hres.out, Hs.out]; rfl), rfl⟩
      rw [if_neg hbad] at hs
      have Hn : Hid (fitS (max g m) (S.drop (k + 1)) = fitS 0 S ∧ max g m ≤ 1048576) := ⟨hs.symm, by omega⟩
      clear hs
      by_cases hg0 : g = 0
      · subst hg0
        rw [Nat.zero_max] at Hn
        have hm' : (0 : Int) ≤ (m : Int) := by omega
        by_cases hm0 : m = 0
        · subst hm0
          clear hbad
          go_wp2_with fail
          go_round
          case rel => exact ⟨k + 1, 0, rfl, by go_num, by omega, Hn.out⟩
          case measure => simp [intOf]; omega
        · have hm1 : (0 : Int) < (m : Int) := by omega
          clear hbad hm0
          go_wp2_with fail
          go_round
          case rel => exact ⟨k + 1, m, rfl, by go_num, by omega, Hn.out⟩
          case measure => simp [intOf]; omega
      · have h1 : ((g : Int) != 0) = true := by simp; omega
        by_cases hm0 : m = 0
        · subst hm0
          rw [Nat.max_zero] at Hn
          have hm1 : ¬ (g : Int) < ((0 : Nat) : Int) := by omega
          clear hbad hg0
          go_wp2_with fail
          go_round
          case rel => exact ⟨k + 1, g, rfl, by go_num, by omega, Hn.out⟩
          case measure => simp [intOf]; omega
        · obtain rfl : m = g := by omega
          rw [Nat.max_self] at Hn
          have h2 : ((m : Int) != (m : Int)) = false := by simp
          clear hbad hg0 hm0
          go_wp2_with fail
          go_round
          case rel => exact ⟨k + 1, m, rfl, by go_num, by omega, Hn.out⟩
          case measure => simp [intOf]; omega
    · obtain rfl : k = N := by omega
      have Hd : Hid ((fitS 0 S).isSome = true) := by
        rw [← hrel.out.1, HN.out, List.drop_length]; rfl
      clear hlt hrel
      go_wp2_with fail
      go_end0
      exact ⟨mayEnd_yes (by rw [Hres.out, Hd.out]), rfl⟩
end Go.Proofs.YtlficcdbnmheeaaDoor

/-
  The program's parted, mustBeThere.
-/
namespace Go.Proofs.YtlficcdbnmheeaaDoor
open Go.RowKit

set_option maxRecDepth 20000
/-- the numbers, of the first i, of those that hold something; and of the others -/
def thereK (S : Mtx) : Nat → List Int
  | 0 => []
  | i + 1 => if (S.getD i []).length = 0 then thereK S i else thereK S i ++ [(i : Int)]
def missK (S : Mtx) : Nat → List Int
  | 0 => []
  | i + 1 => if (S.getD i []).length = 0 then missK S i ++ [(i : Int)] else missK S i
def thereL (S : Mtx) : List Int := thereK S S.length
def missL (S : Mtx) : List Int := missK S S.length
theorem part_length (S : Mtx) : ∀ i, (thereK S i).length + (missK S i).length = i
  | 0 => rfl
  | i + 1 => by
    have ih := part_length S i
    unfold thereK missK
    by_cases h : (S.getD i []).length = 0
    · rw [if_pos h, if_pos h, List.length_append, List.length_singleton]; omega
    · rw [if_neg h, if_neg h, List.length_append, List.length_singleton]; omega
def ints (l : List Int) : List Value := l.map (Value.int .i64)
theorem ints_length (l : List Int) : (ints l).length = l.length := List.length_map _
theorem ints_add (l : List Int) (x : Int) : ints (l ++ [x]) = ints l ++ [.int .i64 x] := by unfold ints; rw [List.map_append]; rfl
theorem info_int : (Tryd.prog.info? 3).map (fun i => (i.zero, i.size, i.bytes)) = some (some (.int .i64 0), 1, 8) := by kernel_rfl
/-- two lists of numbers, the call's own, that share no block -/
structure PartAt (w : World) (v2 v3 : Value) (l2 l3 : List Int) (wr : World) : Prop where
  one : OwnV wr w.heap.size 3 v2 (ints l2)
  two : OwnV wr w.heap.size 3 v3 (ints l3)
  apart : ∀ g, v2.ownBlock = some g → v3.ownBlock ≠ some g
  bel : Below w.heap.size w wr
theorem PartAt.alloc {w wr : World} {v2 v3 : Value} {l2 l3 : List Int} (h : PartAt w v2 v3 l2 l3 wr) (o : Obj) : PartAt w v2 v3 l2 l3 (wr.alloc o) := ⟨h.one.alloc o, h.two.alloc o, h.apart, h.bel.alloc h.bel.size o⟩
theorem PartAt.put2 {w wr w' : World} {v2 v3 v' : Value} {l2 l3 : List Int} {x : Int} (h : PartAt w v2 v3 l2 l3 wr) (ho : OwnV w' w.heap.size 3 v' (ints l2 ++ [.int .i64 x])) (hg : wr.grownBy w' v2.ownBlock) (hn : v'.ownBlock = v2.ownBlock ∨ v'.ownBlock = some wr.heap.size) :
    PartAt w v' v3 (l2 ++ [x]) l3 w' := by
  refine ⟨by rw [ints_add]; exact ho, h.two.move fun g hg3 => hg.block g (h.two.ge g hg3).2 (fun e => h.apart g e.symm hg3), fun g hgv hg3 => ?_, h.bel.grown hg h.bel.size fun g hg2 => (h.one.ge g hg2).1⟩
  rcases hn with hn | hn
  · exact h.apart g (by rw [← hn]; exact hgv) hg3
  · rw [hgv] at hn
    cases hn
    have := (h.two.ge _ hg3).2
    omega
theorem PartAt.put3 {w wr w' : World} {v2 v3 v' : Value} {l2 l3 : List Int} {x : Int} (h : PartAt w v2 v3 l2 l3 wr) (ho : OwnV w' w.heap.size 3 v' (ints l3 ++ [.int .i64 x])) (hg : wr.grownBy w' v3.ownBlock) (hn : v'.ownBlock = v3.ownBlock ∨ v'.ownBlock = some wr.heap.size) :
    PartAt w v2 v' l2 (l3 ++ [x]) w' := by
  refine ⟨h.one.move fun g hg2 => hg.block g (h.one.ge g hg2).2 (fun e => h.apart g hg2 e.symm), by rw [ints_add]; exact ho, fun g hg2 hgv => ?_, h.bel.grown hg h.bel.size fun g hg3 => (h.two.ge g hg3).1⟩
  rcases hn with hn | hn
  · exact h.apart g hg2 (by rw [← hn]; exact hgv)
  · rw [hgv] at hn
    cases hn
    have := (h.one.ge _ hg2).2
    omega
set_option maxHeartbeats 1600000 in
theorem parted_any (A : Option Addr) (c N : Nat) (S : Mtx) (w : World) (h : RM w w.heap.size A S) (hN : N = S.length) (hN2 : N ≤ 4096) :
    Calls Tryd.prog 95 #[.slice A N c] w fun e w' => ∃ v2 v3, e = .returned (.tuple #[v2, v3]) ∧ PartAt w v2 v3 (thereL S) (missL S) w' := by
  have Hst : Hid (PartAt w (.slice none 0 0) (.slice none 0 0) (thereK S 0) (missK S 0) w) := ⟨OwnV.nil _ _ _, OwnV.nil _ _ _, (by intro g hg; cases hg), Below.refl _ _⟩
  have Hh := Lib.hid h
  have HN : Hid (N = S.length ∧ N ≤ 4096) := ⟨hN, hN2⟩
  have hN' : (N : Int) ≤ 4096 := by omega
  clear h hN hN2
  go_enter Tryd.func95, Tryd.ntmps95
  go_wp2_with fail
  go_loopw [2, 3, 4, 5, 8] (fun v2 v3 _ _ iv wr => ∃ (k : Nat) (a b : Value), v2 = a ∧ v3 = b ∧ iv = .int .i64 (k : Int) ∧ k ≤ N ∧ Hid (PartAt w a b (thereK S k) (missK S k) wr)) (fun _ _ _ _ iv _ => N - (intOf iv).toNat)
  case atStart => exact ⟨0, _, _, rfl, rfl, rfl, Nat.zero_le _, Hst.out⟩
  case round =>
    obtain ⟨k, a, b, rfl, rfl, rfl, hk, hrel⟩ := hrel
    by_cases hlt : k < N
    · obtain ⟨l, hx⟩ : ∃ l, S[k]? = some l := ⟨_, List.getElem?_eq_getElem (by rw [← HN.out.1]; exact hlt)⟩
      obtain ⟨bb, o, A', c', rfl, hb, hc, _, _⟩ := Hh.out k l hx
      have k1 : wr.cell? ⟨bb, o + k, none⟩ = some (.slice A' l.length c') := (hrel.out.bel.cell (p := ⟨bb, o + k, none⟩) hb).trans hc
      have hlt' : (k : Int) < (N : Int) := by omega
      have hpl := part_length S k
      have Hk : Hid (k ≤ 4096 ∧ (ints (thereK S k)).length ≤ k ∧ (ints (missK S k)).length ≤ k) := ⟨by have := HN.out; omega, by rw [ints_length]; omega, by rw [ints_length]; omega⟩
      have hgd := getD_of hx
      have Hrel := Lib.hid hrel.out
      by_cases h0 : l.length = 0
      · have Hn : thereK S (k + 1) = thereK S k ∧ missK S (k + 1) = missK S k ++ [(k : Int)] := ⟨if_pos (by rw [hgd]; exact h0), if_pos (by rw [hgd]; exact h0)⟩
        have HN2 := Lib.hid Hn
        rw [h0] at k1
        clear Hn hx hb hc hrel hlt h0 hgd hpl
        go_wp2_with (at_builtin; go_must (refine app_one rfl (.tmp 16) (.tmp 18) 70 3 rfl Tryd.underlying70 _ 8 info_int rfl w.heap.size _ _ rfl (OwnV.alloc Hrel.out.two _) ⟨wr.heap.size, 0, none⟩ 1 (.int .i64 (k : Int)) rfl (cell_new _ _ _) rfl (by have := Hk.out; omega) (by have := Hk.out; omega) (by have := Hrel.out.bel.size; simp; omega) ?_); intro v9 W9 hown9 hg9 hn9; have Hn : Hid (PartAt w u2 v9 (thereK S (k + 1)) (missK S (k + 1)) W9) := by {rw [HN2.out.1, HN2.out.2]; exact (Hrel.out.alloc _).put3 hown9 hg9 hn9}; clear hown9 hg9 hn9 Hrel HN2)
        go_roundw
        case rel => exact ⟨k + 1, _, _, rfl, rfl, by go_num, by omega, Hn.out⟩
        case measure => simp [intOf]; omega
      · have h1 : ((l.length : Int) == 0) = false := by simp; intro e; exact h0 (by rw [e]; rfl)
        have Hn : thereK S (k + 1) = thereK S k ++ [(k : Int)] ∧ missK S (k + 1) = missK S k := ⟨if_neg (by rw [hgd]; exact h0), if_neg (by rw [hgd]; exact h0)⟩
        have HN2 := Lib.hid Hn
        generalize l.length = m at *
        clear Hn hx hb hc hrel hlt h0 hgd hpl
        go_wp2_with (at_builtin; go_must (refine app_one rfl (.tmp 20) (.tmp 22) 70 3 rfl Tryd.underlying70 _ 8 info_int rfl w.heap.size _ _ rfl (OwnV.alloc Hrel.out.one _) ⟨wr.heap.size, 0, none⟩ 1 (.int .i64 (k : Int)) rfl (cell_new _ _ _) rfl (by have := Hk.out; omega) (by have := Hk.out; omega) (by have := Hrel.out.bel.size; simp; omega) ?_); intro v9 W9 hown9 hg9 hn9; have Hn : Hid (PartAt w v9 u3 (thereK S (k + 1)) (missK S (k + 1)) W9) := by {rw [HN2.out.1, HN2.out.2]; exact (Hrel.out.alloc _).put2 hown9 hg9 hn9}; clear hown9 hg9 hn9 Hrel HN2)
        go_roundw
        case rel => exact ⟨k + 1, _, _, rfl, rfl, by go_num, by omega, Hn.out⟩
        case measure => simp [intOf]; omega
    · obtain rfl : k = N := by omega
      have Hd : Hid (PartAt w u2 u3 (thereL S) (missL S) wr) := by
        have := hrel.out
        rw [HN.out.1] at this
        exact this
      clear hlt hrel
      go_wp2_with fail
      go_ret2
      exact ⟨_, _, rfl, Hd.out⟩
end Go.Proofs.YtlficcdbnmheeaaDoor
