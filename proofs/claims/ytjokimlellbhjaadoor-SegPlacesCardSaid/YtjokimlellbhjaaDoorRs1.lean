/-
  The program's products: the two tables of half bytes.
-/
import Derived.Test.YtjokimlellbhjaaDoorGf13
import Derived.Deep.MidRow
import Derived.Deep.RegionHeld3
namespace Go.Proofs.YtjokimlellbhjaaDoor
open Go.RowKit

set_option maxRecDepth 20000
def lowT (f : UInt8) : List UInt8 := (List.range 16).map fun i => bm f (UInt8.ofNat i)
def highT (f : UInt8) : List UInt8 := (List.range 16).map fun i => bm f (UInt8.ofNat (i * 16))
theorem lowT_length (f : UInt8) : (lowT f).length = 16 := by simp [lowT]
theorem highT_length (f : UInt8) : (highT f).length = 16 := by simp [highT]
theorem lowT_get (f : UInt8) (i : Nat) (h : i < 16) : (lowT f)[i]? = some (bm f (UInt8.ofNat i)) := by
  unfold lowT
  rw [List.getElem?_map, List.getElem?_range h]; rfl
theorem highT_get (f : UInt8) (i : Nat) (h : i < 16) : (highT f)[i]? = some (bm f (UInt8.ofNat (i * 16))) := by
  unfold highT
  rw [List.getElem?_map, List.getElem?_range h]; rfl
/-- the first k of sixteen -/
def tabP (T : List UInt8) (k : Nat) : List UInt8 := T.take k ++ List.replicate (16 - k) 0
theorem tabP_length {T : List UInt8} (h : T.length = 16) {k : Nat} (hk : k ≤ 16) : (tabP T k).length = 16 := by
  simp [tabP, h]; omega
theorem tabP_step {T : List UInt8} (h : T.length = 16) {k : Nat} (hk : k < 16) {x : UInt8} (hx : T[k]? = some x) : (tabP T k).set k x = tabP T (k + 1) := by
  have hk' : k < T.length := by omega
  have e := (List.getElem?_eq_some_iff.1 hx).2
  unfold tabP
  obtain ⟨m, hm⟩ : ∃ m, 16 - k = m + 1 := ⟨16 - k - 1, by omega⟩
  rw [List.set_append_right _ _ (by simp; omega), List.length_take, show k - min k T.length = 0 by omega, hm, show 16 - (k + 1) = m by omega, List.replicate_succ, List.set_cons_zero, List.take_succ_eq_append_getElem hk', e]
  simp
theorem tabP_done {T : List UInt8} (h : T.length = 16) : tabP T 16 = T := by
  unfold tabP
  rw [List.take_of_length_le (by omega)]
  simp
theorem tabP_blank {T : List UInt8} (h : T.length = 16) {k : Nat} (hk : k < 16) : (bvs (tabP T k))[k]? = some (.int .u8 0) := by
  unfold tabP bvs
  rw [List.getElem?_map, List.getElem?_append_right (by simp; omega), List.getElem?_replicate]
  rw [if_pos (by simp; omega)]; rfl
theorem bvs_set (l : List UInt8) (i : Nat) (x : UInt8) : (bvs l).set i (.int .u8 (x.toNat : Int)) = bvs (l.set i x) := by
  unfold bvs
  rw [List.map_set]; rfl
theorem info16 : (Tryd.prog.info? 135).map (·.size) = some 16 := by kernel_rfl
theorem Cells.drewN {w : World} {b : Nat} {t : TypeId} {cs : List Value} (h : Cells w b t cs) (q : Nat) : Cells (w.drewN q) b t cs := h
theorem loadV_tab {w : World} {b : Nat} {cs : List Value} (h : Cells w b 135 cs) (hl : cs.length = 16) : (loadVar 135 ⟨b, 0, none⟩).run Tryd.prog w = .ok (.agg cs.toArray) w :=
  run_loadVar_row _ _ _ _ cs.toArray (0, 0) _ h Tryd.underlying135 rfl (by rw [info16]; simp [hl])
theorem load_tab {w : World} {b : Nat} {cs : List Value} (h : Cells w b 135 cs) (hl : cs.length = 16) : (Instr.loadAt 135 (.pointer (some ⟨b, 0, none⟩))).run Tryd.prog w = .ok (.agg cs.toArray) w := by
  simp only [Instr.loadAt, Instr.sureAddr, Sem.run_bind, Sem.run_pure, Result.andThen_ok, loadV_tab h hl]
theorem storeV_tab {w : World} {b : Nat} {cs ds : List Value} (h : Cells w b 135 cs) (hl : cs.length = 16) (hd : ds.length = 16) (h1 : ∀ u ∈ ds, u.oneCell' = true) : (Instr.storeAt 135 (.pointer (some ⟨b, 0, none⟩)) (.agg ds.toArray)).run Tryd.prog w = .ok () (w.setRow b ds.toArray) := by
  simp only [Instr.storeAt, Instr.sureAddr, Sem.run_bind, Sem.run_pure, Result.andThen_ok]
  exact run_storeVar_row w b _ _ cs.toArray ds.toArray h (by rw [info16]; simp [hd]) (by simp [hl, hd]) (all_oneCell_toArray h1)
theorem setRow_same {w : World} {b : Nat} {t : TypeId} {cs : List Value} (h : Cells w b t cs) : w.setRow b cs.toArray = w := by
  unfold World.setRow
  congr 1
  apply Array.ext_getElem?
  intro i
  rw [Array.getElem?_modify]
  by_cases e : b = i
  · subst e
    rw [if_pos rfl, h]; rfl
  · rw [if_neg e]
theorem store_tab {w : World} {b : Nat} {cs : List Value} (h : Cells w b 135 cs) (hl : cs.length = 16) (h1 : ∀ u ∈ cs, u.oneCell' = true) : (Instr.storeAt 135 (.pointer (some ⟨b, 0, none⟩)) (.agg cs.toArray)).run Tryd.prog w = .ok () w := by
  rw [storeV_tab h hl hl h1, setRow_same h]
/-- a load in a region that leaves its world as it is -/
theorem yields_load {ops : Array Oper} {w0 : World} {o : Oper} {a : Act} (hgd : o.guard = none) (ty : TypeId) (x : Operand) (ho : o.op = .load ty x) (p v : Value) (hx : a.eval x = p)
    (hr : (Instr.loadAt ty p).run Tryd.prog w0 = .ok v w0) : YieldsIf Tryd.prog ops (fun W => W = w0) o v a :=
  .inl ⟨by simp only [Region.wanted, hgd], fun W hW => by
    subst hW
    simp only [execOp, ho, hx, Sem.run_bind, hr, Result.andThen_ok, Sem.run_pure]⟩
/-- a store, by its run -/
theorem wp_storeAt {w w' : World} {Q : Exit → Act → World → Prop} {K : Act → World → Prop} {o : Oper} {a : Act} (ty : TypeId) (x y : Operand) (ho : o.op = .store ty x y) (p v : Value) (hx : a.eval x = p) (hy : a.eval y = v)
    (hr : (Instr.storeAt ty p v).run Tryd.prog w = .ok () w') (h : K (a.put o.dst undef) w') : o.wp Tryd.prog a w K Q := by
  unfold Oper.wp execOp
  simp only [ho, hx, hy, Sem.run_bind, hr, Result.andThen_ok, Sem.run_pure, Oper.upon]
  exact h
theorem results_cells2 {fn : Func} {p q : Tmp} {s t : TypeId} (h : fn.results = #[.cell p s, .cell q t]) (tmps : Array Value) (w : World) (a b : Addr) (u v : Value) (ha : tmps.getD p undef = .pointer (some a)) (hb : tmps.getD q undef = .pointer (some b))
    (h1 : (loadVar s a).run Tryd.prog w = .ok u w) (h2 : (loadVar t b).run Tryd.prog w = .ok v w) : (results fn tmps).run Tryd.prog w = .ok (.tuple #[u, v]) w := by
  have ha' : tmps[p]?.getD undef = .pointer (some a) := by simpa using ha
  have hb' : tmps[q]?.getD undef = .pointer (some b) := by simpa using hb
  simp [results, h, ha', hb', asAddr, h1, h2]
structure TabRel (w : World) (T1 T2 : List UInt8) (j k : Nat) (wr : World) : Prop where
  one : Cells wr w.heap.size 135 (bvs (tabP T1 j))
  two : Cells wr (w.heap.size + 1) 135 (bvs (tabP T2 k))
  bel : Below w.heap.size w wr
theorem TabRel.step {w wr : World} {T1 T2 : List UInt8} {k : Nat} {x y : UInt8} (h : TabRel w T1 T2 k k wr) (hk : k < 16) (h1 : T1.length = 16) (h2 : T2.length = 16) (hx : T1[k]? = some x) (hy : T2[k]? = some y) :
    TabRel w T1 T2 (k + 1) (k + 1) ((wr.setCell ⟨w.heap.size, k, none⟩ (.int .u8 (x.toNat : Int))).setCell ⟨w.heap.size + 1, k, none⟩ (.int .u8 (y.toNat : Int))) := by
  refine ⟨?_, ?_, (h.bel.setCell (p := ⟨w.heap.size, k, none⟩) (Nat.le_refl _) _).setCell (p := ⟨w.heap.size + 1, k, none⟩) (Nat.le_succ _) _⟩
  · have := h.one.set k (.int .u8 (x.toNat : Int))
    rw [bvs_set, tabP_step h1 hk hx] at this
    exact this.move (Below.heap_setCell _ _ _ _ (by show w.heap.size ≠ w.heap.size + 1; omega))
  · have := (h.two.move (w' := wr.setCell ⟨w.heap.size, k, none⟩ (.int .u8 (x.toNat : Int))) (Below.heap_setCell _ _ _ _ (by show w.heap.size + 1 ≠ w.heap.size; omega))).set k (.int .u8 (y.toNat : Int))
    rw [bvs_set, tabP_step h2 hk hy] at this
    exact this
theorem products_any (f : UInt8) (w : World) :
    Calls Tryd.prog 81 #[.int .u8 (f.toNat : Int)] w fun e w' => e = .returned (.tuple #[.agg (bvs (lowT f)).toArray, .agg (bvs (highT f)).toArray]) ∧ Below w.heap.size w w' := by
  have HM : Hid (∀ (x : UInt8) W, Calls Tryd.prog 83 #[.int .u8 (f.toNat : Int), .int .u8 (x.toNat : Int)] W fun e w' => e = .returned (.int .u8 ((bm f x).toNat : Int)) ∧ w' = W) := fun x W => by
    have := mul_any f.toNat x.toNat W (u8_lt f) (u8_lt x)
    rw [← bm_nat] at this
    exact this.mono fun _ _ ⟨a, b⟩ => ⟨a, b.symm⟩
  have Hst : Hid (∀ W, W = (w.alloc (.cells (bvs (List.replicate 16 0)).toArray 135)).alloc (.cells (bvs (List.replicate 16 0)).toArray 135) → TabRel w (lowT f) (highT f) 0 0 W) := fun W hW => by
    subst hW
    refine ⟨?_, ?_, ((Below.refl _ _).alloc (Nat.le_refl _) _).alloc (by simp) _⟩
    · have := (Cells.new w (bvs (List.replicate 16 0)).toArray 135).alloc (.cells (bvs (List.replicate 16 0)).toArray 135)
      simpa [tabP] using this
    · have := Cells.new (w.alloc (.cells (bvs (List.replicate 16 0)).toArray 135)) (bvs (List.replicate 16 0)).toArray 135
      simpa [tabP] using this
  go_enter Tryd.func81, Tryd.ntmps81
  go_wp2_with fail
  have Hs0 := Lib.hid (Hst.out _ rfl)
  clear Hst
  go_loopw [5] (fun iv wr => ∃ k : Nat, iv = .int .i64 (k : Int) ∧ k ≤ 16 ∧ Hid (TabRel w (lowT f) (highT f) k k wr)) (fun iv _ => 16 - (intOf iv).toNat)
  case atStart => exact ⟨0, rfl, Nat.zero_le _, Hs0.out⟩
  case round =>
    obtain ⟨k, rfl, hk, hrel⟩ := hrel
    by_cases hlt : k < 16
    · have hlt' : (k : Int) < 16 := by omega
      have c1 : wr.cell? ⟨w.heap.size, k, none⟩ = some (.int .u8 0) := hrel.out.one.cell (tabP_blank (lowT_length f) hlt)
      have c2 : wr.frozen? ⟨w.heap.size, k, none⟩ = false := hrel.out.one.frozen k
      have c3 : wr.cell? ⟨w.heap.size + 1, k, none⟩ = some (.int .u8 0) := hrel.out.two.cell (tabP_blank (highT_length f) hlt)
      have c4 : wr.frozen? ⟨w.heap.size + 1, k, none⟩ = false := hrel.out.two.frozen k
      have e1 : (UInt8.ofNat k).toNat = k := by rw [UInt8.toNat_ofNat']; omega
      have e2 : (UInt8.ofNat (k * 16)).toNat = k * 16 := by rw [UInt8.toNat_ofNat']; omega
      have HM1 := Lib.hid (HM.out (UInt8.ofNat k))
      have HM2 := Lib.hid (HM.out (UInt8.ofNat (k * 16)))
      rw [e1] at HM1
      rw [e2, show ((k * 16 : Nat) : Int) = (k : Int) * 16 by omega] at HM2
      have Hn : Hid (TabRel w (lowT f) (highT f) (k + 1) (k + 1) ((wr.setCell ⟨w.heap.size, k, none⟩ (.int .u8 ((bm f (UInt8.ofNat k)).toNat : Int))).setCell ⟨w.heap.size + 1, k, none⟩ (.int .u8 ((bm f (UInt8.ofNat (k * 16))).toNat : Int)))) := hrel.out.step hlt (lowT_length f) (highT_length f) (lowT_get f k hlt) (highT_get f k hlt)
      generalize (bm f (UInt8.ofNat k)).toNat = x1 at *
      generalize (bm f (UInt8.ofNat (k * 16))).toNat = x2 at *
      clear Hs0 HM e1 e2 hrel hlt
      obtain ⟨g, hg⟩ : ∃ g, g = w.heap.size := ⟨_, rfl⟩
      have HG := Lib.hid hg
      rw [← hg] at c1 c2 c3 c4 Hn ⊢
      clear hg
      go_wp2_with fail
      refine (HM1.out _).mono ?_
      rintro e w1 ⟨rfl, rfl⟩
      go_wp2_with fail
      refine (HM2.out _).mono ?_
      rintro e w2 ⟨rfl, rfl⟩
      go_wp2_with fail
      go_roundw
      case rel => exact ⟨k + 1, by go_num, by omega, Hn.out⟩
      case measure => simp [intOf]; omega
    · obtain rfl : k = 16 := by omega
      have q1 := hrel.out.one
      have q2 := hrel.out.two
      rw [tabP_done (lowT_length f)] at q1
      rw [tabP_done (highT_length f)] at q2
      have b1 : (bvs (lowT f)).length = 16 := by rw [bvs_length, lowT_length]
      have b2 : (bvs (highT f)).length = 16 := by rw [bvs_length, highT_length]
      have l1 := fun q => load_tab (q1.drewN q) b1
      have l2 := fun q => load_tab (q2.drewN q) b2
      have v1 := fun q => loadV_tab (q1.drewN q) b1
      have v2 := fun q => loadV_tab (q2.drewN q) b2
      have s1 := fun q => store_tab (q1.drewN q) b1 (bvs_one _)
      have s2 := fun q => store_tab (q2.drewN q) b2 (bvs_one _)
      have Hbe := Lib.hid hrel.out.bel
      obtain ⟨t1, ht1⟩ : ∃ t1, t1 = (bvs (lowT f)).toArray := ⟨_, rfl⟩
      obtain ⟨t2, ht2⟩ : ∃ t2, t2 = (bvs (highT f)).toArray := ⟨_, rfl⟩
      have Ht : Hid (t1 = (bvs (lowT f)).toArray ∧ t2 = (bvs (highT f)).toArray) := ⟨ht1, ht2⟩
      rw [← ht1] at l1 v1 s1
      rw [← ht2] at l2 v2 s2
      have l1' : (Instr.loadAt 135 (.pointer (some ⟨w.heap.size, 0, none⟩))).run Tryd.prog wr.drew = .ok (.agg t1) wr.drew := l1 1
      have l2' : (Instr.loadAt 135 (.pointer (some ⟨w.heap.size + 1, 0, none⟩))).run Tryd.prog wr.drew = .ok (.agg t2) wr.drew := l2 1
      have v1' : (loadVar 135 ⟨w.heap.size, 0, none⟩).run Tryd.prog wr.drew = .ok (.agg t1) wr.drew := v1 1
      have v2' : (loadVar 135 ⟨w.heap.size + 1, 0, none⟩).run Tryd.prog wr.drew = .ok (.agg t2) wr.drew := v2 1
      have s1' : (Instr.storeAt 135 (.pointer (some ⟨w.heap.size, 0, none⟩)) (.agg t1)).run Tryd.prog wr.drew = .ok () wr.drew := s1 1
      have s2' : (Instr.storeAt 135 (.pointer (some ⟨w.heap.size + 1, 0, none⟩)) (.agg t2)).run Tryd.prog wr.drew = .ok () wr.drew := s2 1
      clear q1 q2 b1 b2 Hs0 HM hrel hlt l1 l2 v1 v2 s1 s2 ht1 ht2
      obtain ⟨g, hg⟩ : ∃ g, g = w.heap.size := ⟨_, rfl⟩
      have HG := Lib.hid hg
      rw [← hg] at l1' l2' v1' v2' s1' s2' ⊢
      clear hg
      go_wp2_with fail
      refine wp_region_noPanic ?_
      refine wp_region_held_drew (S := fun W => W = wr.drew) (by kernel_rfl) rfl (fun hHeld => ?_)
      refine wpAnyH_take (i := 0) rfl (by kernel_rfl) (by kernel_rfl) (by kernel_rfl) (fun _ _ _ h => h) (yields_load rfl _ _ rfl _ _ rfl l1') rfl ?_
      refine wpAnyH_take (i := 1) rfl (by kernel_rfl) (by kernel_rfl) (by kernel_rfl) (fun _ _ _ h => h) (yields_load rfl _ _ rfl _ _ rfl l2') rfl ?_
      refine wpAnyH_ready (rs := [2]) (by kernel_rfl) (by simp) ?_
      refine AllReadyH.cons rfl (fun K hK => ?_) AllReadyH.nil
      rw [if_pos (by rfl)]
      refine wp_storeAt _ _ _ rfl _ _ rfl rfl s1' ?_
      refine hK.out _ _ rfl (fun _ => ?_)
      clear hK K
      refine wpAnyH_ready (rs := [3]) (by kernel_rfl) (by simp) ?_
      refine AllReadyH.cons rfl (fun K hK => ?_) AllReadyH.nil
      rw [if_pos (by rfl)]
      refine wp_storeAt _ _ _ rfl _ _ rfl rfl s2' ?_
      refine hK.out _ _ rfl (fun _ => ?_)
      clear hK K
      refine wpAnyH_done (by kernel_rfl) ?_ _
      refine NoPanic.normal ?_
      simp only [Act.put, List.getElem_toArray, List.getElem_cons_succ, List.getElem_cons_zero, List.setIfInBounds_toArray, List.set_cons_zero, List.set_cons_succ]
      go_wp2_with fail
      refine bodyPost_ret (v := .tuple #[.agg t1, .agg t2]) (results_cells2 rfl _ _ _ _ _ _ rfl rfl v1' v2') rfl ?_
      exact ⟨by rw [Ht.out.1, Ht.out.2], drewN_below Hbe.out 1⟩
end Go.Proofs.YtjokimlellbhjaaDoor
