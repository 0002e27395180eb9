/-
  take, TakeOn: a drive's lowest free unit is taken.
-/
import Derived.Test.YtffmipmkbbholaaAlPut
namespace Go.Proofs.Ytffmipmkbbholaa
open Go.RowKit Go.Maps

theorem load_unit (w : World) (b o : Nat) (x y : Int) (h0 : w.cell? ⟨b, o, none⟩ = some (.int .i64 x)) (h1 : w.cell? ⟨b, o + 1, none⟩ = some (.int .i64 y)) : (loadVar 24 ⟨b, o, none⟩).run Try.prog w = .ok (uV x y) w := by
  have hl := run_loadCells_list (P := Try.prog) (w := w) ⟨b, o, none⟩ [.int .i64 x, .int .i64 y] (fun j v hv => by
    rw [add_flat]
    match j with
    | 0 => simp at hv; subst hv; exact h0
    | 1 => simp at hv; subst hv; exact h1
    | j + 2 => simp at hv)
  simp only [loadVar, Sem.run_bind, Try.isAgg24, Result.andThen_ok, if_true, Try.sizeOf24]
  rw [show ([Value.int .i64 x, Value.int .i64 y] : List Value).length = 2 from rfl] at hl
  rw [hl]
  rfl
theorem results_cell1 {fn : Func} {p : Tmp} {s : TypeId} (h : fn.results = #[.cell p s]) (tmps : Array Value) (w : World) (a : Addr) (u : Value) (ha : tmps.getD p undef = .pointer (some a))
    (h1 : (loadVar s a).run Try.prog w = .ok u w) : (results fn tmps).run Try.prog w = .ok u w := by
  have ha' : tmps[p]?.getD undef = .pointer (some a) := by simpa using ha
  simp [results, h, ha', asAddr, h1]
theorem results_cell_tmp {fn : Func} {p q : Tmp} {s : TypeId} (h : fn.results = #[.cell p s, .tmp q]) (tmps : Array Value) (w : World) (a : Addr) (u : Value) (y : Value) (ha : tmps.getD p undef = .pointer (some a)) (hy : tmps.getD q undef = y)
    (h1 : (loadVar s a).run Try.prog w = .ok u w) : (results fn tmps).run Try.prog w = .ok (.tuple #[u, y]) w := by
  have ha' : tmps[p]?.getD undef = .pointer (some a) := by simpa using ha
  have hy' : tmps[q]?.getD undef = y := by simpa using hy
  simp [results, h, ha', hy', asAddr, h1]
theorem Kept.setNew {K : Nat → Prop} {w w' : World} (h : Kept K w w') {p : Addr} (hp : w.heap.size ≤ p.block) (u : Value) : Kept K w (w'.setCell p u) :=
  ⟨h.os, h.tape, h.output, by have := h.size; simp [World.setCell]; exact this, fun b hb hK => (Below.heap_setCell _ _ _ _ (by omega)).trans (h.block b hb hK)⟩
theorem TabAt.setNew {w w1 : World} {tb db mb cap D Z : Nat} {g g' : St} (h : TabAt w tb db mb cap D Z g) (h1 : TabAt w1 tb db mb cap D Z g') {b : Nat} (hb : w.heap.size ≤ b) (i : Nat) (v : Value) : TabAt (w1.setCell ⟨b, i, none⟩ v) tb db mb cap D Z g' :=
  h1.move (set_other _ _ (by have := h.tc.lt; omega)) (set_other _ _ (by have := h.dc.lt; omega)) (set_other _ _ (by have := h.mc.lt; omega))
/-- the lowest free unit of a drive is taken -/
def takeU (g : St) (Z d : Nat) : St := upd g d (low (g d) Z) 1
section
variable {w w' : World} {tb db mb cap D Z : Nat} {g : St}
set_option maxRecDepth 20000
set_option maxHeartbeats 1600000
theorem take_any (d : Nat) (hd : d < D) (hf : 0 < cnt (g d) 0 Z) (h : TabAt w tb db mb cap D Z g) :
    Calls Try.prog 32 #[.pointer (some ⟨tb, 0, none⟩), .int .i64 (d : Int)] w fun e w' => e = .returned (uV d (low (g d) Z : Nat)) ∧ TabAt w' tb db mb cap D Z (takeU g Z d) ∧ Kept (fun x => x ≠ db ∧ x ≠ mb) w w' := by
  have hl : low (g d) Z < Z := (low_free (g d) Z).2 hf
  have Hput : Hid (∀ w1, Kept (fun _ => True) w w1 → Calls Try.prog 38 #[.pointer (some ⟨tb, 0, none⟩), .agg #[.int .i64 (d : Int), .int .i64 (low (g d) Z : Nat)], .int .i64 1] w1 fun e w' => e = .returned (.tuple #[]) ∧ TabAt w' tb db mb cap D Z (takeU g Z d) ∧ Kept (fun x => x ≠ db ∧ x ≠ mb) w1 w') :=
    fun w1 hk => put_any (w := w1) d (low (g d) Z) 1 hd hl (by omega) (h.kept hk trivial trivial trivial)
  have t1 := fun o => (h.alloc o).t1
  have k4 : ∀ o, (w.alloc o).cell? ⟨db, d * 6 + 4, none⟩ = some (.int .i64 (d : Int)) := fun o => by rw [show d * 6 + 4 = 6 * d + 4 by omega]; exact (h.alloc o).dc.cellD hd
  have k5 : ∀ o, (w.alloc o).cell? ⟨db, d * 6 + 5, none⟩ = some (.int .i64 (low (g d) Z : Nat)) := fun o => by rw [show d * 6 + 5 = 6 * d + 5 by omega]; exact (h.alloc o).dc.cellL hd
  have hD : (D : Int) ≤ 32 := by have := h.d2; omega
  have hd' : (d : Int) < (D : Int) := by omega
  have Hne : Hid (w.heap.size ≠ db ∧ w.heap.size ≠ mb ∧ w.heap.size + 1 ≠ db ∧ w.heap.size + 1 ≠ mb) := by
    have := h.dc.lt
    have := h.mc.lt
    exact ⟨by omega, by omega, by omega, by omega⟩
  have H0 := Lib.hid h
  generalize low (g d) Z = L at *
  clear h
  go_enter Try.func32, Try.ntmps32
  go_wp2_with fail
  refine (Hput.out _ (((Kept.refl _ w).alloc _).alloc _)).mono ?_
  rintro e w1 ⟨rfl, h1⟩
  have Hc : Hid (Cells w1 w.heap.size 24 [.int .i64 0, .int .i64 0] ∧ Cells w1 (w.heap.size + 1) 24 [.int .i64 (d : Int), .int .i64 (L : Int)] ∧ TabAt w1 tb db mb cap D Z (takeU g Z d) ∧ Kept (fun x => x ≠ db ∧ x ≠ mb) w w1) := by
    have e1 : (w.alloc (.cells #[.int .i64 0, .int .i64 0] 24)).heap.size = w.heap.size + 1 := by simp
    refine ⟨((Cells.new w #[.int .i64 0, .int .i64 0] 24).alloc (.cells #[.int .i64 (d : Int), .int .i64 (L : Int)] 24)).move (h1.2.block _ (by simp; omega) ⟨Hne.out.1, Hne.out.2.1⟩), ?_, h1.1, (((Kept.refl _ w).alloc _).alloc _).trans h1.2⟩
    have := Cells.new (w.alloc (.cells #[.int .i64 0, .int .i64 0] 24)) #[.int .i64 (d : Int), .int .i64 (L : Int)] 24
    rw [e1] at this
    exact this.move (h1.2.block _ (by simp) ⟨Hne.out.2.2.1, Hne.out.2.2.2⟩)
  have a0 : w1.cell? ⟨w.heap.size + 1, 0, none⟩ = some (.int .i64 (d : Int)) := Hc.out.2.1.cell rfl
  have a1 : w1.cell? ⟨w.heap.size + 1, 1, none⟩ = some (.int .i64 (L : Int)) := Hc.out.2.1.cell rfl
  have b0 : w1.cell? ⟨w.heap.size, 0, none⟩ = some (.int .i64 0) := Hc.out.1.cell rfl
  have b1 : w1.cell? ⟨w.heap.size, 1, none⟩ = some (.int .i64 0) := Hc.out.1.cell rfl
  have f0 : w1.frozen? ⟨w.heap.size, 0, none⟩ = false := Hc.out.1.frozen 0
  have f1 : w1.frozen? ⟨w.heap.size, 1, none⟩ = false := Hc.out.1.frozen 1
  clear h1 t1 k4 k5
  go_wp2_with fail
  refine bodyPost_ret (v := uV d L) (results_cell1 rfl _ _ _ _ rfl (load_unit _ _ _ _ _ ?_ ?_)) rfl ?_
  · rw [World.cell?_setCell_other _ _ _ _ (by intro e; simp only [Addr.mk.injEq] at e; omega)]
    exact World.cell?_setCell_same _ _ _ b0
  · exact World.cell?_setCell_same' _ _ _ (by rw [World.cell?_setCell_other _ _ _ _ (by intro e; simp only [Addr.mk.injEq] at e; omega), b1]; rfl)
  · exact ⟨rfl, H0.out.setNew (H0.out.setNew Hc.out.2.2.1 (Nat.le_refl _) 0 _) (Nat.le_refl _) 1 _, ((Hc.out.2.2.2.setNew (p := ⟨w.heap.size, 0, none⟩) (Nat.le_refl _) _).setNew (p := ⟨w.heap.size, 1, none⟩) (Nat.le_refl _) _)⟩
/-- TakeOn's answer -/
def takeOnV (g : St) (D Z : Nat) (x : Int) : Value := if 0 ≤ x ∧ x < D then if 0 < cnt (g x.toNat) 0 Z then .tuple #[uV x (low (g x.toNat) Z : Nat), .int .i64 0] else .tuple #[uV 0 0, .int .i64 5] else .tuple #[uV 0 0, .int .i64 1]
def takeOnG (g : St) (D Z : Nat) (x : Int) : St := if 0 ≤ x ∧ x < D ∧ 0 < cnt (g x.toNat) 0 Z then takeU g Z x.toNat else g
theorem takeOn_any (x : Int) (h : TabAt w tb db mb cap D Z g) :
    Calls Try.prog 13 #[.pointer (some ⟨tb, 0, none⟩), .int .i64 x] w fun e w' => e = .returned (takeOnV g D Z x) ∧ TabAt w' tb db mb cap D Z (takeOnG g D Z x) ∧ Kept (fun x => x ≠ db ∧ x ≠ mb) w w' := by
  have Hh := Lib.hid fun o => has_any x (h.alloc o)
  have H0 := Lib.hid h
  by_cases hx : 0 ≤ x ∧ x < D
  · obtain ⟨d, rfl⟩ : ∃ d : Nat, x = (d : Int) := ⟨x.toNat, by omega⟩
    have hd : d < D := by omega
    rw [decide_eq_true hx] at Hh
    have Hf : Hid (∀ o, Calls Try.prog 22 #[.pointer (some ⟨tb, 0, none⟩), .int .i64 (d : Int)] (w.alloc o) fun e w' => e = .returned (.int .i64 (cnt (g d) 0 Z : Nat)) ∧ w' = w.alloc o) := fun o => by
      have := freeOn_any (d : Int) (h.alloc o)
      rwa [freeOn_nat g hd] at this
    by_cases hc : 0 < cnt (g d) 0 Z
    · rw [show takeOnV g D Z d = .tuple #[uV d (low (g d) Z : Nat), .int .i64 0] from by unfold takeOnV; rw [if_pos hx]; simp only [Int.toNat_natCast]; rw [if_pos hc],
        show takeOnG g D Z d = takeU g Z d from by unfold takeOnG; simp only [Int.toNat_natCast]; rw [if_pos ⟨hx.1, hx.2, hc⟩]]
      have Ht : Hid (∀ o, Calls Try.prog 32 #[.pointer (some ⟨tb, 0, none⟩), .int .i64 (d : Int)] (w.alloc o) fun e w' => e = .returned (uV d (low (g d) Z : Nat)) ∧ TabAt w' tb db mb cap D Z (takeU g Z d) ∧ Kept (fun x => x ≠ db ∧ x ≠ mb) (w.alloc o) w') := fun o => take_any d hd hc (h.alloc o)
      have hc' : ¬ ((cnt (g d) 0 Z : Nat) : Int) = 0 := by omega
      have Hne : Hid (w.heap.size ≠ db ∧ w.heap.size ≠ mb) := by
        have := h.dc.lt
        have := h.mc.lt
        exact ⟨by omega, by omega⟩
      generalize low (g d) Z = L at *
      generalize cnt (g d) 0 Z = C at *
      clear h hx hc
      go_enter Try.func13, Try.ntmps13
      go_wp2_with fail
      refine (Hh.out _).mono ?_
      rintro e w1 ⟨rfl, rfl⟩
      go_wp2_with fail
      refine (Hf.out _).mono ?_
      rintro e w1 ⟨rfl, rfl⟩
      go_wp2_with fail
      refine (Ht.out _).mono ?_
      rintro e w1 ⟨rfl, h1⟩
      have hcell : Cells w1 w.heap.size 24 [.int .i64 0, .int .i64 0] := (Cells.new w #[.int .i64 0, .int .i64 0] 24).move (h1.2.block _ (by simp) Hne.out)
      have Hc : Hid (TabAt w1 tb db mb cap D Z (takeU g Z d) ∧ Kept (fun x => x ≠ db ∧ x ≠ mb) w w1) := ⟨h1.1, ((Kept.refl _ w).alloc _).trans h1.2⟩
      have b0 : w1.cell? ⟨w.heap.size, 0, none⟩ = some (.int .i64 0) := hcell.cell rfl
      have b1 : w1.cell? ⟨w.heap.size, 1, none⟩ = some (.int .i64 0) := hcell.cell rfl
      have f0 : w1.frozen? ⟨w.heap.size, 0, none⟩ = false := hcell.frozen 0
      have f1 : w1.frozen? ⟨w.heap.size, 1, none⟩ = false := hcell.frozen 1
      unfold uV
      clear h1 hcell
      go_wp2_with fail
      refine bodyPost_ret (v := .tuple #[uV d L, .int .i64 0]) (results_cell_tmp rfl _ _ _ _ _ rfl rfl (load_unit _ _ _ _ _ ?_ ?_)) rfl ?_
      · rw [World.cell?_setCell_other _ _ _ _ (by intro e; simp only [Addr.mk.injEq] at e; omega)]
        exact World.cell?_setCell_same _ _ _ b0
      · exact World.cell?_setCell_same' _ _ _ (by rw [World.cell?_setCell_other _ _ _ _ (by intro e; simp only [Addr.mk.injEq] at e; omega), b1]; rfl)
      · exact ⟨rfl, H0.out.setNew (H0.out.setNew Hc.out.1 (Nat.le_refl _) 0 _) (Nat.le_refl _) 1 _, ((Hc.out.2.setNew (p := ⟨w.heap.size, 0, none⟩) (Nat.le_refl _) _).setNew (p := ⟨w.heap.size, 1, none⟩) (Nat.le_refl _) _)⟩
    · rw [show takeOnV g D Z d = .tuple #[uV 0 0, .int .i64 5] from by unfold takeOnV; rw [if_pos hx]; simp only [Int.toNat_natCast]; rw [if_neg hc],
        show takeOnG g D Z d = g from by unfold takeOnG; simp only [Int.toNat_natCast]; rw [if_neg (fun q => hc q.2.2)]]
      have hc0 : cnt (g d) 0 Z = 0 := by omega
      rw [hc0] at Hf
      clear h hx hc hc0
      go_enter Try.func13, Try.ntmps13
      go_wp2_with fail
      refine (Hh.out _).mono ?_
      rintro e w1 ⟨rfl, rfl⟩
      go_wp2_with fail
      refine (Hf.out _).mono ?_
      rintro e w1 ⟨rfl, rfl⟩
      go_wp2_with fail
      refine bodyPost_ret (v := .tuple #[uV 0 0, .int .i64 5]) (results_cell_tmp rfl _ _ _ _ _ rfl rfl (load_unit _ _ _ _ _ ?_ ?_)) rfl ?_
      · exact (Cells.new w #[.int .i64 0, .int .i64 0] 24).cell rfl
      · exact (Cells.new w #[.int .i64 0, .int .i64 0] 24).cell rfl
      · exact ⟨rfl, H0.out.alloc _, (Kept.refl _ w).alloc _⟩
  · rw [decide_eq_false hx] at Hh
    rw [show takeOnV g D Z x = .tuple #[uV 0 0, .int .i64 1] from by unfold takeOnV; rw [if_neg hx], show takeOnG g D Z x = g from by unfold takeOnG; rw [if_neg (fun q => hx ⟨q.1, q.2.1⟩)]]
    clear h hx
    go_enter Try.func13, Try.ntmps13
    go_wp2_with fail
    refine (Hh.out _).mono ?_
    rintro e w1 ⟨rfl, rfl⟩
    go_wp2_with fail
    refine bodyPost_ret (v := .tuple #[uV 0 0, .int .i64 1]) (results_cell_tmp rfl _ _ _ _ _ rfl rfl (load_unit _ _ _ _ _ ?_ ?_)) rfl ?_
    · exact (Cells.new w #[.int .i64 0, .int .i64 0] 24).cell rfl
    · exact (Cells.new w #[.int .i64 0, .int .i64 0] 24).cell rfl
    · exact ⟨rfl, H0.out.alloc _, (Kept.refl _ w).alloc _⟩
end
end Go.Proofs.Ytffmipmkbbholaa
