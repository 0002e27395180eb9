/-
  A drive is lost, or a blank one stands in its place.
-/
import Derived.Test.YtdnlikhfemhmeaaZReset
namespace Go.Proofs.Ytdnlikhfemhmeaa
open Go.RowKit

theorem Cells.setCells_all {t : TypeId} (b : Nat) : ∀ (vs : List Value) (o : Nat) (w : World) (cs : List Value), Cells w b t cs → o + vs.length ≤ cs.length →
    Cells (w.setCells b o vs) b t (cs.take o ++ vs ++ cs.drop (o + vs.length))
  | [], o, w, cs, h, _ => by
    show Cells w b t _
    simpa using h
  | v :: r, o, w, cs, h, hl => by
    have hl2 : o + 1 + r.length ≤ (cs.set o v).length := by simp at hl ⊢; omega
    have := Cells.setCells_all b r (o + 1) _ _ (h.set o v) hl2
    have ho : o < cs.length := by simp at hl; omega
    have e : (cs.set o v).take (o + 1) ++ r ++ (cs.set o v).drop (o + 1 + r.length) = cs.take o ++ (v :: r) ++ cs.drop (o + (v :: r).length) := by
      rw [List.drop_set_of_lt (by omega), List.take_succ_eq_append_getElem (by simpa using ho), List.getElem_set_self, List.take_set_of_le (Nat.le_refl _)]
      simp [Nat.add_assoc, Nat.add_comm 1]
    rw [e] at this
    exact this

theorem zero_pile (w : World) : (zeroValue 91).run Try.prog w = .ok (.agg #[.slice none 0 0, .int .i64 0]) w := by kernel_rfl
theorem zeroCells_len (n : Nat) : (Builtin.zeroCells #[.slice none 0 0, .int .i64 0] n).toList.length = n * 2 := by simp [Builtin.zeroCells]
theorem zeroCells_at (n z : Nat) (hz : z < n) : (Builtin.zeroCells #[.slice none 0 0, .int .i64 0] n).toList[z * 2]? = some (.slice none 0 0) ∧ (Builtin.zeroCells #[.slice none 0 0, .int .i64 0] n).toList[z * 2 + 1]? = some (.int .i64 0) := by
  have e0 : (z * 2) % 2 = 0 := by omega
  have e1 : (z * 2 + 1) % 2 = 1 := by omega
  constructor
  · rw [List.getElem?_eq_getElem (by rw [zeroCells_len]; omega)]
    simp [Builtin.zeroCells, e0]
  · rw [List.getElem?_eq_getElem (by rw [zeroCells_len]; omega)]
    simp [Builtin.zeroCells, e1]
theorem zeroCells_one (n : Nat) : ∀ v ∈ (Builtin.zeroCells #[.slice none 0 0, .int .i64 0] n).toList, v.oneCell' = true := by
  intro v hv
  obtain ⟨k, hk, rfl⟩ := List.getElem_of_mem hv
  rw [zeroCells_len] at hk
  obtain ⟨h0, h1⟩ := zeroCells_at n (k / 2) (by omega)
  by_cases e : k % 2 = 0
  · have ek : k / 2 * 2 = k := by omega
    rw [ek] at h0
    rw [(List.getElem?_eq_some_iff.1 h0).2]
    rfl
  · have ek : k / 2 * 2 + 1 = k := by omega
    rw [ek] at h1
    rw [(List.getElem?_eq_some_iff.1 h1).2]
    rfl
/-- clear(d.piles) -/
theorem clear_piles_run (w : World) (ty : TypeId) (g n : Nat) (cs : List Value) (h : Cells w g 91 cs) (hl : cs.length = n * 2) :
    (Builtin.clear_ #[69] ty #[.slice (some ⟨g, 0, none⟩) n n]).run Try.prog w = .ok (.tuple #[]) (w.setCells g 0 (Builtin.zeroCells #[.slice none 0 0, .int .i64 0] n).toList) := by
  rcases Nat.eq_zero_or_pos n with rfl | hp
  · have e : (Builtin.zeroCells #[.slice none 0 0, .int .i64 0] 0).toList = [] := List.eq_nil_of_length_eq_zero (zeroCells_len 0)
    rw [e]
    simp [Builtin.clear_, run_underlying Try.underlying69, World.setCells]
  · have hst := run_storeCells_cells (P := Try.prog) g 0 (Builtin.zeroCells #[.slice none 0 0, .int .i64 0] n).toList 0 w
      (fun j hj => by rw [zeroCells_len] at hj; rw [h.cell (List.getElem?_eq_getElem (show 0 + 0 + j < cs.length by omega))]; rfl) (fun j _ => h.frozen _) (zeroCells_one n)
    simp only [Nat.add_zero] at hst
    obtain ⟨m, rfl⟩ : ∃ m, n = m + 1 := ⟨n - 1, by omega⟩
    have hz : ∀ W, (zeroValue 91).run Try.prog W = .ok (.agg #[.slice none 0 0, .int .i64 0]) W := zero_pile
    simp [Builtin.clear_, run_underlying Try.underlying69, hz, Value.cells, hst]

def Drv.empty (D : Drv) (lost : Bool) : Drv := { D with piles := List.replicate D.piles.length ⟨[], 0⟩, lost := lost }
theorem Drv.Ok.empty {D : Drv} (h : D.Ok) (lost : Bool) : (D.empty lost).Ok := by
  refine ⟨by simp [Drv.empty]; exact h.zones, h.cap, h.low, h.high, fun p hp => ?_, fun p hp => ?_, fun p hp l hl => ?_, fun _ p hp => List.eq_of_mem_replicate hp⟩
  all_goals
    have := List.eq_of_mem_replicate hp
    subst this
    simp at *
theorem lose_facts {w : World} {O : Nat → Option Tag} {pw i d g : Nat} {P : Pow} {ds : List (Nat × Drv)} {D : Drv} {cs : List Value} {b : Bool} (h : SysAt w O pw P ds) (hi : ds[i]? = some (d, D))
    (h1 : Cells w d 71 [.pointer (some ⟨pw, 0, none⟩), .slice (some ⟨g, 0, none⟩) D.piles.length D.piles.length, .int .i64 (D.cap : Int), .int .i64 (D.size : Int), .bool D.lost]) (h2 : O d = some (.drv i))
    (h3 : Cells w g 91 cs) (h4 : O g = some (.piles i)) (h5 : cs.length = D.piles.length * 2) :
    SysAt ((w.setCell ⟨d, 4, none⟩ (.bool b)).setCells g 0 (Builtin.zeroCells #[.slice none 0 0, .int .i64 0] D.piles.length).toList) O pw P (ds.set i (d, D.empty b)) ∧
    Ext w O ((w.setCell ⟨d, 4, none⟩ (.bool b)).setCells g 0 (Builtin.zeroCells #[.slice none 0 0, .int .i64 0] D.piles.length).toList) O := by
  have hdg : d ≠ g := by intro e; rw [e, h4] at h2; cases h2
  have hk : Kept (fun x => x ≠ d ∧ x ≠ g) w ((w.setCell ⟨d, 4, none⟩ (.bool b)).setCells g 0 (Builtin.zeroCells #[.slice none 0 0, .int .i64 0] D.piles.length).toList) :=
    ((Kept.refl _ w).setCell (fun h => h.1 rfl) _).setCells (fun h => h.2 rfl) _ _
  have q1 : Cells (w.setCell ⟨d, 4, none⟩ (.bool b)) g 91 cs := h3.move (Below.heap_setCell _ _ _ _ (fun e => hdg e.symm))
  have q2 := Cells.setCells_all g (Builtin.zeroCells #[.slice none 0 0, .int .i64 0] D.piles.length).toList 0 _ _ q1 (by rw [zeroCells_len]; omega)
  rw [zeroCells_len] at q2
  simp only [List.take_zero, List.nil_append, Nat.zero_add] at q2
  rw [List.drop_eq_nil_of_le (by omega), List.append_nil] at q2
  refine h.change (O' := O) hi hk (fun x t hx ht => ⟨(fun e => by rw [e, h2] at hx; cases hx; exact ht rfl), (fun e => by rw [e, h4] at hx; cases hx; exact ht rfl)⟩) (fun x hx => ⟨(fun e => by rw [e, h2] at hx; cases hx), (fun e => by rw [e, h4] at hx; cases hx)⟩) (fun _ _ => rfl) (fun x hx => Nat.lt_of_lt_of_le (h.fresh x hx) hk.size) ⟨g, (Builtin.zeroCells #[.slice none 0 0, .int .i64 0] D.piles.length).toList, ?_, h2, q2, h4, by rw [zeroCells_len]; simp only [Drv.empty, List.length_replicate], fun z p hz => ?_⟩ ((h.drv i d D hi).2.empty b)
  · have := (h1.set 4 (.bool b)).move (w' := (w.setCell ⟨d, 4, none⟩ (.bool b)).setCells g 0 (Builtin.zeroCells #[.slice none 0 0, .int .i64 0] D.piles.length).toList) (setCells_other g d hdg _ _ _)
    simpa [Drv.empty] using this
  · have hzl : z < D.piles.length := by have := (List.getElem?_eq_some_iff.1 hz).1; simpa [Drv.empty] using this
    have ep : p = ⟨[], 0⟩ := List.eq_of_mem_replicate (List.mem_of_getElem? hz)
    subst ep
    obtain ⟨a0, a1⟩ := zeroCells_at D.piles.length z hzl
    exact ⟨_, a0, a1, [], OwnV.nil _ _ _, (fun g hg => by cases hg), rfl, fun k l hl => by simp at hl⟩

set_option maxRecDepth 20000 in
set_option maxHeartbeats 400000 in
theorem lose_any (pw i d : Nat) (P : Pow) (ds : List (Nat × Drv)) (D : Drv) (O : Nat → Option Tag) (w : World) (h : SysAt w O pw P ds) (hi : ds[i]? = some (d, D)) :
    Calls Try.prog 31 #[.pointer (some ⟨d, 0, none⟩)] w fun e w' => e = .returned (.tuple #[]) ∧ SysAt w' O pw P (ds.set i (d, D.empty true)) ∧ Ext w O w' O := by
  obtain ⟨g, cs, h1, h2, h3, h4, h5, h6⟩ := (h.drv i d D hi).1
  have hfin := Lib.hid (lose_facts (b := true) h hi h1 h2 h3 h4 h5)
  have c1 := h1.cell (i := 1) rfl
  have c4 := h1.cell (i := 4) rfl
  have f4 := h1.frozen 4
  have hdg : g ≠ d := by intro e; rw [e, h2] at h4; cases h4
  have q1 : Cells (w.setCell ⟨d, 4, none⟩ (.bool true)) g 91 cs := h3.move (Below.heap_setCell _ _ _ _ hdg)
  have hcl := fun ty => clear_piles_run _ ty g D.piles.length cs q1 h5
  generalize (Builtin.zeroCells #[.slice none 0 0, .int .i64 0] D.piles.length).toList = vs at hfin hcl
  generalize ds.set i (d, D.empty true) = ds2 at *
  generalize D.piles.length = N at *
  clear h1 h2 h3 h4 h5 h6 h hi q1 hdg
  go_enter Try.func31, Try.ntmps31
  go_wp2_with fail
  go_end0
  exact ⟨rfl, hfin.out⟩
set_option maxRecDepth 20000 in
set_option maxHeartbeats 400000 in
theorem replace_any (pw i d : Nat) (P : Pow) (ds : List (Nat × Drv)) (D : Drv) (O : Nat → Option Tag) (w : World) (h : SysAt w O pw P ds) (hi : ds[i]? = some (d, D)) :
    Calls Try.prog 33 #[.pointer (some ⟨d, 0, none⟩)] w fun e w' => e = .returned (.tuple #[]) ∧ SysAt w' O pw P (ds.set i (d, D.empty false)) ∧ Ext w O w' O := by
  obtain ⟨g, cs, h1, h2, h3, h4, h5, h6⟩ := (h.drv i d D hi).1
  have hfin := Lib.hid (lose_facts (b := false) h hi h1 h2 h3 h4 h5)
  have c1 := h1.cell (i := 1) rfl
  have c4 := h1.cell (i := 4) rfl
  have f4 := h1.frozen 4
  have hdg : g ≠ d := by intro e; rw [e, h2] at h4; cases h4
  have q1 : Cells (w.setCell ⟨d, 4, none⟩ (.bool false)) g 91 cs := h3.move (Below.heap_setCell _ _ _ _ hdg)
  have hcl := fun ty => clear_piles_run _ ty g D.piles.length cs q1 h5
  generalize (Builtin.zeroCells #[.slice none 0 0, .int .i64 0] D.piles.length).toList = vs at hfin hcl
  generalize ds.set i (d, D.empty false) = ds2 at *
  generalize D.piles.length = N at *
  clear h1 h2 h3 h4 h5 h6 h hi q1 hdg
  go_enter Try.func33, Try.ntmps33
  go_wp2_with fail
  go_end0
  exact ⟨rfl, hfin.out⟩
end Go.Proofs.Ytdnlikhfemhmeaa
