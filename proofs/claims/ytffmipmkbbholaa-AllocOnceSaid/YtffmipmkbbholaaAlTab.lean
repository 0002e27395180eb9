/-
  A table in memory; what only reads it.
-/
import Derived.Test.YtffmipmkbbholaaAlMap
namespace Go.Proofs.Ytffmipmkbbholaa
open Go.RowKit Go.Maps

/-- the drives' rows: how many have each state, the lowest free one -/
def DC (w : World) (db D : Nat) (c : Nat → Nat → Int) (l : Nat → Int) : Prop :=
  ∃ cur : Array Value, w.heap[db]? = some (.cells cur 64 (0, 0)) ∧ ∀ d, d < D → (∀ k, k < 4 → cur[6 * d + k]? = some (.int .i64 (c d k))) ∧ cur[6 * d + 4]? = some (.int .i64 (d : Int)) ∧ cur[6 * d + 5]? = some (.int .i64 (l d))
section
variable {w w' : World} {db D : Nat} {c c' : Nat → Nat → Int} {l l' : Nat → Int}
theorem DC.lt (h : DC w db D c l) : db < w.heap.size := by obtain ⟨cur, h1, _⟩ := h; exact (Array.getElem?_eq_some_iff.1 h1).1
theorem DC.move (h : DC w db D c l) (e : w'.heap[db]? = w.heap[db]?) : DC w' db D c l := by obtain ⟨cur, h1, h2⟩ := h; exact ⟨cur, e.trans h1, h2⟩
theorem DC.congr (h : DC w db D c l) (hc : ∀ d k, d < D → k < 4 → c' d k = c d k) (hl : ∀ d, d < D → l' d = l d) : DC w db D c' l' := by
  obtain ⟨cur, h1, h2⟩ := h
  refine ⟨cur, h1, fun d hd => ⟨fun k hk => ?_, (h2 d hd).2.1, ?_⟩⟩
  · rw [hc d k hd hk]; exact (h2 d hd).1 k hk
  · rw [hl d hd]; exact (h2 d hd).2.2
theorem DC.cell (h : DC w db D c l) {d k : Nat} (hd : d < D) (hk : k < 4) : w.cell? ⟨db, 6 * d + k, none⟩ = some (.int .i64 (c d k)) := by
  obtain ⟨cur, h1, h2⟩ := h
  simp [World.cell?, h1, (h2 d hd).1 k hk]
theorem DC.cellD (h : DC w db D c l) {d : Nat} (hd : d < D) : w.cell? ⟨db, 6 * d + 4, none⟩ = some (.int .i64 (d : Int)) := by
  obtain ⟨cur, h1, h2⟩ := h
  simp [World.cell?, h1, (h2 d hd).2.1]
theorem DC.cellL (h : DC w db D c l) {d : Nat} (hd : d < D) : w.cell? ⟨db, 6 * d + 5, none⟩ = some (.int .i64 (l d)) := by
  obtain ⟨cur, h1, h2⟩ := h
  simp [World.cell?, h1, (h2 d hd).2.2]
theorem DC.frozen (h : DC w db D c l) (i : Nat) : w.frozen? ⟨db, i, none⟩ = false := by
  obtain ⟨cur, h1, h2⟩ := h
  simp [World.frozen?, h1]
theorem DC.set (h : DC w db D c l) {d k : Nat} (hd : d < D) (hk : k < 4) (x : Int) : DC (w.setCell ⟨db, 6 * d + k, none⟩ (.int .i64 x)) db D (upd c d k x) l := by
  obtain ⟨cur, h1, h2⟩ := h
  refine ⟨cur.setIfInBounds (6 * d + k) (.int .i64 x), ?_, fun d' hd' => ⟨fun k' hk' => ?_, ?_, ?_⟩⟩
  · simp [World.setCell, Array.getElem?_modify, h1]
  · have hold := (h2 d hd).1 k hk
    have hsz := (Array.getElem?_eq_some_iff.1 hold).1
    by_cases q : d' = d ∧ k' = k
    · obtain ⟨rfl, rfl⟩ := q
      rw [upd_same, Array.getElem?_setIfInBounds_self_of_lt hsz]
    · rw [upd_other _ _ q, Array.getElem?_setIfInBounds_ne (by omega)]
      exact (h2 d' hd').1 k' hk'
  · rw [Array.getElem?_setIfInBounds_ne (by omega)]; exact (h2 d' hd').2.1
  · rw [Array.getElem?_setIfInBounds_ne (by omega)]; exact (h2 d' hd').2.2
theorem DC.setL (h : DC w db D c l) {d : Nat} (hd : d < D) (x : Int) : DC (w.setCell ⟨db, 6 * d + 5, none⟩ (.int .i64 x)) db D c (fun d' => if d' = d then x else l d') := by
  obtain ⟨cur, h1, h2⟩ := h
  refine ⟨cur.setIfInBounds (6 * d + 5) (.int .i64 x), ?_, fun d' hd' => ⟨fun k' hk' => ?_, ?_, ?_⟩⟩
  · simp [World.setCell, Array.getElem?_modify, h1]
  · rw [Array.getElem?_setIfInBounds_ne (by omega)]; exact (h2 d' hd').1 k' hk'
  · rw [Array.getElem?_setIfInBounds_ne (by omega)]; exact (h2 d' hd').2.1
  · have hsz := (Array.getElem?_eq_some_iff.1 (h2 d hd).2.2).1
    show _ = some (Value.int .i64 (if d' = d then x else l d'))
    by_cases q : d' = d
    · subst q
      rw [if_pos rfl, Array.getElem?_setIfInBounds_self_of_lt hsz]
    · rw [if_neg q, Array.getElem?_setIfInBounds_ne (by omega)]
      exact (h2 d' hd').2.2
end

/-- the states as a map has them -/
def stU (g : St) : Um := fun d z => if g d z = 0 then none else some (.lit (.int .i64 (g d z : Nat)))
theorem stU_zero (g : St) (d z : Nat) : stU (upd g d z 0) = upd (stU g) d z none := by
  funext d' z'
  by_cases q : d' = d ∧ z' = z
  · obtain ⟨rfl, rfl⟩ := q; simp [stU, upd]
  · simp [stU, upd_other _ _ q]
theorem stU_set (g : St) (d z k : Nat) (hk : k ≠ 0) : stU (upd g d z k) = upd (stU g) d z (some (.lit (.int .i64 (k : Nat)))) := by
  funext d' z'
  by_cases q : d' = d ∧ z' = z
  · obtain ⟨rfl, rfl⟩ := q; simp [stU, upd, hk]
  · simp [stU, upd_other _ _ q]
theorem stU_get (g : St) (d z : Nat) : (stU g d z).getD (.lit (.int .i64 0)) = .lit (.int .i64 (g d z : Nat)) := by
  unfold stU
  split
  · rename_i h; simp [h]
  · rfl

/-- A TABLE at tb -/
structure TabAt (w : World) (tb db mb cap D Z : Nat) (g : St) : Prop where
  d1 : 1 ≤ D
  d2 : D ≤ 32
  z1 : 1 ≤ Z
  z2 : Z ≤ 4096
  hcap : D ≤ cap
  tc : Cells w tb 61 [.int .i64 (Z : Int), .slice (some ⟨db, 0, none⟩) D cap, .map (some mb)]
  dc : DC w db D (fun d k => (cnt (g d) k Z : Nat)) (fun d => (low (g d) Z : Nat))
  mc : UM w mb 3 (stU g) D Z
  le : ∀ d z, g d z ≤ 3
  out : ∀ d z, ¬ (d < D ∧ z < Z) → g d z = 0
section
variable {w w' : World} {tb db mb cap D Z : Nat} {g : St}
theorem TabAt.move (h : TabAt w tb db mb cap D Z g) (e1 : w'.heap[tb]? = w.heap[tb]?) (e2 : w'.heap[db]? = w.heap[db]?) (e3 : w'.heap[mb]? = w.heap[mb]?) : TabAt w' tb db mb cap D Z g :=
  ⟨h.d1, h.d2, h.z1, h.z2, h.hcap, h.tc.move e1, h.dc.move e2, h.mc.move e3, h.le, h.out⟩
theorem TabAt.below (h : TabAt w tb db mb cap D Z g) (hb : Below w.heap.size w w') : TabAt w' tb db mb cap D Z g :=
  h.move (hb.block _ h.tc.lt) (hb.block _ h.dc.lt) (hb.block _ h.mc.lt)
theorem TabAt.kept {K : Nat → Prop} (h : TabAt w tb db mb cap D Z g) (hk : Kept K w w') (k1 : K tb) (k2 : K db) (k3 : K mb) : TabAt w' tb db mb cap D Z g :=
  h.move (hk.block _ h.tc.lt k1) (hk.block _ h.dc.lt k2) (hk.block _ h.mc.lt k3)
theorem TabAt.drewN (h : TabAt w tb db mb cap D Z g) (n : Nat) : TabAt (w.drewN n) tb db mb cap D Z g := h.move rfl rfl rfl
theorem TabAt.drew (h : TabAt w tb db mb cap D Z g) : TabAt w.drew tb db mb cap D Z g := h.move rfl rfl rfl
theorem TabAt.alloc (h : TabAt w tb db mb cap D Z g) (o : Obj) : TabAt (w.alloc o) tb db mb cap D Z g := h.below ((Below.refl _ _).alloc (Nat.le_refl _) _)
theorem TabAt.tb_db (h : TabAt w tb db mb cap D Z g) : tb ≠ db := fun e => by
  obtain ⟨cur, h1, _⟩ := h.dc
  have := h.tc
  unfold Cells at this
  rw [e, h1] at this
  simp at this
theorem TabAt.tb_mb (h : TabAt w tb db mb cap D Z g) : tb ≠ mb := fun e => h.mc.not_cells (e ▸ h.tc)
theorem TabAt.db_mb (h : TabAt w tb db mb cap D Z g) : db ≠ mb := fun e => by
  obtain ⟨cur, h1, _⟩ := h.dc
  exact h.mc.not_cells (e ▸ h1)
theorem TabAt.z0 (h : TabAt w tb db mb cap D Z g) : w.cell? ⟨tb, 0, none⟩ = some (.int .i64 (Z : Int)) := h.tc.cell rfl
theorem TabAt.t1 (h : TabAt w tb db mb cap D Z g) : w.cell? ⟨tb, 1, none⟩ = some (.slice (some ⟨db, 0, none⟩) D cap) := h.tc.cell rfl
theorem TabAt.m2 (h : TabAt w tb db mb cap D Z g) : w.cell? ⟨tb, 2, none⟩ = some (.map (some mb)) := h.tc.cell rfl
/-- how many are free on a drive; 0 of one that there is not -/
def freeOn (g : St) (D Z : Nat) (x : Int) : Nat := if 0 ≤ x ∧ x < D then cnt (g x.toNat) 0 Z else 0
theorem freeOn_nat (g : St) {D Z d : Nat} (h : d < D) : freeOn g D Z (d : Int) = cnt (g d) 0 Z := by
  unfold freeOn; rw [if_pos ⟨by omega, by omega⟩]; simp
/-- is there such a unit? -/
def isUnit (D Z : Nat) (x y : Int) : Bool := decide (0 ≤ x ∧ x < D ∧ 0 ≤ y ∧ y < Z)
end

section
set_option maxRecDepth 20000
set_option maxHeartbeats 1600000
variable {w : World} {tb db mb cap D Z : Nat} {g : St}
theorem has_any (x : Int) (h : TabAt w tb db mb cap D Z g) : Calls Try.prog 34 #[.pointer (some ⟨tb, 0, none⟩), .int .i64 x] w fun e w' => e = .returned (.bool (decide (0 ≤ x ∧ x < D))) ∧ w' = w := by
  have c1 := h.t1
  clear h
  by_cases h0 : 0 ≤ x
  · by_cases h1 : x < D
    · rw [decide_eq_true (show 0 ≤ x ∧ x < (D : Int) from ⟨h0, h1⟩)]
      go_enter Try.func34, Try.ntmps34
      go_wp2_with fail
      go_ret
      exact ⟨by simp [h0, h1], rfl⟩
    · rw [decide_eq_false (show ¬ (0 ≤ x ∧ x < (D : Int)) from fun q => h1 q.2)]
      go_enter Try.func34, Try.ntmps34
      go_wp2_with fail
      go_ret
      exact ⟨by simp [h0, h1], rfl⟩
  · rw [decide_eq_false (show ¬ (0 ≤ x ∧ x < (D : Int)) from fun q => h0 q.1)]
    go_enter Try.func34, Try.ntmps34
    go_wp2_with fail
    go_ret
    exact ⟨by simp [h0], rfl⟩
theorem freeOn_any (x : Int) (h : TabAt w tb db mb cap D Z g) : Calls Try.prog 22 #[.pointer (some ⟨tb, 0, none⟩), .int .i64 x] w fun e w' => e = .returned (.int .i64 (freeOn g D Z x : Nat)) ∧ w' = w := by
  have hh := has_any x h
  have c1 := h.t1
  by_cases hx : 0 ≤ x ∧ x < D
  · obtain ⟨d, rfl⟩ : ∃ d : Nat, x = (d : Int) := ⟨x.toNat, by omega⟩
    have hd : d < D := by omega
    rw [decide_eq_true hx] at hh
    rw [freeOn_nat g hd]
    have cc := h.dc.cell hd (k := 0) (by omega)
    rw [show 6 * d + 0 = d * 6 by omega] at cc
    generalize (cnt (g d) 0 Z) = N at *
    have hd' : (d : Int) < (D : Int) := by omega
    clear h hx
    go_enter Try.func22, Try.ntmps22
    go_wp2_with fail
    refine hh.mono ?_
    rintro e w1 ⟨rfl, rfl⟩
    clear hh
    go_wp2_with fail
    go_ret
    exact ⟨rfl, rfl⟩
  · rw [decide_eq_false hx] at hh
    rw [show freeOn g D Z x = 0 from if_neg hx]
    clear h hx
    go_enter Try.func22, Try.ntmps22
    go_wp2_with fail
    refine hh.mono ?_
    rintro e w1 ⟨rfl, rfl⟩
    clear hh
    go_wp2_with fail
    go_ret
    exact ⟨rfl, rfl⟩
end
end Go.Proofs.Ytffmipmkbbholaa
