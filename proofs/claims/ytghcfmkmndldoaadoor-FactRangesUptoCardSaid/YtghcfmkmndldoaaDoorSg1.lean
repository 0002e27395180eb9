/-
  Shapes: Check, Row, Room, of both programs.
-/
import Derived.Test.YtghcfmkmndldoaaDoorKGet
import Derived.Test.YtghcfmkmndldoaaDoorOwnV
import Derived.Deep.RegionHeld3
import Derived.StillTailTactics
import Derived.Sort.LotA
import Derived.Sort.Grow
namespace Go.Proofs.YtghcfmkmndldoaaDoor
open Go.RowKit Go.Sort Go.Lib

/-! worlds that only grew -/
def Gr (w w' : World) : Prop := ∃ q os, w' = grow (w.drewN q) os
theorem grow_drewN (w : World) (q : Nat) (os : Array Obj) : (grow w os).drewN q = grow (w.drewN q) os := rfl
theorem Gr.refl (w : World) : Gr w w := ⟨0, #[], by rw [grow_empty]; rfl⟩
theorem Gr.drewN (w : World) (q : Nat) : Gr w (w.drewN q) := ⟨q, #[], by rw [grow_empty]⟩
theorem Gr.alloc (w : World) (o : Obj) : Gr w (w.alloc o) := ⟨0, #[o], by rw [alloc_eq_grow]; rfl⟩
theorem Gr.trans {w w' w'' : World} (h : Gr w w') (k : Gr w' w'') : Gr w w'' := by
  obtain ⟨q, os, rfl⟩ := h
  obtain ⟨q', os', rfl⟩ := k
  exact ⟨q + q', os ++ os', by rw [grow_drewN, grow_grow, World.drewN_drewN]⟩
theorem Gr.below {w w' : World} (h : Gr w w') : Below w.heap.size w w' := by
  obtain ⟨q, os, rfl⟩ := h
  refine ⟨rfl, rfl, rfl, by simp [World.drewN], fun b hb => ?_⟩
  rw [heap_grow_old _ _ (by simpa [World.drewN] using hb)]
  rfl
/-! shapes -/
def shV (K P G : Int) : Value := .agg #[.int .i64 K, .int .i64 P, .int .i64 G]
def okS (K P G : Int) : Bool := decide (1 ≤ K ∧ K ≤ 32 ∧ 2 ≤ P ∧ P ≤ 4096 ∧ roomOf G ≠ 0)
def chkS (K P G : Int) : Int := if okS K P G = true then 0 else 1
def rowS (K P G : Int) : Int := if okS K P G = true then K * roomOf G else 0
def roomS (K P G : Int) : Int := rowS K P G * (P - 1)
theorem okS_facts {K P G : Int} (h : okS K P G = true) : 1 ≤ K ∧ K ≤ 32 ∧ 2 ≤ P ∧ P ≤ 4096 ∧ 13 ≤ roomOf G ∧ roomOf G ≤ 65535 ∧ 32 ≤ G ∧ G ≤ 65536 := by
  obtain ⟨h1, h2, h3, h4, h5⟩ := of_decide_eq_true h
  unfold roomOf at h5 ⊢
  by_cases q : G < 32 ∨ 65536 < G
  · rw [if_pos q] at h5; exact absurd rfl h5
  · rw [if_neg q] at h5 ⊢
    split <;> omega
theorem chkS_ok {K P G : Int} (h : okS K P G = true) : chkS K P G = 0 := if_pos h
theorem chkS_no {K P G : Int} (h : okS K P G = false) : chkS K P G = 1 := if_neg (by rw [h]; simp)
theorem rowS_ok {K P G : Int} (h : okS K P G = true) : rowS K P G = K * roomOf G := if_pos h
theorem rowS_no {K P G : Int} (h : okS K P G = false) : rowS K P G = 0 := if_neg (by rw [h]; simp)
theorem roomOf_ge (s : Int) : 0 ≤ roomOf s := by unfold roomOf; split; omega; split <;> omega
theorem rowS_bounds {K P G : Int} (h : okS K P G = true) : 13 ≤ rowS K P G ∧ rowS K P G ≤ 2097120 := by
  obtain ⟨h1, h2, _, _, h3, h4, _⟩ := okS_facts h
  rw [rowS_ok h]
  generalize roomOf G = C at *
  obtain ⟨k, rfl⟩ : ∃ k : Nat, K = (k : Int) := ⟨K.toNat, by omega⟩
  obtain ⟨c, rfl⟩ : ∃ c : Nat, C = (c : Int) := ⟨C.toNat, by omega⟩
  have h5 : 1 * 13 ≤ k * c := Nat.mul_le_mul (by omega) (by omega)
  have h6 : k * c ≤ 32 * 65535 := Nat.mul_le_mul (by omega) (by omega)
  constructor
  · have : ((13 : Nat) : Int) ≤ ((k * c : Nat) : Int) := by exact_mod_cast h5
    simpa using this
  · have : ((k * c : Nat) : Int) ≤ ((2097120 : Nat) : Int) := by exact_mod_cast h6
    simpa using this
section
set_option maxRecDepth 20000
set_option maxHeartbeats 800000
theorem check_any (K P G : Int) (w : World) : Calls Tryd.prog 93 #[shV K P G] w fun e w' => e = .returned (.int .i64 (chkS K P G)) ∧ w' = w.alloc (.cells #[.int .i64 K, .int .i64 P, .int .i64 G] 23) := by
  unfold shV
  by_cases h1 : K < 1
  · rw [chkS_no (decide_eq_false (by omega))]
    go_enter Tryd.func93, Tryd.ntmps93
    go_wp2_with fail
    go_ret
    exact ⟨rfl, rfl⟩
  by_cases h2 : 32 < K
  · rw [chkS_no (decide_eq_false (by omega))]
    go_enter Tryd.func93, Tryd.ntmps93
    go_wp2_with fail
    go_ret
    exact ⟨rfl, rfl⟩
  by_cases h3 : P < 2
  · rw [chkS_no (decide_eq_false (by omega))]
    go_enter Tryd.func93, Tryd.ntmps93
    go_wp2_with fail
    go_ret
    exact ⟨rfl, rfl⟩
  by_cases h4 : 4096 < P
  · rw [chkS_no (decide_eq_false (by omega))]
    go_enter Tryd.func93, Tryd.ntmps93
    go_wp2_with fail
    go_ret
    exact ⟨rfl, rfl⟩
  have Hr := Lib.hid fun w => room_any G w
  by_cases h5 : roomOf G = 0
  · rw [chkS_no (decide_eq_false fun q => q.2.2.2.2 h5)]
    rw [h5] at Hr
    clear h5
    go_enter Tryd.func93, Tryd.ntmps93
    go_wp2_with fail
    refine (Hr.out _).mono ?_
    rintro e w1 ⟨rfl, rfl⟩
    go_wp2_with fail
    go_ret
    exact ⟨rfl, rfl⟩
  · rw [chkS_ok (decide_eq_true ⟨by omega, by omega, by omega, by omega, h5⟩)]
    generalize roomOf G = C at *
    go_enter Tryd.func93, Tryd.ntmps93
    go_wp2_with fail
    refine (Hr.out _).mono ?_
    rintro e w1 ⟨rfl, rfl⟩
    go_wp2_with fail
    go_ret
    exact ⟨rfl, rfl⟩
theorem row_any (K P G : Int) (w : World) : Calls Tryd.prog 85 #[shV K P G] w fun e w' => e = .returned (.int .i64 (rowS K P G)) ∧ Gr w w' := by
  have Hc := Lib.hid fun w => check_any K P G w
  unfold shV at Hc ⊢
  rcases hok : okS K P G with _ | _
  · rw [chkS_no hok] at Hc
    rw [rowS_no hok]
    clear hok
    go_enter Tryd.func85, Tryd.ntmps85
    go_wp2_with fail
    refine (Hc.out _).mono ?_
    rintro e w1 ⟨rfl, rfl⟩
    go_wp2_with fail
    go_ret
    exact ⟨rfl, (Gr.alloc w _).trans (Gr.alloc _ _)⟩
  · rw [chkS_ok hok] at Hc
    rw [rowS_ok hok]
    obtain ⟨k1, k2, _, _, k3, k4, _⟩ := okS_facts hok
    have hrb := rowS_bounds hok
    rw [rowS_ok hok] at hrb
    have Hr := Lib.hid fun w => room_any G w
    generalize roomOf G = C at *
    have hw : IntKind.i64.wrap (K * C) = K * C := by rw [IntKind.wrap_i64]; omega
    clear hok
    go_enter Tryd.func85, Tryd.ntmps85
    go_wp2_with fail
    refine (Hc.out _).mono ?_
    rintro e w1 ⟨rfl, hw1⟩
    obtain ⟨W, hW⟩ : ∃ W, W = w1 := ⟨_, rfl⟩
    have hG : Gr w W := by rw [hW, hw1]; exact (Gr.alloc w _).trans (Gr.alloc _ _)
    have hC : Cells W w.heap.size 23 [.int .i64 K, .int .i64 P, .int .i64 G] := by rw [hW, hw1]; exact (Cells.new w _ _).alloc _
    rw [← hW]
    clear hW hw1
    have d0 : ∀ q, (W.drewN q).cell? ⟨w.heap.size, 0, none⟩ = some (.int .i64 K) := fun q => hC.cell rfl
    have d2 : ∀ q, (W.drewN q).cell? ⟨w.heap.size, 2, none⟩ = some (.int .i64 G) := fun q => hC.cell rfl
    have HG : Hid (∀ q, Gr w (W.drewN q)) := fun q => hG.trans (Gr.drewN _ _)
    clear hG hC
    go_wp2_with fail
    go_quiet ((go_at_call 87; exact Calls.quiet_of_same ((Hr.out _).mono (fun e w' h => ⟨h.1, h.2.symm⟩))))
    go_wp2_with fail
    go_ret
    exact ⟨by simp [hw], HG.out _⟩
end
end Go.Proofs.YtghcfmkmndldoaaDoor
