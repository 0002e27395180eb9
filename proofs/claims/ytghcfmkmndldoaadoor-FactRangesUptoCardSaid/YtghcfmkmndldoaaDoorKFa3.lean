/-
  Facts compared: cmp.Compare, cmp.Or, the program's Compare, the second saying's.
-/
import Derived.Test.YtghcfmkmndldoaaDoorFa2
import Derived.Test.YtghcfmkmndldoaaDoorSg1
import Derived.Deep.RegionHeld3
import Derived.StillTailTactics
import Derived.Test.YtghcfmkmndldoaaDoorKGet
import Derived.Test.YtghcfmkmndldoaaDoorKBase
namespace Go.Proofs.YtghcfmkmndldoaaDoor
open Go.RowKit Go.Sort Go.Lib

/-- the first that is not 0 -/
def orI (x y : Int) : Int := if x = 0 then y else x
def cmpN (a b : Nat) : Int := if a < b then -1 else if b < a then 1 else 0
theorem cmpF_or (a b : Fc) : cmpF a b = orI (cmpK a.1 b.1) (cmpN b.2.1 a.2.1) := by
  unfold cmpF orI cmpN
  by_cases h : cmpK a.1 b.1 = 0
  · rw [if_neg (by simp [h]), if_pos h]
  · rw [if_pos h, if_neg h]
/-- a fact as a value, its value being V -/
def fcV (f : Fc) (V : Value) : Value := .agg #[.string f.1, .int .u64 (f.2.1 : Int), V]
section
set_option maxRecDepth 100000
set_option maxHeartbeats 4000000
theorem nanS_any (a : ByteArray) (w : World) : Calls Tryd.prog 94 #[.string a] w fun e w' => e = .returned (.bool false) ∧ w' = w := by
  go_enter Tryd.func94, Tryd.ntmps94
  go_wp2_with fail
  go_ret
  exact ⟨by simp, rfl⟩
theorem nanU_any (a : Int) (w : World) : Calls Tryd.prog 95 #[.int .u64 a] w fun e w' => e = .returned (.bool false) ∧ w' = w := by
  go_enter Tryd.func95, Tryd.ntmps95
  go_wp2_with fail
  go_ret
  exact ⟨by simp, rfl⟩
theorem cmpS_any (a b : ByteArray) (w : World) : Calls Tryd.prog 49 #[.string a, .string b] w fun e w' => e = .returned (.int .i64 (cmpK a b)) ∧ w' = w := by
  have Hn := Lib.hid fun a => nanS_any a w
  unfold cmpK
  rcases less_total a.toList b.toList with h | h | h
  · rw [if_pos h]
    go_enter Tryd.func49, Tryd.ntmps49
    go_wp2_with fail
    refine (Hn.out _).mono ?_
    rintro e w1 ⟨rfl, rfl⟩
    go_wp2_with fail
    refine (Hn.out _).mono ?_
    rintro e w1 ⟨rfl, rfl⟩
    go_wp2_with fail
    go_ret
    exact ⟨rfl, rfl⟩
  · have := array_inj h
    subst this
    have h2 := less_irrefl a.toList
    have h3 : (a.toList == a.toList) = true := by simp
    rw [if_neg (by rw [h2]; simp)]
    go_enter Tryd.func49, Tryd.ntmps49
    go_wp2_with fail
    refine (Hn.out _).mono ?_
    rintro e w1 ⟨rfl, rfl⟩
    go_wp2_with fail
    refine (Hn.out _).mono ?_
    rintro e w1 ⟨rfl, rfl⟩
    go_wp2_with fail
    all_goals
      go_ret
      exact ⟨rfl, rfl⟩
  · have h2 := less_asymm h
    have h3 : (a.toList == b.toList) = false := by
      rw [beq_eq_false_iff_ne]
      intro e
      rw [e, less_irrefl] at h
      cases h
    have h4 : ¬ a.toList = b.toList := by
      intro e
      rw [e, less_irrefl] at h
      cases h
    rw [if_neg (by rw [h2]; simp), if_pos h]
    go_enter Tryd.func49, Tryd.ntmps49
    go_wp2_with fail
    refine (Hn.out _).mono ?_
    rintro e w1 ⟨rfl, rfl⟩
    go_wp2_with fail
    refine (Hn.out _).mono ?_
    rintro e w1 ⟨rfl, rfl⟩
    go_wp2_with fail
    go_ret
    exact ⟨rfl, rfl⟩
theorem cmpU_any (a b : Nat) (w : World) : Calls Tryd.prog 50 #[.int .u64 (a : Int), .int .u64 (b : Int)] w fun e w' => e = .returned (.int .i64 (cmpN a b)) ∧ w' = w := by
  have Hn := Lib.hid fun a => nanU_any a w
  unfold cmpN
  rcases Nat.lt_trichotomy a b with h | h | h
  · rw [if_pos h]
    go_enter Tryd.func50, Tryd.ntmps50
    go_wp2_with fail
    refine (Hn.out _).mono ?_
    rintro e w1 ⟨rfl, rfl⟩
    go_wp2_with fail
    refine (Hn.out _).mono ?_
    rintro e w1 ⟨rfl, rfl⟩
    go_wp2_with fail
    go_ret
    exact ⟨rfl, rfl⟩
  · subst h
    rw [if_neg (Nat.lt_irrefl a), if_neg (Nat.lt_irrefl a)]
    go_enter Tryd.func50, Tryd.ntmps50
    go_wp2_with fail
    refine (Hn.out _).mono ?_
    rintro e w1 ⟨rfl, rfl⟩
    go_wp2_with fail
    refine (Hn.out _).mono ?_
    rintro e w1 ⟨rfl, rfl⟩
    go_wp2_with fail
    go_ret
    exact ⟨rfl, rfl⟩
  · have h' : ¬ a < b := by omega
    rw [if_neg h', if_pos h]
    go_enter Tryd.func50, Tryd.ntmps50
    go_wp2_with fail
    refine (Hn.out _).mono ?_
    rintro e w1 ⟨rfl, rfl⟩
    go_wp2_with fail
    refine (Hn.out _).mono ?_
    rintro e w1 ⟨rfl, rfl⟩
    go_wp2_with fail
    go_ret
    exact ⟨rfl, rfl⟩
theorem orI_any (b c : Nat) (x y : Int) (w : World) (h0 : w.cell? ⟨b, 0, none⟩ = some (.int .i64 x)) (h1 : w.cell? ⟨b, 1, none⟩ = some (.int .i64 y)) :
    Calls Tryd.prog 48 #[.slice (some ⟨b, 0, none⟩) 2 c] w fun e w' => e = .returned (.int .i64 (orI x y)) ∧ w' = w := by
  unfold orI
  by_cases hx : x = 0
  · rw [if_pos hx]
    by_cases hy : y = 0
    · subst hx; subst hy
      go_enter Tryd.func48, Tryd.ntmps48
      go_wp2_with fail
      refine wp_loop_rounds 3 ?_
      rw [rounds_succ]
      go_wp2_with fail
      rw [rounds_succ]
      go_wp2_with fail
      rw [rounds_succ]
      go_wp2_with fail
      go_ret
      exact ⟨rfl, rfl⟩
    · subst hx
      go_enter Tryd.func48, Tryd.ntmps48
      go_wp2_with fail
      refine wp_loop_rounds 2 ?_
      rw [rounds_succ]
      go_wp2_with fail
      rw [rounds_succ]
      go_wp2_with fail
      go_ret
      exact ⟨rfl, rfl⟩
  · rw [if_neg hx]
    go_enter Tryd.func48, Tryd.ntmps48
    go_wp2_with fail
    refine wp_loop_rounds 1 ?_
    rw [rounds_succ]
    go_wp2_with fail
    go_ret
    exact ⟨rfl, rfl⟩
theorem cmp_any (a b : Fc) (va vb : Value) (w : World) : Calls Tryd.prog 21 #[fcV a va, fcV b vb] w fun e w' => e = .returned (.int .i64 (cmpF a b)) ∧ Gr w w' := by
  rw [cmpF_or]
  obtain ⟨k1, s1, l1⟩ := a
  obtain ⟨k2, s2, l2⟩ := b
  unfold fcV
  dsimp only
  obtain ⟨W, hW⟩ : ∃ W, W = (w.alloc (.cells #[.string k1, .int .u64 (s1 : Int), va] 40)).alloc (.cells #[.string k2, .int .u64 (s2 : Int), vb] 40) := ⟨_, rfl⟩
  have e1 : (w.alloc (.cells #[.string k1, .int .u64 (s1 : Int), va] 40)).heap.size = w.heap.size + 1 := by simp
  have ka : Cells W w.heap.size 40 [.string k1, .int .u64 (s1 : Int), va] := by rw [hW]; exact (Cells.new w _ _).alloc _
  have kb : Cells W (w.heap.size + 1) 40 [.string k2, .int .u64 (s2 : Int), vb] := by rw [hW, ← e1]; exact Cells.new _ _ _
  have p0 : W.cell? ⟨w.heap.size, 0, none⟩ = some (.string k1) := ka.cell rfl
  have p1 : W.cell? ⟨w.heap.size, 1, none⟩ = some (.int .u64 (s1 : Int)) := ka.cell rfl
  have p2 : W.cell? ⟨w.heap.size + 1, 0, none⟩ = some (.string k2) := kb.cell rfl
  have p3 : W.cell? ⟨w.heap.size + 1, 1, none⟩ = some (.int .u64 (s2 : Int)) := kb.cell rfl
  have Hc := Lib.hid fun (x y : ByteArray) w => cmpS_any x y w
  have Hu := Lib.hid fun (x y : Nat) w => cmpU_any x y w
  have Ho : Hid (∀ x y, Calls Tryd.prog 48 #[.slice (some ⟨W.heap.size, 0, none⟩) 2 2] (W.drew.alloc (.cells #[.int .i64 x, .int .i64 y] 3)) fun e w' => e = .returned (.int .i64 (orI x y)) ∧ w' = W.drew.alloc (.cells #[.int .i64 x, .int .i64 y] 3)) :=
    fun x y => orI_any W.heap.size 2 x y _ ((Cells.new W.drew _ _).cell rfl) ((Cells.new W.drew _ _).cell rfl)
  have Hend : Hid (∀ x y, Gr w (W.drew.alloc (.cells #[.int .i64 x, .int .i64 y] 3))) := fun x y => by
    rw [hW]
    exact ((Gr.alloc w _).trans (Gr.alloc _ _)).trans ((Gr.drewN _ 1).trans (Gr.alloc _ _))
  have pB : ∀ o : Obj, (W.alloc o).drew.cell? ⟨w.heap.size, 0, none⟩ = some (.string k1) ∧ (W.alloc o).drew.cell? ⟨w.heap.size, 1, none⟩ = some (.int .u64 (s1 : Int)) ∧ (W.alloc o).drew.cell? ⟨w.heap.size + 1, 0, none⟩ = some (.string k2) ∧ (W.alloc o).drew.cell? ⟨w.heap.size + 1, 1, none⟩ = some (.int .u64 (s2 : Int)) := fun o => ⟨(ka.alloc o).drew.cell rfl, (ka.alloc o).drew.cell rfl, (kb.alloc o).drew.cell rfl, (kb.alloc o).drew.cell rfl⟩
  have Hw : Hid (W.drew.heap.size = W.heap.size) := (rfl : W.drew.heap.size = W.heap.size)
  clear ka kb e1
  go_enter Tryd.func21, Tryd.ntmps21
  go_wp2_with fail
  rw [← hW]
  clear hW
  go_region_held3 (fun X => X.cell? ⟨w.heap.size, 0, none⟩ = some (.string k1) ∧ X.cell? ⟨w.heap.size, 1, none⟩ = some (.int .u64 (s1 : Int)) ∧ X.cell? ⟨w.heap.size + 1, 0, none⟩ = some (.string k2) ∧ X.cell? ⟨w.heap.size + 1, 1, none⟩ = some (.int .u64 (s2 : Int))) (first | exact ⟨p0, p1, p2, p3⟩ | exact pB _) (first
    | (go_at_call 49; refine (Hc.out _ _ _).mono ?_; rintro e w2 ⟨rfl, rfl⟩)
    | (go_at_call 50; refine (Hu.out _ _ _).mono ?_; rintro e w2 ⟨rfl, rfl⟩)
    | (go_at_call 48; refine (Ho.out _ _).mono ?_; rintro e w2 ⟨rfl, rfl⟩))
  all_goals
    go_wp2_with fail
    go_ret
    exact ⟨rfl, Hend.out _ _⟩
end
end Go.Proofs.YtghcfmkmndldoaaDoor

/-
  Facts in memory: slices that read as facts, slices of the call's own.
-/
namespace Go.Proofs.YtghcfmkmndldoaaDoor
open Go.RowKit Go.Sort Go.Lib

/-- V is a slice that reads as x, below block B -/
def Vb (w : World) (B : Nat) (V : Value) (x : List UInt8) : Prop := ∃ A c, V = .slice A x.length c ∧ x.length ≤ c ∧ (A = none → c = 0) ∧ RB w B A x
/-- a fact's cells -/
def cellF (p : Fc × Value) : List Value := [.string p.1.1, .int .u64 (p.1.2.1 : Int), p.2]
def cellsF (ps : List (Fc × Value)) : List Value := ps.flatMap cellF
theorem cellsF_append (ps qs : List (Fc × Value)) : cellsF (ps ++ qs) = cellsF ps ++ cellsF qs := by simp [cellsF]
theorem cellsF_length (ps : List (Fc × Value)) : (cellsF ps).length = ps.length * 3 := by
  induction ps with
  | nil => rfl
  | cons p ps ih => rw [show cellsF (p :: ps) = cellF p ++ cellsF ps from rfl, List.length_append, ih]; simp [cellF]; omega
theorem cellsF_get (ps : List (Fc × Value)) : ∀ (k : Nat) (p : Fc × Value), ps[k]? = some p → (cellsF ps)[k * 3]? = some (.string p.1.1) ∧ (cellsF ps)[k * 3 + 1]? = some (.int .u64 (p.1.2.1 : Int)) ∧ (cellsF ps)[k * 3 + 2]? = some p.2 := by
  induction ps with
  | nil => intro k p h; simp at h
  | cons q ps ih =>
    intro k p h
    rw [show cellsF (q :: ps) = .string q.1.1 :: .int .u64 (q.1.2.1 : Int) :: q.2 :: cellsF ps from rfl]
    cases k with
    | zero => simp at h; subst h; exact ⟨rfl, rfl, rfl⟩
    | succ k =>
      have := ih k p (by simpa using h)
      rw [show (k + 1) * 3 = k * 3 + 1 + 1 + 1 by omega]
      exact this
/-- the other way: each cell is one of some fact's -/
theorem cellsF_at (ps : List (Fc × Value)) {j : Nat} {u : Value} (h : (cellsF ps)[j]? = some u) : ∃ k p, ps[k]? = some p ∧ ((j = k * 3 ∧ u = .string p.1.1) ∨ (j = k * 3 + 1 ∧ u = .int .u64 (p.1.2.1 : Int)) ∨ (j = k * 3 + 2 ∧ u = p.2)) := by
  have hj : j < ps.length * 3 := by rw [← cellsF_length]; exact (List.getElem?_eq_some_iff.1 h).1
  have hk : j / 3 < ps.length := by omega
  refine ⟨j / 3, _, List.getElem?_eq_getElem hk, ?_⟩
  obtain ⟨c0, c1, c2⟩ := cellsF_get ps (j / 3) _ (List.getElem?_eq_getElem hk)
  rcases (by omega : j % 3 = 0 ∨ j % 3 = 1 ∨ j % 3 = 2) with q | q | q
  · left; rw [show j / 3 * 3 = j by omega, h] at c0; exact ⟨by omega, Option.some.inj c0⟩
  · right; left; rw [show j / 3 * 3 + 1 = j by omega, h] at c1; exact ⟨by omega, Option.some.inj c1⟩
  · right; right; rw [show j / 3 * 3 + 2 = j by omega, h] at c2; exact ⟨by omega, Option.some.inj c2⟩
theorem oneF_of {ps : List (Fc × Value)} (h : ∀ p ∈ ps, p.2.oneCell' = true) : ∀ u ∈ cellsF ps, u.oneCell' = true := by
  intro u hu
  obtain ⟨p, hp, hu⟩ := List.mem_flatMap.1 hu
  simp only [cellF, List.mem_cons, List.not_mem_nil, or_false] at hu
  rcases hu with rfl | rfl | rfl
  · rfl
  · rfl
  · exact h p hp
/-- THE SLICE AT A HAS THE CELLS OF ps, below block B -/
def RP (w : World) (B : Nat) (A : Option Addr) (ps : List (Fc × Value)) : Prop :=
  ∀ k p, ps[k]? = some p → ∃ b o, A = some ⟨b, o, none⟩ ∧ b < B ∧ w.cell? ⟨b, o + k * 3, none⟩ = some (.string p.1.1) ∧ w.cell? ⟨b, o + k * 3 + 1, none⟩ = some (.int .u64 (p.1.2.1 : Int)) ∧ w.cell? ⟨b, o + k * 3 + 2, none⟩ = some p.2
/-- each value is what the slice beside it reads as -/
def VS (S : Value → List UInt8 → Prop) (ps : List (Fc × Value)) : Prop := ∀ p ∈ ps, S p.2 p.1.2.2 ∧ p.1.2.1 < two64
/-- THE SLICE AT A READS AS the facts fs, all of it below block B -/
def RF (w : World) (B : Nat) (A : Option Addr) (fs : List Fc) : Prop := ∃ ps, ps.map Prod.fst = fs ∧ RP w B A ps ∧ VS (Vb w B) ps
/-- THE CALL OWNS v, a slice of facts, which holds fs; their values are as S says -/
def RowF (w : World) (base : Nat) (v : Value) (fs : List Fc) (S : Value → List UInt8 → Prop) : Prop :=
  ∃ ps, ps.map Prod.fst = fs ∧ w.ownsRow base 40 3 v ps.length (cellsF ps) ∧ VS S ps
theorem info_fact : (Tryd.prog.info? 40).map (fun i => (i.zero, i.size, i.bytes)) = some (some (.agg #[.string ⟨#[]⟩, .int .u64 0, .slice none 0 0]), 3, 48) := by kernel_rfl

section
variable {w w' : World} {B B' base : Nat} {A : Option Addr} {V v : Value} {x : List UInt8} {ps qs : List (Fc × Value)} {fs gs : List Fc} {S S' : Value → List UInt8 → Prop}
theorem Vb.one (h : Vb w B V x) : V.oneCell' = true := by obtain ⟨A, c, rfl, _⟩ := h; rfl
theorem Vb.below (h : Vb w B V x) (hb : Below B w w') : Vb w' B V x := by obtain ⟨A, c, e, hc, hA, hr⟩ := h; exact ⟨A, c, e, hc, hA, hr.below hb⟩
theorem Vb.wide (h : Vb w B V x) (hB : B ≤ B') : Vb w B' V x := by obtain ⟨A, c, e, hc, hA, hr⟩ := h; exact ⟨A, c, e, hc, hA, hr.wide hB⟩
theorem Vb.move (h : Vb w B V x) (hk : ∀ p : Addr, p.block < B → w'.cell? p = w.cell? p) : Vb w' B V x := by obtain ⟨A, c, e, hc, hA, hr⟩ := h; exact ⟨A, c, e, hc, hA, hr.move hk (Nat.le_refl _)⟩
theorem Vb.own (h : Own w base V x) : Vb w w.heap.size V x := by obtain ⟨A, c, e, hc, hr, hA⟩ := h.rb; exact ⟨A, c, e, hc, hA, hr⟩
theorem VS.mono (h : VS S ps) (hS : ∀ V x, S V x → S' V x) : VS S' ps := fun p hp => ⟨hS _ _ (h p hp).1, (h p hp).2⟩
theorem VS.append (h : VS S ps) (k : VS S qs) : VS S (ps ++ qs) := fun p hp => by
  rcases List.mem_append.1 hp with hp | hp
  · exact h p hp
  · exact k p hp
theorem RP.below (h : RP w B A ps) (hb : Below B w w') : RP w' B A ps := fun k p hk => by
  obtain ⟨b, o, e, hlt, h0, h1, h2⟩ := h k p hk
  exact ⟨b, o, e, hlt, (hb.cell hlt).trans h0, (hb.cell hlt).trans h1, (hb.cell hlt).trans h2⟩
theorem RP.wide (h : RP w B A ps) (hB : B ≤ B') : RP w B' A ps := fun k p hk => by
  obtain ⟨b, o, e, hlt, h0, h1, h2⟩ := h k p hk
  exact ⟨b, o, e, by omega, h0, h1, h2⟩
theorem RP.cut {b o : Nat} (h : RP w B (some ⟨b, o, none⟩) ps) (n : Nat) : RP w B (some ⟨b, o + n * 3, none⟩) (ps.drop n) := fun k p hk => by
  rw [List.getElem?_drop] at hk
  obtain ⟨b', o', e, hlt, h0, h1, h2⟩ := h _ p hk
  cases e
  rw [show o + (n + k) * 3 = o + n * 3 + k * 3 by omega] at h0 h1 h2
  exact ⟨b, _, rfl, hlt, h0, h1, h2⟩
theorem RP.take (h : RP w B A ps) (n : Nat) : RP w B A (ps.take n) := fun k p hk => by
  rw [List.getElem?_take] at hk
  split at hk
  · exact h k p hk
  · cases hk
theorem RF.nil (w : World) (B : Nat) (A : Option Addr) : RF w B A [] := ⟨[], rfl, fun k p h => by simp at h, fun p h => by simp at h⟩
theorem RF.below (h : RF w B A fs) (hb : Below B w w') : RF w' B A fs := by
  obtain ⟨ps, e, hp, hv⟩ := h
  exact ⟨ps, e, hp.below hb, hv.mono fun _ _ q => q.below hb⟩
theorem RF.wide (h : RF w B A fs) (hB : B ≤ B') : RF w B' A fs := by
  obtain ⟨ps, e, hp, hv⟩ := h
  exact ⟨ps, e, hp.wide hB, hv.mono fun _ _ q => q.wide hB⟩
theorem RF.gr (h : RF w B A fs) (hg : Gr w w') (hB : B ≤ w.heap.size) : RF w' B A fs := h.below (hg.below.mono hB)
theorem RF.now (h : RF w w.heap.size A fs) (hb : Below w.heap.size w w') : RF w' w'.heap.size A fs := (h.below hb).wide hb.size
theorem RF.take (h : RF w B A fs) (n : Nat) : RF w B A (fs.take n) := by
  obtain ⟨ps, e, hp, hv⟩ := h
  exact ⟨ps.take n, by rw [List.map_take, e], hp.take n, fun p h => hv p (List.mem_of_mem_take h)⟩
theorem RF.cut {b o : Nat} (h : RF w B (some ⟨b, o, none⟩) fs) (n : Nat) : RF w B (some ⟨b, o + n * 3, none⟩) (fs.drop n) := by
  obtain ⟨ps, e, hp, hv⟩ := h
  exact ⟨ps.drop n, by rw [List.map_drop, e], hp.cut n, fun p h => hv p (List.mem_of_mem_drop h)⟩
/-- the fact of that place -/
theorem RF.at_ (h : RF w B A fs) {k : Nat} {f : Fc} (hk : fs[k]? = some f) : ∃ b o V, A = some ⟨b, o, none⟩ ∧ b < B ∧ w.cell? ⟨b, o + k * 3, none⟩ = some (.string f.1) ∧ w.cell? ⟨b, o + k * 3 + 1, none⟩ = some (.int .u64 (f.2.1 : Int)) ∧ w.cell? ⟨b, o + k * 3 + 2, none⟩ = some V ∧ Vb w B V f.2.2 ∧ f.2.1 < two64 := by
  obtain ⟨ps, e, hp, hv⟩ := h
  rw [← e, List.getElem?_map, Option.map_eq_some_iff] at hk
  obtain ⟨p, hk, rfl⟩ := hk
  obtain ⟨b, o, rfl, hlt, h0, h1, h2⟩ := hp k p hk
  have := hv p (List.mem_of_getElem? hk)
  exact ⟨b, o, p.2, rfl, hlt, h0, h1, h2, this.1, this.2⟩
theorem RF.flat (h : RF w B A fs) (h0 : 0 < fs.length) : ∃ b o, A = some ⟨b, o, none⟩ ∧ b < B := by
  obtain ⟨b, o, V, e, hlt, _⟩ := h.at_ (List.getElem?_eq_getElem h0)
  exact ⟨b, o, e, hlt⟩
theorem RowF.nil (w : World) (base : Nat) (S : Value → List UInt8 → Prop) : RowF w base (.slice none 0 0) [] S := ⟨[], rfl, World.ownsRow_nil _ _ _ _, fun p h => by simp at h⟩
theorem RowF.mono (h : RowF w base v fs S) (hS : ∀ V x, S V x → S' V x) : RowF w base v fs S' := by
  obtain ⟨ps, e, ho, hv⟩ := h
  exact ⟨ps, e, ho, hv.mono hS⟩
theorem RowF.move (h : RowF w base v fs S) (hk : ∀ g, v.ownBlock = some g → w'.heap[g]? = w.heap[g]?) : RowF w' base v fs S := by
  obtain ⟨ps, e, ho, hv⟩ := h
  refine ⟨ps, e, ⟨ho.1, ?_⟩, hv⟩
  rcases ho.2 with q | ⟨g, cap, cur, hv, hg, hh, r⟩
  · exact .inl q
  · exact .inr ⟨g, cap, cur, hv, hg, (hk g (by rw [hv]; rfl)).trans hh, r⟩
theorem RowF.ge (h : RowF w base v fs S) : ∀ k, v.ownBlock = some k → base ≤ k ∧ k < w.heap.size := by
  obtain ⟨ps, e, ho, hv⟩ := h
  exact fun k hk => World.ownsRow.lt ho k hk
theorem RowF.below (h : RowF w base v fs S) (hb : Below w.heap.size w w') : RowF w' base v fs S := h.move fun g hg => hb.block g (h.ge g hg).2
theorem RowF.wideB (h : RowF w base v fs S) (hb : B ≤ base) : RowF w B v fs S := by
  obtain ⟨ps, e, ho, hv⟩ := h
  refine ⟨ps, e, ⟨ho.1, ?_⟩, hv⟩
  rcases ho.2 with h | ⟨g, cap, cur, hv, hg, r⟩
  · exact .inl h
  · exact .inr ⟨g, cap, cur, hv, Nat.le_trans hb hg, r⟩
/-- what an owned slice of facts is -/
theorem RowF.rd (h : RowF w base v fs S) (hS : ∀ V x, S V x → Vb w w.heap.size V x) : ∃ A c, v = .slice A fs.length c ∧ fs.length ≤ c ∧ (A = none → c = 0) ∧ RF w w.heap.size A fs ∧ ∀ b o, A = some ⟨b, o, none⟩ → base ≤ b := by
  obtain ⟨ps, e, ho, hv⟩ := h
  have hl : fs.length = ps.length := by rw [← e, List.length_map]
  rcases ho.2 with ⟨rfl, h0⟩ | ⟨g, cap, cur, rfl, hb, hg, hn, hm, hs, ht⟩
  · have : ps = [] := List.eq_nil_of_length_eq_zero h0
    subst this
    refine ⟨none, 0, by rw [hl]; rfl, by rw [hl]; exact Nat.le_refl _, fun _ => rfl, ?_, fun b o e => by cases e⟩
    have : fs = [] := by rw [← e]; rfl
    subst this
    exact RF.nil _ _ _
  · refine ⟨_, cap, by rw [hl], by rw [hl]; exact hn, fun e => by (cases e), ⟨ps, e, fun k p hk => ⟨g, 0, rfl, (Array.getElem?_eq_some_iff.1 hg).1, ?_⟩, hv.mono hS⟩, fun b o e => by cases e; exact hb⟩
    obtain ⟨c0, c1, c2⟩ := cellsF_get ps k p hk
    have q0 := World.ownsRow.cells (e := 40) (size := 3) ho rfl (k * 3) _ c0
    have q1 := World.ownsRow.cells (e := 40) (size := 3) ho rfl (k * 3 + 1) _ c1
    have q2 := World.ownsRow.cells (e := 40) (size := 3) ho rfl (k * 3 + 2) _ c2
    rw [add_flat] at q0 q1 q2
    exact ⟨q0, q1, q2⟩
/-- append(v, facts of a slice that reads as qs), as a run -/
theorem app_facts_run (ty : TypeId) (ho : w.ownsRow base 40 3 v ps.length (cellsF ps)) (hr : RP w B A qs) (c : Nat) (h1 : ∀ p ∈ qs, p.2.oneCell' = true) (hlen : ps.length + qs.length ≤ 1099511627776) (hbase : base ≤ w.heap.size) :
    ∃ v' w', (Builtin.append_ #[42, 42] ty #[v, .slice A qs.length c]).run Tryd.prog w = .ok v' w' ∧ w'.ownsRow base 40 3 v' (ps ++ qs).length (cellsF (ps ++ qs)) ∧ w.grownBy w' v.ownBlock ∧ (v'.ownBlock = v.ownBlock ∨ v'.ownBlock = some w.heap.size) := by
  obtain ⟨i0, hi0, hz0, hz1, hz2⟩ := info_parts info_fact
  by_cases h0 : qs = []
  · subst h0
    refine ⟨v, w, ?_, by rw [List.append_nil]; exact ho, World.grownBy.refl w _, .inl rfl⟩
    rcases ho.2 with ⟨rfl, _⟩ | ⟨g, cap, cur, rfl, _, _, hnc, _⟩
    · cases A <;> simp [Builtin.append_, run_underlying Tryd.underlying42, sizeOf, typeInfo, hi0, Builtin.lenOf, Builtin.firstCells, loadCells, loadCellsFrom]
    · cases A <;> simp [Builtin.append_, run_underlying Tryd.underlying42, sizeOf, typeInfo, hi0, Builtin.lenOf, Builtin.firstCells, hnc, storeCells, loadCells, loadCellsFrom]
  · obtain ⟨b, o, rfl, _⟩ := hr 0 (qs[0]'(List.length_pos_iff.2 h0)) (List.getElem?_eq_getElem _)
    obtain ⟨v', w', hrun, r2, r3, _, r5⟩ := run_append_own_at (P := Tryd.prog) w base 42 ty 40 i0 _ 3 48 Tryd.underlying42 hi0 hz0 hz1 hz2 rfl (by omega) v ps.length (cellsF ps) ho ⟨b, o, none⟩ qs.length c (cellsF qs)
      (by rw [cellsF_length]) (fun j u hj => by
        rw [add_flat]
        obtain ⟨k, p, hk, q⟩ := cellsF_at qs hj
        obtain ⟨b', o', e, _, c0, c1, c2⟩ := hr k p hk
        cases e
        rcases q with ⟨rfl, rfl⟩ | ⟨rfl, rfl⟩ | ⟨rfl, rfl⟩
        · exact c0
        · exact c1
        · exact c2) (oneF_of h1) (by simp only [maxLen]; omega) (by omega) hbase
    exact ⟨v', w', hrun, by rw [List.length_append, cellsF_append]; exact r2, r3, r5⟩
end
end Go.Proofs.YtghcfmkmndldoaaDoor

/-
  The second saying's Compare; Right of both; copied.
-/
namespace Go.Proofs.YtghcfmkmndldoaaDoor
open Go.RowKit Go.Sort Go.Lib

section
set_option maxRecDepth 100000
set_option maxHeartbeats 4000000
theorem rcmp_any (a b : Fc) (va vb : Value) (w : World) : Calls Tryd.prog 22 #[fcV a va, fcV b vb] w fun e w' => e = .returned (.int .i64 (cmpF a b)) ∧ Gr w w' := by
  rw [cmpF_or]
  obtain ⟨k1, s1, l1⟩ := a
  obtain ⟨k2, s2, l2⟩ := b
  unfold fcV
  dsimp only
  obtain ⟨W, hW⟩ : ∃ W, W = (w.alloc (.cells #[.string k1, .int .u64 (s1 : Int), va] 40)).alloc (.cells #[.string k2, .int .u64 (s2 : Int), vb] 40) := ⟨_, rfl⟩
  have e1 : (w.alloc (.cells #[.string k1, .int .u64 (s1 : Int), va] 40)).heap.size = w.heap.size + 1 := by simp
  have ka : Cells W w.heap.size 40 [.string k1, .int .u64 (s1 : Int), va] := by rw [hW]; exact (Cells.new w _ _).alloc _
  have kb : Cells W (w.heap.size + 1) 40 [.string k2, .int .u64 (s2 : Int), vb] := by rw [hW, ← e1]; exact Cells.new _ _ _
  have p0 : W.cell? ⟨w.heap.size, 0, none⟩ = some (.string k1) := ka.cell rfl
  have p1 : W.cell? ⟨w.heap.size, 1, none⟩ = some (.int .u64 (s1 : Int)) := ka.cell rfl
  have p2 : W.cell? ⟨w.heap.size + 1, 0, none⟩ = some (.string k2) := kb.cell rfl
  have p3 : W.cell? ⟨w.heap.size + 1, 1, none⟩ = some (.int .u64 (s2 : Int)) := kb.cell rfl
  have Hend : Hid (Gr w W) := by rw [hW]; exact (Gr.alloc w _).trans (Gr.alloc _ _)
  clear ka kb e1
  rcases less_total k1.toList k2.toList with h | h | h
  · rw [show orI (cmpK k1 k2) (cmpN s2 s1) = -1 by unfold cmpK orI; rw [if_pos h]; rfl]
    go_enter Tryd.func22, Tryd.ntmps22
    go_wp2_with fail
    rw [← hW]
    clear hW
    go_wp2_with fail
    all_goals
      go_ret
      exact ⟨rfl, Hend.out⟩
  · have := array_inj h
    subst this
    have h2 := less_irrefl k1.toList
    have h3 : (k1.toList == k1.toList) = true := by simp
    rw [show orI (cmpK k1 k1) (cmpN s2 s1) = cmpN s2 s1 by rw [cmpK_zero.2 rfl]; rfl]
    unfold cmpN
    rcases Nat.lt_trichotomy s2 s1 with q | q | q
    · rw [if_pos q]
      go_enter Tryd.func22, Tryd.ntmps22
      go_wp2_with fail
      rw [← hW]
      clear hW
      go_wp2_with fail
      all_goals
        go_ret
        exact ⟨rfl, Hend.out⟩
    · subst q
      rw [if_neg (Nat.lt_irrefl _), if_neg (Nat.lt_irrefl _)]
      go_enter Tryd.func22, Tryd.ntmps22
      go_wp2_with fail
      rw [← hW]
      clear hW
      go_wp2_with fail
      all_goals
        go_ret
        exact ⟨rfl, Hend.out⟩
    · have q' : ¬ s2 < s1 := by omega
      rw [if_neg q', if_pos q]
      go_enter Tryd.func22, Tryd.ntmps22
      go_wp2_with fail
      rw [← hW]
      clear hW
      go_wp2_with fail
      all_goals
        go_ret
        exact ⟨rfl, Hend.out⟩
  · have h2 := less_asymm h
    have h4 : ¬ k1.toList = k2.toList := by
      intro e
      rw [e, less_irrefl] at h
      cases h
    have h3 : (k1.toList == k2.toList) = false := by
      rw [beq_eq_false_iff_ne]
      exact h4
    have e2 : cmpK k1 k2 = 1 := by unfold cmpK; simp only [h2, h]; rfl
    rw [show orI (cmpK k1 k2) (cmpN s2 s1) = 1 by rw [e2]; rfl]
    clear e2
    go_enter Tryd.func22, Tryd.ntmps22
    go_wp2_with fail
    rw [← hW]
    clear hW
    go_wp2_with fail
    all_goals
      go_ret
      exact ⟨rfl, Hend.out⟩
theorem right_any (A : Option Addr) (c : Nat) (fs : List Fc) (w : World) (hl : fs.length ≤ 1099511627776) (hr : RF w w.heap.size A fs) :
    Calls Tryd.prog 23 #[.slice A fs.length c] w fun e w' => e = .returned (.bool (rightF fs)) ∧ Gr w w' := by
  have Hr := Lib.hid hr
  have hl' : ((fs.length : Nat) : Int) ≤ 1099511627776 := by omega
  have Hlen : Hid (∀ k : Nat, k < fs.length → ∃ u, fs[k]? = some u) := fun k hk => ⟨_, List.getElem?_eq_getElem hk⟩
  have Hc := Lib.hid cmp_any
  obtain ⟨n, hn⟩ : ∃ n, n = fs.length := ⟨_, rfl⟩
  rw [← hn] at hl' Hlen ⊢
  have Hn := Lib.hid hn
  clear hr hl hn
  go_enter Tryd.func23, Tryd.ntmps23
  go_wp2_with fail
  go_loopw [3] (fun iv wr => ∃ i : Nat, iv = .int .i64 ((i + 1 : Nat) : Int) ∧ (i = 0 ∨ i < n) ∧ Hid (rightF (fs.take (i + 1)) = true) ∧ Hid (Gr w wr)) (fun iv _ => n + 1 - (intOf iv).toNat)
  case atStart => exact ⟨0, rfl, .inl rfl, (by show rightF _ = true; cases fs with | nil => rfl | cons a l => rfl), Gr.refl w⟩
  case round =>
    obtain ⟨i, rfl, hi, hall, hg⟩ := hrel
    by_cases hlt : i + 1 < n
    · obtain ⟨a, ha⟩ := Hlen.out i (by omega)
      obtain ⟨b, hb⟩ := Hlen.out (i + 1) hlt
      have hrw := Hr.out.gr hg.out (Nat.le_refl _)
      obtain ⟨bk, o, va, rfl, hblt, a0, a1, a2, _⟩ := hrw.at_ ha
      obtain ⟨bk', o', vb, e, _, b0, b1, b2, _⟩ := hrw.at_ hb
      cases e
      have hlt' : (i : Int) + 1 < (n : Int) := by omega
      have hlt2 : (i : Int) < (n : Int) := by omega
      have hlt3 : i < n := by omega
      have hw1 : IntKind.i64.wrap ((i : Int) + 1 - 1) = (i : Int) := by rw [IntWalk.i64_left]; unfold wrap64; omega
      have hw2 : IntKind.i64.wrap (i : Int) = (i : Int) := by rw [IntWalk.i64_left]; unfold wrap64; omega
      have Hres : Hid (rightF (fs.take (i + 2)) = decide (cmpF a b < 0)) := rightF_take hall.out ha hb
      have Hw : Hid (∀ w1, Gr wr w1 → Gr w w1) := fun w1 h1 => hg.out.trans h1
      have Hg0 : Hid (Gr wr wr.drew) := Gr.drewN wr 1
      have Hcc := Lib.hid (fun w1 => Hc.out a b va vb w1)
      unfold fcV at Hcc
      generalize cmpF a b = cv at Hres Hcc
      obtain ⟨ka, sa, la⟩ := a
      obtain ⟨kb, sb, lb⟩ := b
      dsimp only at a0 a1 a2 b0 b1 b2 Hcc
      clear ha hb hrw hall hg Hlen Hr
      have hi0 : ((i + 1 : Nat) : Int) - 1 = (i : Int) := by omega
      have d0 : wr.drew.cell? ⟨bk, o + i * 3, none⟩ = some (.string ka) := a0
      have d1 : wr.drew.cell? ⟨bk, o + i * 3 + 1, none⟩ = some (.int .u64 (sa : Int)) := a1
      have d2 : wr.drew.cell? ⟨bk, o + i * 3 + 2, none⟩ = some va := a2
      have d3 : wr.drew.cell? ⟨bk, o + (i + 1) * 3, none⟩ = some (.string kb) := b0
      have d4 : wr.drew.cell? ⟨bk, o + (i + 1) * 3 + 1, none⟩ = some (.int .u64 (sb : Int)) := b1
      have d5 : wr.drew.cell? ⟨bk, o + (i + 1) * 3 + 2, none⟩ = some vb := b2
      by_cases hq : cv < 0
      · have Ha : Hid (rightF (fs.take (i + 2)) = true) := by show _ = _; rw [Hres.out]; exact decide_eq_true hq
        clear Hres
        go_upto_region 4 with fail
        go_region_with (go_at_call 21; refine (Hcc.out _).mono ?_; rintro e w3 ⟨rfl, h3⟩; have H3 := Lib.hid h3; clear h3)
        all_goals
          go_wp2_with fail
          exact ⟨⟨i + 1, by go_num, .inr (by omega), Ha.out, (by first | exact Hw.out _ H3.out | exact Hw.out _ ((Gr.drewN wr 1).trans H3.out))⟩, by simp [intOf]; omega⟩
      · have Ha : Hid (rightF fs = false) := rightF_prefix (i + 2) (by rw [Hres.out]; exact decide_eq_false hq)
        clear Hres
        go_upto_region 4 with fail
        go_region_with (go_at_call 21; refine (Hcc.out _).mono ?_; rintro e w3 ⟨rfl, h3⟩; have H3 := Lib.hid h3; clear h3)
        all_goals
          go_wp2_with fail
          go_ret
          exact ⟨by rw [Ha.out]; rfl, (by first | exact Hw.out _ H3.out | exact Hw.out _ ((Gr.drewN wr 1).trans H3.out))⟩
    · have Ha : Hid (rightF fs = true) := by
        have := hall.out
        rw [List.take_of_length_le (by have := Hn.out; omega)] at this
        exact this
      have Hg := hg
      have hlt' : ¬ ((i + 1 : Nat) : Int) < (n : Int) := by omega
      clear hall hg hi hlt
      go_wp2_with fail
      go_ret
      exact ⟨by rw [Ha.out]; rfl, Hg.out⟩
theorem rright_any (A : Option Addr) (c : Nat) (fs : List Fc) (w : World) (hl : fs.length ≤ 1099511627776) (hr : RF w w.heap.size A fs) :
    Calls Tryd.prog 24 #[.slice A fs.length c] w fun e w' => e = .returned (.bool (rightF fs)) ∧ Gr w w' := by
  have Hr := Lib.hid hr
  have hl' : ((fs.length : Nat) : Int) ≤ 1099511627776 := by omega
  have Hlen : Hid (∀ k : Nat, k < fs.length → ∃ u, fs[k]? = some u) := fun k hk => ⟨_, List.getElem?_eq_getElem hk⟩
  have Hc := Lib.hid rcmp_any
  obtain ⟨n, hn⟩ : ∃ n, n = fs.length := ⟨_, rfl⟩
  rw [← hn] at hl' Hlen ⊢
  have Hn := Lib.hid hn
  clear hr hl hn
  go_enter Tryd.func24, Tryd.ntmps24
  go_wp2_with fail
  go_loopw [3] (fun iv wr => ∃ i : Nat, iv = .int .i64 ((i + 1 : Nat) : Int) ∧ (i = 0 ∨ i < n) ∧ Hid (rightF (fs.take (i + 1)) = true) ∧ Hid (Gr w wr)) (fun iv _ => n + 1 - (intOf iv).toNat)
  case atStart => exact ⟨0, rfl, .inl rfl, (by show rightF _ = true; cases fs with | nil => rfl | cons a l => rfl), Gr.refl w⟩
  case round =>
    obtain ⟨i, rfl, hi, hall, hg⟩ := hrel
    by_cases hlt : i + 1 < n
    · obtain ⟨a, ha⟩ := Hlen.out i (by omega)
      obtain ⟨b, hb⟩ := Hlen.out (i + 1) hlt
      have hrw := Hr.out.gr hg.out (Nat.le_refl _)
      obtain ⟨bk, o, va, rfl, hblt, a0, a1, a2, _⟩ := hrw.at_ ha
      obtain ⟨bk', o', vb, e, _, b0, b1, b2, _⟩ := hrw.at_ hb
      cases e
      have hlt' : (i : Int) + 1 < (n : Int) := by omega
      have hlt2 : (i : Int) < (n : Int) := by omega
      have hlt3 : i < n := by omega
      have hw1 : IntKind.i64.wrap ((i : Int) + 1 - 1) = (i : Int) := by rw [IntWalk.i64_left]; unfold wrap64; omega
      have hw2 : IntKind.i64.wrap (i : Int) = (i : Int) := by rw [IntWalk.i64_left]; unfold wrap64; omega
      have Hres : Hid (rightF (fs.take (i + 2)) = decide (cmpF a b < 0)) := rightF_take hall.out ha hb
      have Hw : Hid (∀ w1, Gr wr w1 → Gr w w1) := fun w1 h1 => hg.out.trans h1
      have Hg0 : Hid (Gr wr wr.drew) := Gr.drewN wr 1
      have Hcc := Lib.hid (fun w1 => Hc.out a b va vb w1)
      unfold fcV at Hcc
      generalize cmpF a b = cv at Hres Hcc
      obtain ⟨ka, sa, la⟩ := a
      obtain ⟨kb, sb, lb⟩ := b
      dsimp only at a0 a1 a2 b0 b1 b2 Hcc
      clear ha hb hrw hall hg Hlen Hr
      have hi0 : ((i + 1 : Nat) : Int) - 1 = (i : Int) := by omega
      have d0 : wr.drew.cell? ⟨bk, o + i * 3, none⟩ = some (.string ka) := a0
      have d1 : wr.drew.cell? ⟨bk, o + i * 3 + 1, none⟩ = some (.int .u64 (sa : Int)) := a1
      have d2 : wr.drew.cell? ⟨bk, o + i * 3 + 2, none⟩ = some va := a2
      have d3 : wr.drew.cell? ⟨bk, o + (i + 1) * 3, none⟩ = some (.string kb) := b0
      have d4 : wr.drew.cell? ⟨bk, o + (i + 1) * 3 + 1, none⟩ = some (.int .u64 (sb : Int)) := b1
      have d5 : wr.drew.cell? ⟨bk, o + (i + 1) * 3 + 2, none⟩ = some vb := b2
      by_cases hq : cv < 0
      · have Ha : Hid (rightF (fs.take (i + 2)) = true) := by show _ = _; rw [Hres.out]; exact decide_eq_true hq
        clear Hres
        go_upto_region 4 with fail
        go_region_with (go_at_call 22; refine (Hcc.out _).mono ?_; rintro e w3 ⟨rfl, h3⟩; have H3 := Lib.hid h3; clear h3)
        all_goals
          go_wp2_with fail
          exact ⟨⟨i + 1, by go_num, .inr (by omega), Ha.out, (by first | exact Hw.out _ H3.out | exact Hw.out _ ((Gr.drewN wr 1).trans H3.out))⟩, by simp [intOf]; omega⟩
      · have Ha : Hid (rightF fs = false) := rightF_prefix (i + 2) (by rw [Hres.out]; exact decide_eq_false hq)
        clear Hres
        go_upto_region 4 with fail
        go_region_with (go_at_call 22; refine (Hcc.out _).mono ?_; rintro e w3 ⟨rfl, h3⟩; have H3 := Lib.hid h3; clear h3)
        all_goals
          go_wp2_with fail
          go_ret
          exact ⟨by rw [Ha.out]; rfl, (by first | exact Hw.out _ H3.out | exact Hw.out _ ((Gr.drewN wr 1).trans H3.out))⟩
    · have Ha : Hid (rightF fs = true) := by
        have := hall.out
        rw [List.take_of_length_le (by have := Hn.out; omega)] at this
        exact this
      have Hg := hg
      have hlt' : ¬ ((i + 1 : Nat) : Int) < (n : Int) := by omega
      clear hall hg hi hlt
      go_wp2_with fail
      go_ret
      exact ⟨by rw [Ha.out]; rfl, Hg.out⟩
end
end Go.Proofs.YtghcfmkmndldoaaDoor

/-
  both: two lists of facts as one.
-/
namespace Go.Proofs.YtghcfmkmndldoaaDoor
open Go.RowKit Go.Sort Go.Lib

def lenS : Value → Nat | .slice _ n _ => n | _ => 0
theorem one_slice (A : Option Addr) (n c : Nat) : (Value.slice A n c).oneCell' = true := rfl
/-- a list without its first -/
theorem tail_run (b o n c : Nat) (h1 : 1 ≤ n) (h2 : n ≤ c) : ∃ A' : Option Addr, (∀ W : World, (Instr.sliceAt 42 (.slice (some ⟨b, o, none⟩) n c) (some (.int .i64 1)) none none).run Tryd.prog W = .ok (.slice A' (n - 1) (c - 1)) W) ∧ (1 < c → A' = some ⟨b, o + 3, none⟩) ∧ A' ≠ none := by
  have h3 : (1 : Int) ≤ (n : Int) := by omega
  by_cases h5 : 1 < c
  · refine ⟨some ⟨b, o + 3, none⟩, fun W => ?_, fun _ => rfl, by simp⟩
    have h4 : ¬ 1 = c := by omega
    simp [go_sem, h3, sliced, Addr.add]
    omega
  · refine ⟨some ⟨b, o, none⟩, fun W => ?_, fun h => absurd h h5, by simp⟩
    have h4 : c = 1 := by omega
    have h6 : n = 1 := by omega
    subst h4
    subst h6
    simp [go_sem, sliced]
/-- make([]api.Fact, 0, n) -/
theorem make_facts (n : Nat) (hn : n ≤ 1099511627776) : ∃ cs : Array Value, (∀ (u : World) (base : Nat), base ≤ u.heap.size → (u.alloc (.cells cs 40)).ownsRow base 40 3 (.slice (some ⟨u.heap.size, 0, none⟩) 0 n) 0 []) ∧
    ∀ u : World, (Instr.makeSlice 42 (.int .i64 0) (.int .i64 (n : Int))).run Tryd.prog u = .ok (.slice (some ⟨u.heap.size, 0, none⟩) 0 n) (u.alloc (.cells cs 40)) := by
  obtain ⟨i0, hi, hz0, hz1, hz2⟩ := info_parts info_fact
  refine ⟨madeCells (Value.agg #[.string ⟨#[]⟩, .int .u64 0, .slice none 0 0]).cells (n * 3), fun u base hb => World.ownsRow_made u _ n hb (by simp only [maxLen]; omega) (by rw [size_madeCells]), fun u => ?_⟩
  have h := run_make (P := Tryd.prog) u 42 40 i0 _ Tryd.underlying42 hi hz0 .i64 .i64 0 (n : Int) (by omega) (by omega) (by rw [hz2]; omega) (by omega)
  rw [h]
  simp only [Int.toNat_natCast, hz1]
  rfl
section
variable {w w' : World} {B B' base : Nat} {A : Option Addr} {V v : Value} {ps qs : List (Fc × Value)} {fs gs : List Fc} {S : Value → List UInt8 → Prop}
/-- append(v, qs...) at an operation of a walk -/
theorem app_facts {ops : Array Oper} {rest : List Oper} {o : Oper} {a : Act} {Q : Exit → Act → World → Prop} (hgd : o.guard = none) (s x : Operand)
    (ho : o.op = .call { callee := .builtin .append, args := #[s, x], argTypes := #[42, 42] })
    (hs : a.eval s = v) (hown : w.ownsRow base 40 3 v ps.length (cellsF ps)) (m c : Nat) (hx : a.eval x = .slice A m c) (hm : m = qs.length) (hr : RP w B A qs) (h1 : ∀ p ∈ qs, p.2.oneCell' = true) (hlen : ps.length + qs.length ≤ 1099511627776) (hbase : base ≤ w.heap.size)
    (h : ∀ v' w', w'.ownsRow base 40 3 v' (ps ++ qs).length (cellsF (ps ++ qs)) → w.grownBy w' v.ownBlock → (v'.ownBlock = v.ownBlock ∨ v'.ownBlock = some w.heap.size) → wpList Tryd.prog ops Q rest (a.put o.dst v') w') :
    wpList Tryd.prog ops Q (o :: rest) a w := by
  subst hm
  refine wpList_plain hgd fun K hK => ?_
  obtain ⟨v', w', hrun, h2, h3, h5⟩ := app_facts_run o.type hown hr c h1 hlen hbase
  unfold Oper.wp execOp
  simp only [ho, resolve, invoke, builtin, Sem.run_bind, Sem.run_pure, Result.andThen_ok, List.map_toArray, List.map_cons, List.map_nil, hs, hx]
  rw [show (Builtin.append_ #[42, 42] o.type #[v, .slice A qs.length c]).run Tryd.prog w = .ok v' w' from hrun]
  exact hK _ _ (h v' w' h2 h3 h5)
/-- append(v, qs...) at a step of a region that draws its order -/
theorem step_app_facts {ops : Array Oper} {K : Act → World → Prop} {E : Prop} {o : Oper} {a : Act} {Q : Exit → Act → World → Prop} (hgd : o.guard = none) (s x : Operand)
    (ho : o.op = .call { callee := .builtin .append, args := #[s, x], argTypes := #[42, 42] })
    (hs : a.eval s = v) (hown : w.ownsRow base 40 3 v ps.length (cellsF ps)) (m c : Nat) (hx : a.eval x = .slice A m c) (hm : m = qs.length) (hr : RP w B A qs) (h1 : ∀ p ∈ qs, p.2.oneCell' = true) (hlen : ps.length + qs.length ≤ 1099511627776) (hbase : base ≤ w.heap.size)
    (h : ∀ v' w', w'.ownsRow base 40 3 v' (ps ++ qs).length (cellsF (ps ++ qs)) → w.grownBy w' v.ownBlock → (v'.ownBlock = v.ownBlock ∨ v'.ownBlock = some w.heap.size) → K (a.put o.dst v') w') :
    if Region.wanted o (yielded ops a.tmps) = true then Oper.wp Tryd.prog o a w K Q else E := by
  subst hm
  have hw : Region.wanted o (yielded ops a.tmps) = true := by simp [Region.wanted, hgd]
  rw [if_pos hw]
  obtain ⟨v', w', hrun, h2, h3, h5⟩ := app_facts_run o.type hown hr c h1 hlen hbase
  unfold Oper.wp execOp
  simp only [ho, resolve, invoke, builtin, Sem.run_bind, Sem.run_pure, Result.andThen_ok, List.map_toArray, List.map_cons, List.map_nil, hs, hx]
  rw [show (Builtin.append_ #[42, 42] o.type #[v, .slice A qs.length c]).run Tryd.prog w = .ok v' w' from hrun]
  exact h v' w' h2 h3 h5
/-- a fact alone, in a block made just now -/
theorem RP.one (w : World) (f : Fc) (V : Value) : RP (w.alloc (.cells #[.string f.1, .int .u64 (f.2.1 : Int), V] 40)) (w.heap.size + 1) (some ⟨w.heap.size, 0, none⟩) [(f, V)] := fun k p hk => by
  have hk0 : k = 0 := by
    have := (List.getElem?_eq_some_iff.1 hk).1
    simp at this
    exact this
  subst hk0
  have e : p = (f, V) := by simpa using hk.symm
  subst e
  have hc := Cells.new w #[.string f.1, .int .u64 (f.2.1 : Int), V] 40
  exact ⟨_, 0, rfl, Nat.lt_succ_self _, hc.cell (i := 0) rfl, hc.cell (i := 1) rfl, hc.cell (i := 2) rfl⟩
theorem ownF_shape {n : Nat} {cs : List Value} (h : w.ownsRow base 40 3 v n cs) : ∃ A c, v = .slice A n c ∧ n ≤ c ∧ (A = none → c = 0) ∧ ∀ ad, A = some ad → base ≤ ad.block := by
  rcases h.2 with ⟨rfl, h0⟩ | ⟨g, cap, cur, rfl, hb, hg, hn, _⟩
  · exact ⟨none, 0, by rw [h0], by omega, fun _ => rfl, fun ad e => by cases e⟩
  · exact ⟨_, _, rfl, hn, fun e => by (cases e), fun ad e => by cases e; exact hb⟩
/-- an owned slice of facts: its form -/
theorem RowF.shape (h : RowF w base v fs S) : ∃ A c, v = .slice A fs.length c ∧ fs.length ≤ c ∧ (A = none → c = 0) := by
  obtain ⟨ps, e, ho, _⟩ := h
  obtain ⟨A, c, e1, h1, h2, _⟩ := ownF_shape ho
  have : fs.length = ps.length := by rw [← e, List.length_map]
  exact ⟨A, c, by rw [this]; exact e1, by rw [this]; exact h1, h2⟩
theorem RowF.snoc {f : Fc} (e : ps.map Prod.fst = fs) (hv : VS S ps) (hS : S V f.2.2) (hf : f.2.1 < two64) (ho : w'.ownsRow base 40 3 v (ps ++ [(f, V)]).length (cellsF (ps ++ [(f, V)]))) : RowF w' base v (fs ++ [f]) S :=
  ⟨ps ++ [(f, V)], by rw [List.map_append, e]; rfl, ho, hv.append fun p hp => by
    have : p = (f, V) := by simpa using hp
    subst this
    exact ⟨hS, hf⟩⟩
/-- append(v, facts of a slice that reads as gs) -/
theorem app_row {w0 : World} {ops : Array Oper} {rest : List Oper} {o : Oper} {a : Act} {Q : Exit → Act → World → Prop} (hgd : o.guard = none) (s x : Operand)
    (ho : o.op = .call { callee := .builtin .append, args := #[s, x], argTypes := #[42, 42] })
    (hs : a.eval s = v) (hrow : RowF w base v fs (Vb w0 B)) (hq : RF w0 B A gs) (hbel : Below B w0 w) (m c : Nat) (hx : a.eval x = .slice A m c) (hm : m = gs.length) (hlen : fs.length + gs.length ≤ 1099511627776) (hbase : base ≤ w.heap.size)
    (h : ∀ v' w', RowF w' base v' (fs ++ gs) (Vb w0 B) → Below base w w' → wpList Tryd.prog ops Q rest (a.put o.dst v') w') :
    wpList Tryd.prog ops Q (o :: rest) a w := by
  obtain ⟨ps, e1, h1, h2⟩ := hrow
  obtain ⟨qs, e2, h3, h4⟩ := hq
  have l1 : fs.length = ps.length := by rw [← e1, List.length_map]
  have l2 : gs.length = qs.length := by rw [← e2, List.length_map]
  refine app_facts hgd s x ho hs h1 m c hx (by rw [hm, l2]) (h3.below hbel) (fun p hp => (h4 p hp).1.one) (by omega) hbase fun v' w' q1 q2 q3 => h v' w' ⟨ps ++ qs, by rw [List.map_append, e1, e2], q1, h2.append h4⟩ ((Below.refl _ _).grown q2 hbase fun k hk => (World.ownsRow.lt h1 k hk).1)
/-- append(v, one fact) -/
theorem app_row1 {ops : Array Oper} {rest : List Oper} {o : Oper} {a : Act} {Q : Exit → Act → World → Prop} (hgd : o.guard = none) (s x : Operand)
    (ho : o.op = .call { callee := .builtin .append, args := #[s, x], argTypes := #[42, 42] })
    (f : Fc) (hs : a.eval s = v) (hrow : RowF w base v fs S) (hq : RP w B A [(f, V)]) (hS : S V f.2.2) (hf : f.2.1 < two64) (h1 : V.oneCell' = true) (c : Nat) (hx : a.eval x = .slice A 1 c) (hlen : fs.length + 1 ≤ 1099511627776) (hbase : base ≤ w.heap.size)
    (h : ∀ v' w', RowF w' base v' (fs ++ [f]) S → w.grownBy w' v.ownBlock → (v'.ownBlock = v.ownBlock ∨ v'.ownBlock = some w.heap.size) → wpList Tryd.prog ops Q rest (a.put o.dst v') w') :
    wpList Tryd.prog ops Q (o :: rest) a w := by
  obtain ⟨ps, e1, h2, h3⟩ := hrow
  have l1 : fs.length = ps.length := by rw [← e1, List.length_map]
  refine app_facts hgd s x ho hs h2 1 c hx rfl hq (fun p hp => by have : p = (f, V) := by simpa using hp
                                                                  subst this; exact h1) (by simp; omega) hbase fun v' w' q1 q2 q3 => h v' w' (RowF.snoc e1 h3 hS hf q1) q2 q3
theorem step_row1 {ops : Array Oper} {K : Act → World → Prop} {E : Prop} {o : Oper} {a : Act} {Q : Exit → Act → World → Prop} (hgd : o.guard = none) (s x : Operand)
    (ho : o.op = .call { callee := .builtin .append, args := #[s, x], argTypes := #[42, 42] })
    (f : Fc) (hs : a.eval s = v) (hrow : RowF w base v fs S) (hq : RP w B A [(f, V)]) (hS : S V f.2.2) (hf : f.2.1 < two64) (h1 : V.oneCell' = true) (c : Nat) (hx : a.eval x = .slice A 1 c) (hlen : fs.length + 1 ≤ 1099511627776) (hbase : base ≤ w.heap.size)
    (h : ∀ v' w', RowF w' base v' (fs ++ [f]) S → w.grownBy w' v.ownBlock → (v'.ownBlock = v.ownBlock ∨ v'.ownBlock = some w.heap.size) → K (a.put o.dst v') w') :
    if Region.wanted o (yielded ops a.tmps) = true then Oper.wp Tryd.prog o a w K Q else E := by
  obtain ⟨ps, e1, h2, h3⟩ := hrow
  have l1 : fs.length = ps.length := by rw [← e1, List.length_map]
  refine step_app_facts hgd s x ho hs h2 1 c hx rfl hq (fun p hp => by have : p = (f, V) := by simpa using hp
                                                                       subst this; exact h1) (by simp; omega) hbase fun v' w' q1 q2 q3 => h v' w' (RowF.snoc e1 h3 hS hf q1) q2 q3
theorem RowF.grownB (h : RowF w base v fs S) (hg : w.grownBy w' v.ownBlock) (hbase : base ≤ w.heap.size) : Below base w w' := (Below.refl _ _).grown hg hbase fun k hk => (h.ge k hk).1
end
end Go.Proofs.YtghcfmkmndldoaaDoor

/-
  both: two lists of facts as one.
-/
namespace Go.Proofs.YtghcfmkmndldoaaDoor
open Go.RowKit Go.Sort Go.Lib

/-- where a walk over two lists stands -/
structure BSt (w wr : World) (N : Nat) (R : List Fc) (a b all : Value) (xs ys out : List Fc) (Aa Ab : Option Addr) (ca cb : Nat) : Prop where
  ea : a = .slice Aa xs.length ca
  eb : b = .slice Ab ys.length cb
  la : xs.length ≤ ca
  lb : ys.length ≤ cb
  ra : RF w w.heap.size Aa xs
  rb : RF w w.heap.size Ab ys
  row : RowF wr w.heap.size all out (Vb w w.heap.size)
  res : out ++ twoF xs ys = R
  len : out.length + xs.length + ys.length ≤ N
  bel : Below w.heap.size w wr
theorem RF.first {w : World} {B : Nat} {A : Option Addr} {f : Fc} {fs : List Fc} (h : RF w B A (f :: fs)) : ∃ b o V, A = some ⟨b, o, none⟩ ∧ b < B ∧ w.cell? ⟨b, o, none⟩ = some (.string f.1) ∧ w.cell? ⟨b, o + 1, none⟩ = some (.int .u64 (f.2.1 : Int)) ∧ w.cell? ⟨b, o + 2, none⟩ = some V ∧ Vb w B V f.2.2 ∧ f.2.1 < two64 := by
  have := h.at_ (k := 0) (f := f) rfl
  simpa using this
theorem RF.tail {w : World} {B b o c : Nat} {f : Fc} {fs : List Fc} {A' : Option Addr} (h : RF w B (some ⟨b, o, none⟩) (f :: fs)) (hc : fs.length + 1 ≤ c) (hA : 1 < c → A' = some ⟨b, o + 3, none⟩) : RF w B A' fs := by
  cases fs with
  | nil => exact RF.nil _ _ _
  | cons g gs =>
    rw [hA (by simp at hc; omega)]
    exact h.cut 1
section
set_option maxRecDepth 100000
set_option maxHeartbeats 4000000
theorem both_any (Aa Ab : Option Addr) (ca cb : Nat) (xs ys : List Fc) (w : World) (hla : xs.length ≤ ca) (hlb : ys.length ≤ cb) (hN : xs.length + ys.length ≤ 1099511627776) (ha : RF w w.heap.size Aa xs) (hb : RF w w.heap.size Ab ys) :
    Calls Tryd.prog 96 #[.slice Aa xs.length ca, .slice Ab ys.length cb] w fun e w' => ∃ v, e = .returned v ∧ RowF w' w.heap.size v (twoF xs ys) (Vb w w.heap.size) ∧ Below w.heap.size w w' := by
  obtain ⟨cs, hown, hmk⟩ := make_facts (xs.length + ys.length) hN
  have hmk' : ∀ u : World, (Instr.makeSlice 42 (.int .i64 0) (.int .i64 ((xs.length : Int) + (ys.length : Int)))).run Tryd.prog u = .ok (.slice (some ⟨u.heap.size, 0, none⟩) 0 (xs.length + ys.length)) (u.alloc (.cells cs 40)) := fun u => by
    have := hmk u
    rw [Int.natCast_add] at this
    exact this
  have hw0 : IntKind.i64.wrap ((xs.length : Int) + (ys.length : Int)) = (xs.length : Int) + (ys.length : Int) := by rw [IntKind.wrap_i64]; omega
  have H0 : Hid (BSt w (w.alloc (.cells cs 40)) (xs.length + ys.length) (twoF xs ys) (.slice Aa xs.length ca) (.slice Ab ys.length cb) (.slice (some ⟨w.heap.size, 0, none⟩) 0 (xs.length + ys.length)) xs ys [] Aa Ab ca cb) :=
    ⟨rfl, rfl, hla, hlb, ha, hb, ⟨[], rfl, hown w _ (Nat.le_refl _), fun p hp => by simp at hp⟩, rfl, by simp, (Below.refl _ _).alloc (Nat.le_refl _) _⟩
  have Hcmp := Lib.hid cmp_any
  have HN := Lib.hid hN
  generalize hR : twoF xs ys = R at H0 ⊢
  clear hla hlb ha hb hown hmk hN hR
  go_enter Tryd.func96, Tryd.ntmps96
  go_wp2_with fail
  clear hmk' hw0
  go_loopw [0, 1, 5] (fun av bv lv wr => ∃ xs' ys' out Aa' Ab' ca' cb', Hid (BSt w wr (xs.length + ys.length) R av bv lv xs' ys' out Aa' Ab' ca' cb')) (fun av bv _ _ => lenS av + lenS bv)
  case atStart => exact ⟨xs, ys, [], Aa, Ab, ca, cb, H0.out⟩
  case round =>
    obtain ⟨xs', ys', out, Aa', Ab', ca', cb', hst⟩ := hrel
    obtain ⟨⟨⟩, ⟨⟩, _⟩ : _ ∧ _ ∧ True := ⟨hst.out.ea, hst.out.eb, trivial⟩
    obtain ⟨lo, co, rfl, _⟩ := hst.out.row.shape
    obtain ⟨nx, hnx⟩ : ∃ nx, nx = xs'.length := ⟨_, rfl⟩
    obtain ⟨ny, hny⟩ : ∃ ny, ny = ys'.length := ⟨_, rfl⟩
    rw [← hnx, ← hny]
    have Hnx := Lib.hid hnx
    have Hny := Lib.hid hny
    by_cases h0 : nx = 0
    · have Hfin : Hid (out ++ xs' ++ ys' = R) := by
        show _ = _
        rw [← hst.out.res, show xs' = [] from List.eq_nil_of_length_eq_zero (by omega), nil_twoF, List.append_nil]
      subst h0
      clear hnx hny
      have Hst := hst
      clear hst
      go_upto_region 10 with (at_builtin; go_must (refine app_row rfl (.tmp 48) (.tmp 49) rfl rfl Hst.out.row Hst.out.ra Hst.out.bel _ _ rfl Hnx.out (by have := Hst.out.len; have := HN.out; omega) Hst.out.bel.size ?_); intro v1 w1 r1 b1; have H1 : Hid (RowF w1 w.heap.size v1 (out ++ xs') (Vb w w.heap.size) ∧ Below w.heap.size w w1) := ⟨r1, Hst.out.bel.trans b1⟩; obtain ⟨A1, c1, e1, _⟩ := r1.shape; rw [List.length_append] at e1; subst e1; clear b1)
      go_wp2_with (at_builtin; go_must (refine app_row (fs := out ++ xs') rfl (.tmp 51) (.tmp 52) rfl rfl H1.out.1 Hst.out.rb H1.out.2 _ _ rfl Hny.out (by have := Hst.out.len; have := HN.out; rw [List.length_append]; omega) H1.out.2.size ?_); intro v2 w2 r2 b2; have H2 : Hid (RowF w2 w.heap.size v2 (out ++ xs' ++ ys') (Vb w w.heap.size) ∧ Below w.heap.size w w2) := ⟨r2, H1.out.2.trans b2⟩; obtain ⟨A2, c2, e2, _⟩ := r2.shape; rw [List.length_append, List.length_append] at e2; subst e2; clear b2)
      go_ret
      exact ⟨_, rfl, by rw [← Hfin.out]; exact H2.out.1, H2.out.2⟩
    by_cases h9 : ny = 0
    · have Hfin : Hid (out ++ xs' ++ ys' = R) := by
        show _ = _
        rw [← hst.out.res, show ys' = [] from List.eq_nil_of_length_eq_zero (by omega), twoF_nil, List.append_nil]
      have h0' : 0 < nx := by omega
      have h0'' : (0 : Int) < (nx : Int) := by omega
      subst h9
      clear hnx hny
      have Hst := hst
      clear hst
      go_upto_region 10 with (at_builtin; go_must (refine app_row rfl (.tmp 48) (.tmp 49) rfl rfl Hst.out.row Hst.out.ra Hst.out.bel _ _ rfl Hnx.out (by have := Hst.out.len; have := HN.out; omega) Hst.out.bel.size ?_); intro v1 w1 r1 b1; have H1 : Hid (RowF w1 w.heap.size v1 (out ++ xs') (Vb w w.heap.size) ∧ Below w.heap.size w w1) := ⟨r1, Hst.out.bel.trans b1⟩; obtain ⟨A1, c1, e1, _⟩ := r1.shape; rw [List.length_append] at e1; subst e1; clear b1)
      go_wp2_with (at_builtin; go_must (refine app_row (fs := out ++ xs') rfl (.tmp 51) (.tmp 52) rfl rfl H1.out.1 Hst.out.rb H1.out.2 _ _ rfl Hny.out (by have := Hst.out.len; have := HN.out; rw [List.length_append]; omega) H1.out.2.size ?_); intro v2 w2 r2 b2; have H2 : Hid (RowF w2 w.heap.size v2 (out ++ xs' ++ ys') (Vb w w.heap.size) ∧ Below w.heap.size w w2) := ⟨r2, H1.out.2.trans b2⟩; obtain ⟨A2, c2, e2, _⟩ := r2.shape; rw [List.length_append, List.length_append] at e2; subst e2; clear b2)
      go_ret
      exact ⟨_, rfl, by rw [← Hfin.out]; exact H2.out.1, H2.out.2⟩
    rcases xs' with _ | ⟨x, xs'⟩
    · exact absurd hnx h0
    rcases ys' with _ | ⟨y, ys'⟩
    · exact absurd hny h9
    obtain ⟨b1, o1, vx, rfl, hb1, x0, x1, x2, hVx, hsx⟩ := hst.out.ra.first
    obtain ⟨b2, o2, vy, rfl, hb2, y0, y1, y2, hVy, hsy⟩ := hst.out.rb.first
    have h0' : 0 < nx := by omega
    have h0'' : (0 : Int) < (nx : Int) := by omega
    have h9' : 0 < ny := by omega
    have h9'' : (0 : Int) < (ny : Int) := by omega
    have hX : ∀ W, Below w.heap.size w W → W.cell? ⟨b1, o1, none⟩ = some (.string x.1) ∧ W.cell? ⟨b1, o1 + 1, none⟩ = some (.int .u64 (x.2.1 : Int)) ∧ W.cell? ⟨b1, o1 + 2, none⟩ = some vx := fun W hW => ⟨(hW.cell (p := ⟨b1, o1, none⟩) hb1).trans x0, (hW.cell (p := ⟨b1, o1 + 1, none⟩) hb1).trans x1, (hW.cell (p := ⟨b1, o1 + 2, none⟩) hb1).trans x2⟩
    have hY : ∀ W, Below w.heap.size w W → W.cell? ⟨b2, o2, none⟩ = some (.string y.1) ∧ W.cell? ⟨b2, o2 + 1, none⟩ = some (.int .u64 (y.2.1 : Int)) ∧ W.cell? ⟨b2, o2 + 2, none⟩ = some vy := fun W hW => ⟨(hW.cell (p := ⟨b2, o2, none⟩) hb2).trans y0, (hW.cell (p := ⟨b2, o2 + 1, none⟩) hb2).trans y1, (hW.cell (p := ⟨b2, o2 + 2, none⟩) hb2).trans y2⟩
    have Hc := Lib.hid (fun W => Hcmp.out x y vx vy W)
    obtain ⟨A1, ht1, hA1, _⟩ := tail_run b1 o1 nx ca' (by omega) (by have := hst.out.la; omega)
    obtain ⟨A2, ht2, hA2, _⟩ := tail_run b2 o2 ny cb' (by omega) (by have := hst.out.lb; omega)
    have Hres : Hid (out ++ (if cmpF x y = 0 then x :: twoF xs' ys' else if cmpF x y < 0 then x :: twoF xs' (y :: ys') else y :: twoF (x :: xs') ys') = R) := by
      show _ = _
      rw [← hst.out.res]
      congr 1
      rw [twoF]
    have Hta : Hid (RF w w.heap.size A1 xs' ∧ RF w w.heap.size A2 ys' ∧ xs'.length = nx - 1 ∧ ys'.length = ny - 1 ∧ nx ≤ ca' ∧ ny ≤ cb') :=
      ⟨hst.out.ra.tail (by rw [hnx] at *; simpa using hst.out.la) hA1, hst.out.rb.tail (by rw [hny] at *; simpa using hst.out.lb) hA2, by rw [hnx]; simp, by rw [hny]; simp, by rw [hnx]; exact hst.out.la, by rw [hny]; exact hst.out.lb⟩
    have HVx : Hid (Vb w w.heap.size vx x.2.2 ∧ x.2.1 < two64 ∧ vx.oneCell' = true) := ⟨hVx, hsx, hVx.one⟩
    have HVy : Hid (Vb w w.heap.size vy y.2.2 ∧ y.2.1 < two64 ∧ vy.oneCell' = true) := ⟨hVy, hsy, hVy.one⟩
    have Hst := hst
    obtain ⟨x0, x1, x2⟩ := hX wr Hst.out.bel
    obtain ⟨y0, y1, y2⟩ := hY wr Hst.out.bel
    have x0d : wr.drew.cell? ⟨b1, o1, none⟩ = some (.string x.1) := x0
    have x1d : wr.drew.cell? ⟨b1, o1 + 1, none⟩ = some (.int .u64 (x.2.1 : Int)) := x1
    have x2d : wr.drew.cell? ⟨b1, o1 + 2, none⟩ = some vx := x2
    have y0d : wr.drew.cell? ⟨b2, o2, none⟩ = some (.string y.1) := y0
    have y1d : wr.drew.cell? ⟨b2, o2 + 1, none⟩ = some (.int .u64 (y.2.1 : Int)) := y1
    have y2d : wr.drew.cell? ⟨b2, o2 + 2, none⟩ = some vy := y2
    have HX := Lib.hid hX
    have HY := Lib.hid hY
    unfold fcV at Hc
    clear hst hnx hny h0 h9 hX hY hVx hVy hsx hsy hA1 hA2 hb1 hb2
    generalize cmpF x y = cv at Hres Hc
    go_upto_region 3 with fail
    go_region_with (go_at_call 21; refine (Hc.out _).mono ?_; rintro e w3 ⟨rfl, h3⟩; have H3 : Hid (Below wr.heap.size wr w3) := (by first | exact h3.below | exact ((Gr.drewN wr 1).trans h3).below); clear h3)
    all_goals
      have Hb3 : Hid (Below w.heap.size w w3) := Hst.out.bel.trans (H3.out.mono Hst.out.bel.size)
      have Hrow3 : Hid (RowF w3 w.heap.size (.slice lo out.length co) out (Vb w w.heap.size)) := Hst.out.row.below H3.out
      have Hlen : Hid (out.length + nx + ny ≤ xs.length + ys.length) := by
        have := Hst.out.len
        rw [← Hnx.out, ← Hny.out] at this
        exact this
      have Hbb : Hid (RF w w.heap.size (some ⟨b1, o1, none⟩) (x :: xs') ∧ RF w w.heap.size (some ⟨b2, o2, none⟩) (y :: ys')) := ⟨Hst.out.ra, Hst.out.rb⟩
      clear x0 x1 x2 y0 y1 y2 x0d x1d x2d y0d y1d y2d
      obtain ⟨x0, x1, x2⟩ := HX.out w3 Hb3.out
      obtain ⟨y0, y1, y2⟩ := HY.out w3 Hb3.out
      have Hsx : Hid (∀ W, Below w.heap.size w W → W.cell? ⟨b1, o1, none⟩ = some (.string x.1) ∧ W.cell? ⟨b1, o1 + 1, none⟩ = some (.int .u64 (x.2.1 : Int)) ∧ W.cell? ⟨b1, o1 + 2, none⟩ = some vx) := HX.out
      have Hnum : Hid (out.length + 1 ≤ 1099511627776) := by show _ ≤ _; have := Hlen.out; have := HN.out; omega
      clear Hst H3 Hc Hcmp H0
      rcases Int.lt_trichotomy cv 0 with hc | hc | hc
      · have hc1 : cv ≤ 0 := by omega
        have hc2 : ¬ 0 ≤ cv := by omega
        have hc3 : ¬ cv ≥ 0 := by omega
        have HR : Hid (out ++ [x] ++ twoF xs' (y :: ys') = R) := by
          show _ = _
          have := Hres.out
          rw [if_neg (by omega), if_pos hc] at this
          rw [← this, List.append_assoc]; rfl
        clear Hres
        have hbA : Below w3.heap.size w3 (w3.drew.alloc (.cells #[.string x.1, .int .u64 (x.2.1 : Int), vx] 40)) := ((Below.refl w3.heap.size w3).drew).alloc (Nat.le_refl _) _
        have HrowA : Hid (RowF (w3.drew.alloc (.cells #[.string x.1, .int .u64 (x.2.1 : Int), vx] 40)) w.heap.size (.slice lo out.length co) out (Vb w w.heap.size)) := Hrow3.out.below hbA
        have HRPx : Hid (RP (w3.drew.alloc (.cells #[.string x.1, .int .u64 (x.2.1 : Int), vx] 40)) (w3.heap.size + 1) (some ⟨w3.heap.size, 0, none⟩) [(x, vx)]) := RP.one w3.drew x vx
        have HszA : Hid (w.heap.size ≤ (w3.drew.alloc (.cells #[.string x.1, .int .u64 (x.2.1 : Int), vx] 40)).heap.size) := Nat.le_trans Hb3.out.size hbA.size
        have HaftA : Hid (∀ v4 w4, RowF w4 w.heap.size v4 (out ++ [x]) (Vb w w.heap.size) → (w3.drew.alloc (.cells #[.string x.1, .int .u64 (x.2.1 : Int), vx] 40)).grownBy w4 (Value.slice lo out.length co).ownBlock →
          RowF w4 w.heap.size v4 (out ++ [x]) (Vb w w.heap.size) ∧ Below w.heap.size w w4 ∧ w4.cell? ⟨b1, o1, none⟩ = some (.string x.1) ∧ w4.cell? ⟨b1, o1 + 1, none⟩ = some (.int .u64 (x.2.1 : Int)) ∧ w4.cell? ⟨b1, o1 + 2, none⟩ = some vx) := fun v4 w4 r4 g4 => by
          have hb4 : Below w.heap.size w w4 := (Hb3.out.trans (hbA.mono Hb3.out.size)).trans (HrowA.out.grownB g4 HszA.out)
          exact ⟨r4, hb4, Hsx.out w4 hb4⟩
        have x0d : w3.drew.cell? ⟨b1, o1, none⟩ = some (.string x.1) := x0
        have x1d : w3.drew.cell? ⟨b1, o1 + 1, none⟩ = some (.int .u64 (x.2.1 : Int)) := x1
        have x2d : w3.drew.cell? ⟨b1, o1 + 2, none⟩ = some vx := x2
        clear hbA
        go_upto_region 5 with fail
        go_region_law (first | (go_must (refine step_row1 (by rfl) (.tmp 30) (.tmp 34) (by rfl) x (by rfl) HrowA.out HRPx.out HVx.out.1 HVx.out.2.1 HVx.out.2.2 1 (by rfl) Hnum.out HszA.out ?_); intro v4 w4 r4 g4 _; have H4 := Lib.hid (HaftA.out v4 w4 r4 g4); have x04 := H4.out.2.2.1; have x14 := H4.out.2.2.2.1; have x24 := H4.out.2.2.2.2; obtain ⟨A4, c4, e4, _⟩ := r4.shape; rw [List.length_append] at e4; subst e4; clear r4 g4))
        all_goals
          go_wp2_with fail
          exact ⟨⟨xs', y :: ys', out ++ [x], A1, some ⟨b2, o2, none⟩, ca' - 1, cb', ⟨by rw [Hta.out.2.2.1], by rw [← Hny.out], by have := Hta.out; omega, by rw [← Hny.out]; exact Hta.out.2.2.2.2.2, Hta.out.1, Hbb.out.2, H4.out.1, HR.out, by have := Hlen.out; have := Hnx.out; have := Hny.out; simp only [List.length_cons, List.length_append, List.length_nil] at *; omega, H4.out.2.1⟩⟩, by show nx - 1 + ny < nx + ny; omega⟩
      · have hc1 : cv ≤ 0 := by omega
        have hc2 : 0 ≤ cv := by omega
        have hc3 : cv ≥ 0 := by omega
        have HR : Hid (out ++ [x] ++ twoF xs' ys' = R) := by
          show _ = _
          have := Hres.out
          rw [if_pos hc] at this
          rw [← this, List.append_assoc]; rfl
        clear Hres
        have hbA : Below w3.heap.size w3 (w3.drew.alloc (.cells #[.string x.1, .int .u64 (x.2.1 : Int), vx] 40)) := ((Below.refl w3.heap.size w3).drew).alloc (Nat.le_refl _) _
        have HrowA : Hid (RowF (w3.drew.alloc (.cells #[.string x.1, .int .u64 (x.2.1 : Int), vx] 40)) w.heap.size (.slice lo out.length co) out (Vb w w.heap.size)) := Hrow3.out.below hbA
        have HRPx : Hid (RP (w3.drew.alloc (.cells #[.string x.1, .int .u64 (x.2.1 : Int), vx] 40)) (w3.heap.size + 1) (some ⟨w3.heap.size, 0, none⟩) [(x, vx)]) := RP.one w3.drew x vx
        have HszA : Hid (w.heap.size ≤ (w3.drew.alloc (.cells #[.string x.1, .int .u64 (x.2.1 : Int), vx] 40)).heap.size) := Nat.le_trans Hb3.out.size hbA.size
        have HaftA : Hid (∀ v4 w4, RowF w4 w.heap.size v4 (out ++ [x]) (Vb w w.heap.size) → (w3.drew.alloc (.cells #[.string x.1, .int .u64 (x.2.1 : Int), vx] 40)).grownBy w4 (Value.slice lo out.length co).ownBlock →
          RowF w4 w.heap.size v4 (out ++ [x]) (Vb w w.heap.size) ∧ Below w.heap.size w w4 ∧ w4.cell? ⟨b1, o1, none⟩ = some (.string x.1) ∧ w4.cell? ⟨b1, o1 + 1, none⟩ = some (.int .u64 (x.2.1 : Int)) ∧ w4.cell? ⟨b1, o1 + 2, none⟩ = some vx) := fun v4 w4 r4 g4 => by
          have hb4 : Below w.heap.size w w4 := (Hb3.out.trans (hbA.mono Hb3.out.size)).trans (HrowA.out.grownB g4 HszA.out)
          exact ⟨r4, hb4, Hsx.out w4 hb4⟩
        have x0d : w3.drew.cell? ⟨b1, o1, none⟩ = some (.string x.1) := x0
        have x1d : w3.drew.cell? ⟨b1, o1 + 1, none⟩ = some (.int .u64 (x.2.1 : Int)) := x1
        have x2d : w3.drew.cell? ⟨b1, o1 + 2, none⟩ = some vx := x2
        clear hbA
        go_upto_region 5 with fail
        go_region_law (first | (go_must (refine step_row1 (by rfl) (.tmp 30) (.tmp 34) (by rfl) x (by rfl) HrowA.out HRPx.out HVx.out.1 HVx.out.2.1 HVx.out.2.2 1 (by rfl) Hnum.out HszA.out ?_); intro v4 w4 r4 g4 _; have H4 := Lib.hid (HaftA.out v4 w4 r4 g4); have x04 := H4.out.2.2.1; have x14 := H4.out.2.2.2.1; have x24 := H4.out.2.2.2.2; obtain ⟨A4, c4, e4, _⟩ := r4.shape; rw [List.length_append] at e4; subst e4; clear r4 g4))
        all_goals
          go_wp2_with fail
          exact ⟨⟨xs', ys', out ++ [x], A1, A2, ca' - 1, cb' - 1, ⟨by rw [Hta.out.2.2.1], by rw [Hta.out.2.2.2.1], by have := Hta.out; omega, by have := Hta.out; omega, Hta.out.1, Hta.out.2.1, H4.out.1, HR.out, by have := Hlen.out; have := Hnx.out; have := Hny.out; simp only [List.length_cons, List.length_append, List.length_nil] at *; omega, H4.out.2.1⟩⟩, by show nx - 1 + (ny - 1) < nx + ny; omega⟩
      · have hc1 : ¬ cv ≤ 0 := by omega
        have hc2 : 0 ≤ cv := by omega
        have hc3 : cv ≥ 0 := by omega
        have HR : Hid (out ++ [y] ++ twoF (x :: xs') ys' = R) := by
          show _ = _
          have := Hres.out
          rw [if_neg (by omega), if_neg (by omega)] at this
          rw [← this, List.append_assoc]; rfl
        clear Hres
        go_upto_region 8 with (at_builtin; go_must (refine app_row1 rfl (.tmp 38) (.tmp 42) rfl y rfl (Hrow3.out.below ((Below.refl _ _).alloc (Nat.le_refl _) _)) (RP.one w3 y vy) HVy.out.1 HVy.out.2.1 HVy.out.2.2 1 rfl Hnum.out (Nat.le_trans Hb3.out.size (by simp)) ?_); intro v4 w4 r4 g4 _; have H4 : Hid (RowF w4 w.heap.size v4 (out ++ [y]) (Vb w w.heap.size) ∧ Below w.heap.size w w4) := ⟨r4, (Hb3.out.alloc Hb3.out.size _).trans ((Hrow3.out.below ((Below.refl _ _).alloc (Nat.le_refl _) _)).grownB g4 (Nat.le_trans Hb3.out.size (by simp)))⟩; obtain ⟨A4, c4, e4, _⟩ := r4.shape; rw [List.length_append] at e4; subst e4; clear r4 g4)
        all_goals
          go_wp2_with fail
          exact ⟨⟨x :: xs', ys', out ++ [y], some ⟨b1, o1, none⟩, A2, ca', cb' - 1, ⟨by rw [← Hnx.out], by rw [Hta.out.2.2.2.1], by rw [← Hnx.out]; exact Hta.out.2.2.2.2.1, by have := Hta.out; omega, Hbb.out.1, Hta.out.2.1, H4.out.1, HR.out, by have := Hlen.out; have := Hnx.out; have := Hny.out; simp only [List.length_cons, List.length_append, List.length_nil] at *; omega, H4.out.2⟩⟩, by show nx + (ny - 1) < nx + ny; omega⟩
end
end Go.Proofs.YtghcfmkmndldoaaDoor

/-
  The laws' Same, SameRows.
-/
namespace Go.Proofs.YtghcfmkmndldoaaDoor
open Go.RowKit Go.Sort Go.Lib

theorem textB_eq (a b : ByteArray) : (a.toList == b.toList) = decide (a = b) := by
  rw [Bool.eq_iff_iff]
  simp only [beq_iff_eq, decide_eq_true_eq]
  exact ⟨array_inj, fun h => by rw [h]⟩
theorem mk_inj {a b : List UInt8} : (⟨a.toArray⟩ : ByteArray) = ⟨b.toArray⟩ ↔ a = b :=
  ⟨fun h => by have := congrArg (fun x : ByteArray => x.data.toList) h; simpa using this, fun h => by rw [h]⟩
section
set_option maxRecDepth 100000
set_option maxHeartbeats 4000000
theorem same_anyF (a b : Fc) (va vb : Value) (w : World) (hva : Vb w w.heap.size va a.2.2) (hvb : Vb w w.heap.size vb b.2.2) :
    Calls Tryd.prog 35 #[fcV a va, fcV b vb] w fun e w' => e = .returned (.bool (decide (a = b))) ∧ Gr w w' := by
  obtain ⟨k1, s1, l1⟩ := a
  obtain ⟨k2, s2, l2⟩ := b
  unfold fcV
  dsimp only at hva hvb ⊢
  obtain ⟨A1, c1, rfl, _, _, hr1⟩ := hva
  obtain ⟨A2, c2, rfl, _, _, hr2⟩ := hvb
  obtain ⟨W, hW⟩ : ∃ W, W = (w.alloc (.cells #[.string k1, .int .u64 (s1 : Int), .slice A1 l1.length c1] 40)).alloc (.cells #[.string k2, .int .u64 (s2 : Int), .slice A2 l2.length c2] 40) := ⟨_, rfl⟩
  have e1 : (w.alloc (.cells #[.string k1, .int .u64 (s1 : Int), .slice A1 l1.length c1] 40)).heap.size = w.heap.size + 1 := by simp
  have ka : Cells W w.heap.size 40 [.string k1, .int .u64 (s1 : Int), .slice A1 l1.length c1] := by rw [hW]; exact (Cells.new w _ _).alloc _
  have kb : Cells W (w.heap.size + 1) 40 [.string k2, .int .u64 (s2 : Int), .slice A2 l2.length c2] := by rw [hW, ← e1]; exact Cells.new _ _ _
  have p0 : W.cell? ⟨w.heap.size, 0, none⟩ = some (.string k1) := ka.cell rfl
  have p1 : W.cell? ⟨w.heap.size, 1, none⟩ = some (.int .u64 (s1 : Int)) := ka.cell rfl
  have p2 : W.cell? ⟨w.heap.size, 2, none⟩ = some (.slice A1 l1.length c1) := ka.cell rfl
  have q0 : W.cell? ⟨w.heap.size + 1, 0, none⟩ = some (.string k2) := kb.cell rfl
  have q1 : W.cell? ⟨w.heap.size + 1, 1, none⟩ = some (.int .u64 (s2 : Int)) := kb.cell rfl
  have q2 : W.cell? ⟨w.heap.size + 1, 2, none⟩ = some (.slice A2 l2.length c2) := kb.cell rfl
  have hg : Gr w W := by rw [hW]; exact (Gr.alloc w _).trans (Gr.alloc _ _)
  have t1 := text_run W w.heap.size A1 l1 c1 (hr1.below hg.below)
  have t2 := text_run W w.heap.size A2 l2 c2 (hr2.below hg.below)
  have Hend := Lib.hid hg
  have hm : (⟨l1.toArray⟩ : ByteArray) = ⟨l2.toArray⟩ ↔ l1 = l2 := mk_inj
  generalize (⟨l1.toArray⟩ : ByteArray) = x1 at *
  generalize (⟨l2.toArray⟩ : ByteArray) = x2 at *
  have Hd : Hid (decide ((k1, s1, l1) = (k2, s2, l2)) = (decide (k1 = k2) && (decide (s1 = s2) && decide (x1 = x2)))) := by
    show _ = _
    rw [Bool.eq_iff_iff]
    simp only [decide_eq_true_eq, Bool.and_eq_true, Prod.mk.injEq, hm]
  clear hm ka kb e1 hg hr1 hr2
  rw [Hd.out]
  clear Hd
  have hk : (k1.toList == k2.toList) = decide (k1 = k2) := textB_eq k1 k2
  have hx : (x1.toList == x2.toList) = decide (x1 = x2) := textB_eq x1 x2
  by_cases e1 : k1 = k2
  · rw [decide_eq_true e1] at hk ⊢
    subst e1
    by_cases e2 : s1 = s2
    · rw [decide_eq_true e2] at ⊢
      subst e2
      have e2b : ((s1 : Int) == (s1 : Int)) = true := by rw [beq_iff_eq]
      by_cases e3 : x1 = x2
      · rw [decide_eq_true e3] at hx ⊢
        subst e3
        go_enter Tryd.func35, Tryd.ntmps35
        go_upto_region 1 with fail
        rw [← hW]
        clear hW
        go_wp2_with fail
        all_goals
          go_ret
          exact ⟨by simp_all, Hend.out⟩
      · rw [decide_eq_false e3] at hx ⊢
        go_enter Tryd.func35, Tryd.ntmps35
        go_upto_region 1 with fail
        rw [← hW]
        clear hW
        go_wp2_with fail
        all_goals
          go_ret
          exact ⟨by simp_all, Hend.out⟩
    · rw [decide_eq_false e2] at ⊢
      have e2' : ¬ (s1 : Int) = (s2 : Int) := by omega
      have e2b : ((s1 : Int) == (s2 : Int)) = false := by rw [beq_eq_false_iff_ne]; exact e2'
      go_enter Tryd.func35, Tryd.ntmps35
      go_upto_region 1 with fail
      rw [← hW]
      clear hW
      go_wp2_with fail
      all_goals
        go_ret
        exact ⟨by simp_all, Hend.out⟩
  · rw [decide_eq_false e1] at hk ⊢
    go_enter Tryd.func35, Tryd.ntmps35
    go_upto_region 1 with fail
    rw [← hW]
    clear hW
    go_wp2_with fail
    all_goals
      go_ret
      exact ⟨by simp_all, Hend.out⟩
end
end Go.Proofs.YtghcfmkmndldoaaDoor

/-
  tooLong, slices.IndexFunc and ContainsFunc of facts.
-/
namespace Go.Proofs.YtghcfmkmndldoaaDoor
open Go.RowKit Go.Sort Go.Lib

/-- is one too long? -/
def anyL (fs : List Fc) : Bool := fs.any longF
theorem anyL_snoc (fs : List Fc) (f : Fc) : anyL (fs ++ [f]) = (anyL fs || longF f) := by simp [anyL]
section
set_option maxRecDepth 100000
set_option maxHeartbeats 4000000
theorem long_any (f : Fc) (A : Option Addr) (c : Nat) (w : World) : Calls Tryd.prog 56 #[fcV f (.slice A f.2.2.length c)] w fun e w' => e = .returned (.bool (longF f)) ∧ Gr w w' := by
  obtain ⟨k, s, x⟩ := f
  unfold fcV longF
  dsimp only
  obtain ⟨W, hW⟩ : ∃ W, W = w.alloc (.cells #[.string k, .int .u64 (s : Int), .slice A x.length c] 40) := ⟨_, rfl⟩
  have hC : Cells W w.heap.size 40 [.string k, .int .u64 (s : Int), .slice A x.length c] := by rw [hW]; exact Cells.new w _ _
  have p0 : W.cell? ⟨w.heap.size, 0, none⟩ = some (.string k) := hC.cell rfl
  have p2 : W.cell? ⟨w.heap.size, 2, none⟩ = some (.slice A x.length c) := hC.cell rfl
  have Hend : Hid (Gr w W) := by rw [hW]; exact Gr.alloc w _
  generalize hks : k.size = ks
  generalize hxl : x.length = xl at *
  clear hC
  by_cases h1 : 1024 < ks
  · have h1' : (1024 : Int) < (ks : Int) := by omega
    go_enter Tryd.func56, Tryd.ntmps56
    go_upto_region 1 with fail
    rw [← hW]
    clear hW
    go_wp2_with fail
    go_ret
    exact ⟨by simp [h1], Hend.out⟩
  · have h1' : ¬ (1024 : Int) < (ks : Int) := by omega
    by_cases h2 : 1048576 < xl
    · have h2' : (1048576 : Int) < (xl : Int) := by omega
      go_enter Tryd.func56, Tryd.ntmps56
      go_upto_region 1 with fail
      rw [← hW]
      clear hW
      go_wp2_with fail
      go_ret
      exact ⟨by simp [h2], Hend.out⟩
    · have h2' : ¬ (1048576 : Int) < (xl : Int) := by omega
      go_enter Tryd.func56, Tryd.ntmps56
      go_upto_region 1 with fail
      rw [← hW]
      clear hW
      go_wp2_with fail
      go_ret
      exact ⟨by simp [h1], Hend.out⟩
theorem indexF_any (A : Option Addr) (c : Nat) (fs : List Fc) (w : World) (hl : fs.length ≤ 1099511627776) (hr : RF w w.heap.size A fs) :
    Calls Tryd.prog 97 #[.slice A fs.length c, .func (.func 56) #[] #[]] w fun e w' => ∃ i : Int, e = .returned (.int .i64 i) ∧ (i < 0 ↔ anyL fs = false) ∧ Gr w w' := by
  have Hr := Lib.hid hr
  have hl' : ((fs.length : Nat) : Int) ≤ 1099511627776 := by omega
  have Hlen : Hid (∀ k : Nat, k < fs.length → ∃ u, fs[k]? = some u) := fun k hk => ⟨_, List.getElem?_eq_getElem hk⟩
  obtain ⟨n, hn⟩ : ∃ n, n = fs.length := ⟨_, rfl⟩
  rw [← hn] at hl' Hlen ⊢
  have Hn := Lib.hid hn
  clear hr hl hn
  go_enter Tryd.func97, Tryd.ntmps97
  go_wp2_with fail
  go_loopw [8] (fun iv wr => ∃ i : Nat, iv = .int .i64 (i : Int) ∧ i ≤ n ∧ Hid (anyL (fs.take i) = false) ∧ Hid (Gr w wr)) (fun iv _ => n - (intOf iv).toNat)
  case atStart => exact ⟨0, rfl, Nat.zero_le _, rfl, Gr.refl w⟩
  case round =>
    obtain ⟨i, rfl, hi, hall, hg⟩ := hrel
    by_cases hlt : i < n
    · obtain ⟨f, hf⟩ := Hlen.out i hlt
      obtain ⟨b, o, V, rfl, hblt, c0, c1, c2, ⟨A2, cv, rfl, _⟩, _⟩ := (Hr.out.gr hg.out (Nat.le_refl _)).at_ hf
      have hlt' : (i : Int) < (n : Int) := by omega
      have Hlk := Lib.hid (fun W => long_any f A2 cv W)
      have Hall : Hid (longF f = false → anyL (fs.take (i + 1)) = false) := fun hq => by
        rw [List.take_add_one, hf]
        show anyL (_ ++ [f]) = _
        rw [anyL_snoc, hall.out, hq]
        rfl
      have Hno : Hid (longF f = true → anyL fs = true) := fun hq => List.any_eq_true.2 ⟨f, List.mem_of_getElem? hf, hq⟩
      have Hw : Hid (∀ w1, Gr wr w1 → Gr w w1) := fun w1 h1 => hg.out.trans h1
      unfold fcV at Hlk
      generalize longF f = q at Hlk Hall Hno
      obtain ⟨k, s, x⟩ := f
      dsimp only at c0 c1 c2 Hlk
      clear hf hall hg hlt Hlen
      cases q with
      | false =>
        have Ha := Lib.hid (Hall.out rfl)
        clear Hall Hno
        go_wp2_with fail
        refine (Hlk.out _).mono ?_
        rintro e w1 ⟨rfl, hw1⟩
        have Hb3 := Lib.hid (Hw.out w1 hw1)
        clear hw1 Hw Hlk c0 c1 c2
        go_wp2_with fail
        go_roundw
        case rel => exact ⟨i + 1, by go_num, by omega, Ha.out, Hb3.out⟩
        case measure => simp [intOf]; omega
      | true =>
        have Ha := Lib.hid (Hno.out rfl)
        clear Hall Hno
        go_wp2_with fail
        refine (Hlk.out _).mono ?_
        rintro e w1 ⟨rfl, hw1⟩
        have Hb3 := Lib.hid (Hw.out w1 hw1)
        clear hw1 Hw Hlk c0 c1 c2
        go_wp2_with fail
        go_ret
        exact ⟨i, rfl, ⟨fun q => by omega, fun q => by rw [Ha.out] at q; cases q⟩, Hb3.out⟩
    · obtain rfl : i = n := by omega
      have Ha : Hid (anyL fs = false) := by
        have := hall.out
        rw [Hn.out, List.take_of_length_le (Nat.le_refl _)] at this
        exact this
      have Hb := hg
      have hlt' : ¬ (i : Int) < (i : Int) := by omega
      clear hall hg hlt
      go_wp2_with fail
      go_ret
      exact ⟨-1, rfl, ⟨fun _ => Ha.out, fun _ => by omega⟩, Hb.out⟩
theorem containsF_any (A : Option Addr) (c : Nat) (fs : List Fc) (w : World) (hl : fs.length ≤ 1099511627776) (hr : RF w w.heap.size A fs) :
    Calls Tryd.prog 55 #[.slice A fs.length c, .func (.func 56) #[] #[]] w fun e w' => e = .returned (.bool (anyL fs)) ∧ Gr w w' := by
  have Hi := Lib.hid (indexF_any A c fs w hl hr)
  clear hr hl
  go_enter Tryd.func55, Tryd.ntmps55
  go_wp2_with fail
  refine Hi.out.mono ?_
  rintro e w1 ⟨i, rfl, hiff, hb⟩
  have Hb := Lib.hid hb
  cases hA : anyL fs with
  | false =>
    have hi : i < 0 := hiff.2 hA
    have hi2 : ¬ 0 ≤ i := by omega
    clear hiff hb
    go_wp2_with fail
    go_ret
    exact ⟨by simp [hi2, hA], Hb.out⟩
  | true =>
    have hi : ¬ i < 0 := fun q => by rw [hiff.1 q] at hA; cases hA
    have hi2 : 0 ≤ i := by omega
    clear hiff hb
    go_wp2_with fail
    go_ret
    exact ⟨by simp [hi2, hA], Hb.out⟩
end
end Go.Proofs.YtghcfmkmndldoaaDoor

/-
  Slices of facts in a row; merged.
-/
namespace Go.Proofs.YtghcfmkmndldoaaDoor
open Go.RowKit Go.Sort Go.Lib

/-- THE SLICE AT A READS AS the lists of facts ls, all of it below block B -/
def RFF (w : World) (B : Nat) (A : Option Addr) (ls : List (List Fc)) : Prop :=
  ∀ k l, ls[k]? = some l → ∃ b o A' c, A = some ⟨b, o, none⟩ ∧ b < B ∧ w.cell? ⟨b, o + k, none⟩ = some (.slice A' l.length c) ∧ l.length ≤ c ∧ RF w B A' l
def sumL (ls : List (List Fc)) : Nat := (ls.map List.length).sum
theorem sumL_append (xs ys : List (List Fc)) : sumL (xs ++ ys) = sumL xs + sumL ys := by simp [sumL]
theorem sumL_mem {ls : List (List Fc)} {l : List Fc} (h : l ∈ ls) : l.length ≤ sumL ls := by
  induction ls with
  | nil => cases h
  | cons x xs ih =>
    have e : sumL (x :: xs) = x.length + sumL xs := by simp [sumL]
    rcases List.mem_cons.1 h with rfl | h
    · omega
    · have := ih h
      omega
theorem foldF_mem {z : Fc} : ∀ (ls : List (List Fc)) (a : List Fc), z ∈ ls.foldl twoF a → z ∈ a ∨ ∃ l ∈ ls, z ∈ l
  | [], a, h => .inl h
  | l :: ls, a, h => by
    rcases foldF_mem ls (twoF a l) h with q | ⟨x, h1, h2⟩
    · rcases twoF_mem a l z q with q | q
      · exact .inl q
      · exact .inr ⟨l, List.mem_cons_self, q⟩
    · exact .inr ⟨x, List.mem_cons_of_mem _ h1, h2⟩
theorem mergeF_mem {z : Fc} {ls : List (List Fc)} (h : z ∈ mergeF ls) : ∃ l ∈ ls, z ∈ l := by
  rcases foldF_mem ls [] h with q | q
  · cases q
  · exact q
theorem mergeF_length (ls : List (List Fc)) (h : ∀ l ∈ ls, l.Pairwise Ahead) : (mergeF ls).length ≤ sumL ls := by
  induction ls with
  | nil => exact Nat.le_refl _
  | cons l ls ih =>
    have h1 := mergeF_append [l] ls (fun x hx => h x (by simp at hx; simp [hx])) (fun x hx => h x (List.mem_cons_of_mem _ hx))
    rw [show l :: ls = [l] ++ ls from rfl, h1, mergeF_one, sumL_append]
    have h2 := twoF_length l (mergeF ls)
    have h3 := ih fun x hx => h x (List.mem_cons_of_mem _ hx)
    have h4 : sumL [l] = l.length := by simp [sumL]
    omega
section
variable {w w' : World} {B B' : Nat} {A : Option Addr} {ls : List (List Fc)}
theorem RFF.below (h : RFF w B A ls) (hb : Below B w w') : RFF w' B A ls := fun k l hk => by
  obtain ⟨b, o, A', c, e, hlt, h1, h2, h3⟩ := h k l hk
  exact ⟨b, o, A', c, e, hlt, (hb.cell hlt).trans h1, h2, h3.below hb⟩
theorem RFF.wide (h : RFF w B A ls) (hB : B ≤ B') : RFF w B' A ls := fun k l hk => by
  obtain ⟨b, o, A', c, e, hlt, h1, h2, h3⟩ := h k l hk
  exact ⟨b, o, A', c, e, by omega, h1, h2, h3.wide hB⟩
theorem RFF.take (h : RFF w B A ls) (n : Nat) : RFF w B A (ls.take n) := fun k l hk => by
  rw [List.getElem?_take] at hk
  split at hk
  · exact h k l hk
  · cases hk
theorem RFF.cut {b o : Nat} (h : RFF w B (some ⟨b, o, none⟩) ls) (n : Nat) : RFF w B (some ⟨b, o + n, none⟩) (ls.drop n) := fun k l hk => by
  rw [List.getElem?_drop] at hk
  obtain ⟨b', o', A', c, e, hlt, h1, h2, h3⟩ := h _ l hk
  cases e
  exact ⟨b, o + n, A', c, rfl, hlt, by rw [Nat.add_assoc]; exact h1, h2, h3⟩
end
/-- the first half of a row -/
theorem cutL_run (b o n c k : Nat) (h1 : k ≤ n) (h2 : n ≤ c) (W : World) : (Instr.sliceAt 41 (.slice (some ⟨b, o, none⟩) n c) none (some (.int .i64 (k : Int))) none).run Tryd.prog W = .ok (.slice (some ⟨b, o, none⟩) k c) W := by
  have h3 : (k : Int) ≤ (c : Int) := by omega
  simp [go_sem, h3, sliced, Addr.add]
theorem cutH_run (b o n c k : Nat) (h0 : 0 < k) (h1 : k < n) (h2 : n ≤ c) (W : World) : (Instr.sliceAt 41 (.slice (some ⟨b, o, none⟩) n c) (some (.int .i64 (k : Int))) none none).run Tryd.prog W = .ok (.slice (some ⟨b, o + k, none⟩) (n - k) (c - k)) W := by
  have h3 : (k : Int) ≤ (n : Int) := by omega
  have h4 : ¬ k = c := by omega
  have h5 : ¬ c = k := by omega
  have h6 : ¬ k = 0 := by omega
  simp [go_sem, h3, h5, h6, sliced, Addr.add]
section
set_option maxRecDepth 100000
set_option maxHeartbeats 8000000
theorem merged_any : ∀ (N : Nat) (A : Option Addr) (c : Nat) (ls : List (List Fc)) (w : World), ls.length ≤ N → ls.length ≤ 1099511627776 → ls.length ≤ c → sumL ls ≤ 1099511627776 → (∀ l ∈ ls, l.Pairwise Ahead) → RFF w w.heap.size A ls →
    Calls Tryd.prog 52 #[.slice A ls.length c] w fun e w' => ∃ A' c', e = .returned (.slice A' (mergeF ls).length c') ∧ (mergeF ls).length ≤ c' ∧ RF w' w'.heap.size A' (mergeF ls) ∧ Below w.heap.size w w' := by
  intro N
  induction N with
  | zero =>
    intro A c ls w hN _ _ _ _ _
    have h0 : ls = [] := List.eq_nil_of_length_eq_zero (by omega)
    subst h0
    go_enter Tryd.func52, Tryd.ntmps52
    go_wp2_with fail
    exact bodyPost_ret (v := .slice none 0 0) (by simp [results, Tryd.results52, go_sem]) rfl ⟨none, 0, rfl, Nat.le_refl _, RF.nil _ _ _, Below.refl _ _⟩
  | succ N ih =>
    intro A c ls w hN hl hc hs hp hr
    have IH := Lib.hid ih
    clear ih
    by_cases h0 : ls.length = 0
    · have h0 : ls = [] := List.eq_nil_of_length_eq_zero (by omega)
      subst h0
      go_enter Tryd.func52, Tryd.ntmps52
      go_wp2_with fail
      exact bodyPost_ret (v := .slice none 0 0) (by simp [results, Tryd.results52, go_sem]) rfl ⟨none, 0, rfl, Nat.le_refl _, RF.nil _ _ _, Below.refl _ _⟩
    · by_cases h1 : ls.length = 1
      · obtain ⟨l, rfl⟩ := List.length_eq_one_iff.1 h1
        obtain ⟨b, o, A', c1, rfl, hlt, x0, x1, x2⟩ := hr 0 l rfl
        have Hx : Hid (l.length ≤ c1 ∧ RF w w.heap.size A' l) := ⟨x1, x2⟩
        rw [mergeF_one]
        rw [Nat.add_zero] at x0
        clear hr hp hs hl hN h1 x1 x2 h0
        go_enter Tryd.func52, Tryd.ntmps52
        go_wp2_with fail
        exact bodyPost_ret (v := .slice A' l.length c1) (by simp [results, Tryd.results52, go_sem]) rfl ⟨A', c1, rfl, Hx.out.1, Hx.out.2, Below.refl _ _⟩
      · obtain ⟨n, hn⟩ : ∃ n, n = ls.length := ⟨_, rfl⟩
        obtain ⟨l0, hl0⟩ : ∃ l0, ls[0]? = some l0 := ⟨_, List.getElem?_eq_getElem (by omega)⟩
        obtain ⟨b, o, _, _, rfl, _⟩ := hr 0 l0 hl0
        obtain ⟨h, hh⟩ : ∃ h, h = n / 2 := ⟨_, rfl⟩
        have hh1 : h < n ∧ 0 < h ∧ n - h ≤ N ∧ h ≤ N := by omega
        have hq : IntKind.i64.wrap ((n : Int).tdiv 2) = (h : Int) := by
          rw [show (n : Int).tdiv 2 = (h : Int) by rw [Int.tdiv_eq_ediv_of_nonneg (by omega)]; omega, IntKind.wrap_i64]; omega
        have hwh : IntKind.i64.wrap (h : Int) = (h : Int) := by rw [IntKind.wrap_i64]; omega
        have hq2 : (n : Int).tdiv 2 = (h : Int) := by rw [Int.tdiv_eq_ediv_of_nonneg (by omega)]; omega
        have hs1 := cutL_run b o n c h (by omega) (by omega)
        have hs2 := cutH_run b o n c h (by omega) (by omega) (by omega)
        have hsum : sumL (ls.take h) + sumL (ls.drop h) = sumL ls := by rw [← sumL_append, List.take_append_drop]
        have hp1 : ∀ l ∈ ls.take h, l.Pairwise Ahead := fun l hl => hp l (List.mem_of_mem_take hl)
        have hp2 : ∀ l ∈ ls.drop h, l.Pairwise Ahead := fun l hl => hp l (List.mem_of_mem_drop hl)
        have hm : mergeF ls = twoF (mergeF (ls.take h)) (mergeF (ls.drop h)) := by rw [← mergeF_append _ _ hp1 hp2, List.take_append_drop]
        have hl1 := mergeF_length _ hp1
        have hl2 := mergeF_length _ hp2
        have HM1 : Hid (∀ W, Below w.heap.size w W → Calls Tryd.prog 52 #[.slice (some ⟨b, o, none⟩) h c] W fun e w' => ∃ A' c', e = .returned (.slice A' (mergeF (ls.take h)).length c') ∧ (mergeF (ls.take h)).length ≤ c' ∧ RF w' w'.heap.size A' (mergeF (ls.take h)) ∧ Below W.heap.size W w') := fun W hW => by
          have e : (ls.take h).length = h := by rw [List.length_take]; omega
          have := IH.out (some ⟨b, o, none⟩) c (ls.take h) W (by omega) (by omega) (by omega) (by omega) hp1 (((hr.take h).below hW).wide hW.size)
          rw [e] at this
          exact this
        have HM2 : Hid (∀ W, Below w.heap.size w W → Calls Tryd.prog 52 #[.slice (some ⟨b, o + h, none⟩) (n - h) (c - h)] W fun e w' => ∃ A' c', e = .returned (.slice A' (mergeF (ls.drop h)).length c') ∧ (mergeF (ls.drop h)).length ≤ c' ∧ RF w' w'.heap.size A' (mergeF (ls.drop h)) ∧ Below W.heap.size W w') := fun W hW => by
          have e : (ls.drop h).length = n - h := by rw [List.length_drop]; omega
          have := IH.out (some ⟨b, o + h, none⟩) (c - h) (ls.drop h) W (by omega) (by omega) (by omega) (by omega) hp2 (((hr.cut h).below hW).wide hW.size)
          rw [e] at this
          exact this
        have HB : Hid (∀ Aa ca Ab cb W, (mergeF (ls.take h)).length ≤ ca → (mergeF (ls.drop h)).length ≤ cb → RF W W.heap.size Aa (mergeF (ls.take h)) → RF W W.heap.size Ab (mergeF (ls.drop h)) →
            Calls Tryd.prog 96 #[.slice Aa (mergeF (ls.take h)).length ca, .slice Ab (mergeF (ls.drop h)).length cb] W fun e w' => ∃ A' c', e = .returned (.slice A' (mergeF ls).length c') ∧ (mergeF ls).length ≤ c' ∧ RF w' w'.heap.size A' (mergeF ls) ∧ Below W.heap.size W w') := fun Aa ca Ab cb W q1 q2 q3 q4 => by
          refine Calls.mono (both_any Aa Ab ca cb _ _ W q1 q2 (by omega) q3 q4) ?_
          rintro e w' ⟨v, rfl, r1, r2⟩
          rw [← hm] at r1
          obtain ⟨A', c', e1, e2, _, e3, _⟩ := r1.rd fun V x hV => (hV.below r2).wide r2.size
          exact ⟨A', c', by rw [e1], e2, e3, r2⟩
        have hn1 : (n : Int) ≤ 1099511627776 := by omega
        have hn2 : ¬ n = 0 := by omega
        have hn3 : ¬ n = 1 := by omega
        have hn4 : ¬ (n : Int) = 0 := by omega
        have hn5 : ¬ (n : Int) = 1 := by omega
        rw [← hn] at hc ⊢
        generalize mergeF (ls.take h) = m1 at *
        generalize mergeF (ls.drop h) = m2 at *
        generalize mergeF ls = mm at *
        have HB0 : Hid (Below w.heap.size w w) := Below.refl _ _
        have HB1 : Hid (Below w.heap.size w w.drew) := (Below.refl _ _).drew
        clear hr hp hp1 hp2 hsum hl1 hl2 hm hs hl hN h0 h1 hl0 hh IH hn hh1 hc
        go_enter Tryd.func52, Tryd.ntmps52
        go_upto_region 7 with fail
        go_region_law (first
          | (go_simp; go_at_call 52; refine (HM1.out _ (by first | exact HB0.out | exact HB1.out)).mono ?_; rintro e w1 ⟨A1, c1, rfl, g1, r1, b1⟩; have HB2 : Hid (Below w.heap.size w w1) := (by first | exact HB0.out.trans (b1.mono HB0.out.size) | exact HB1.out.trans (b1.mono HB1.out.size)); have HB3 : Hid (Below w.heap.size w w1.drew) := HB2.out.drew; have H1 : Hid (m1.length ≤ c1 ∧ RF w1 w1.heap.size A1 m1) := ⟨g1, r1⟩; clear g1 r1 b1 HM1)
          | (go_simp; go_at_call 52; refine (HM2.out _ (by first | exact HB2.out | exact HB3.out)).mono ?_; rintro e w2 ⟨A2, c2, rfl, g2, r2, b2⟩; have HB4 : Hid (Below w.heap.size w w2) := (by first | exact HB2.out.trans (b2.mono HB2.out.size) | exact HB3.out.trans (b2.mono HB3.out.size)); have b12 : Below w1.heap.size w1 w2 := (by first | exact b2 | exact ((Below.refl _ _).drew).trans b2); have H2 : Hid (m1.length ≤ c1 ∧ m2.length ≤ c2 ∧ RF w2 w2.heap.size A1 m1 ∧ RF w2 w2.heap.size A2 m2) := ⟨H1.out.1, g2, (RF.below H1.out.2 b12).wide b12.size, r2⟩; clear g2 r2 b2 b12 HM2)
          | (go_simp; go_at_call 96; refine (HB.out _ _ _ _ _ H2.out.1 H2.out.2.1 (by exact H2.out.2.2.1) (by exact H2.out.2.2.2)).mono ?_; rintro e w3 ⟨A3, c3, rfl, g3, r3, b3⟩; have H3 : Hid (mm.length ≤ c3 ∧ RF w3 w3.heap.size A3 mm ∧ Below w.heap.size w w3) := ⟨g3, r3, (by first | exact HB4.out.trans (b3.mono HB4.out.size) | exact HB4.out.drew.trans (b3.mono HB4.out.size))⟩; clear g3 r3 b3))
        all_goals
          go_wp2_with fail
          go_ret
          exact ⟨A3, c3, rfl, H3.out.1, H3.out.2.1, H3.out.2.2⟩
end
end Go.Proofs.YtghcfmkmndldoaaDoor

/-
  copied: a fact with a value of its own.
-/
namespace Go.Proofs.YtghcfmkmndldoaaDoor
open Go.RowKit Go.Sort Go.Lib

section
set_option maxRecDepth 100000
set_option maxHeartbeats 4000000
theorem copied_any (f : Fc) (V : Value) (w : World) (hV : Vb w w.heap.size V f.2.2) (hl : f.2.2.length ≤ 1099511627776) :
    Calls Tryd.prog 53 #[fcV f V] w fun e w' => ∃ V', e = .returned (fcV f V') ∧ Own w' w.heap.size V' f.2.2 ∧ Below w.heap.size w w' := by
  obtain ⟨k, s, x⟩ := f
  dsimp only at hV hl ⊢
  unfold fcV
  dsimp only
  obtain ⟨A, c, rfl, hc, hA, hr⟩ := hV
  obtain ⟨W, hW⟩ : ∃ W, W = (w.alloc (.cells #[.string k, .int .u64 (s : Int), .slice A x.length c] 40)).alloc (.cells #[.string ⟨#[]⟩, .int .u64 0, .slice none 0 0] 40) := ⟨_, rfl⟩
  have e1 : (w.alloc (.cells #[.string k, .int .u64 (s : Int), .slice A x.length c] 40)).heap.size = w.heap.size + 1 := by simp
  have ka : Cells W w.heap.size 40 [.string k, .int .u64 (s : Int), .slice A x.length c] := by rw [hW]; exact (Cells.new w _ _).alloc _
  have kb : Cells W (w.heap.size + 1) 40 [.string ⟨#[]⟩, .int .u64 0, .slice none 0 0] := by rw [hW, ← e1]; exact Cells.new _ _ _
  have hB : Below w.heap.size w W := by rw [hW]; exact ((Below.refl _ _).alloc (Nat.le_refl _) _).alloc (by simp) _
  have p2 : W.cell? ⟨w.heap.size, 2, none⟩ = some (.slice A x.length c) := ka.cell rfl
  have Hcl := Lib.hid (clone_any A c x W W.heap.size ((hr.below hB).wide hB.size) (Nat.le_refl _) hl)
  have Hk : Hid (Cells W w.heap.size 40 [.string k, .int .u64 (s : Int), .slice A x.length c] ∧ Cells W (w.heap.size + 1) 40 [.string ⟨#[]⟩, .int .u64 0, .slice none 0 0] ∧ Below w.heap.size w W) := ⟨ka, kb, hB⟩
  clear ka kb e1 hr hB hl hA hc
  go_enter Tryd.func53, Tryd.ntmps53
  go_wp2_with fail
  rw [← hW]
  clear hW p2
  refine Hcl.out.mono ?_
  rintro e w1 ⟨V', rfl, ho1, hb1⟩
  obtain ⟨ka, kb, hB⟩ := Hk.out
  have ka1 := ka.move (hb1.block _ ka.lt)
  have kb1 := kb.move (hb1.block _ kb.lt)
  have ka2 : Cells (w1.setCell ⟨w.heap.size, 2, none⟩ V') w.heap.size 40 [.string k, .int .u64 (s : Int), V'] := ka1.set 2 V'
  have q0 : (w1.setCell ⟨w.heap.size, 2, none⟩ V').cell? ⟨w.heap.size, 0, none⟩ = some (.string k) := ka2.cell rfl
  have q1 : (w1.setCell ⟨w.heap.size, 2, none⟩ V').cell? ⟨w.heap.size, 1, none⟩ = some (.int .u64 (s : Int)) := ka2.cell rfl
  have q2 : (w1.setCell ⟨w.heap.size, 2, none⟩ V').cell? ⟨w.heap.size, 2, none⟩ = some V' := ka2.cell rfl
  have q3 : w1.cell? ⟨w.heap.size, 2, none⟩ = some (.slice A x.length c) := ka1.cell rfl
  have q4 : w1.frozen? ⟨w.heap.size, 2, none⟩ = false := ka1.frozen 2
  have kb2 : Cells (w1.setCell ⟨w.heap.size, 2, none⟩ V') (w.heap.size + 1) 40 [.string ⟨#[]⟩, .int .u64 0, .slice none 0 0] := kb1.move (Below.heap_setCell _ _ _ _ (by show w.heap.size + 1 ≠ w.heap.size; omega))
  have hbel : Below w.heap.size w (w1.setCell ⟨w.heap.size, 2, none⟩ V') := (hB.trans (hb1.mono hB.size)).setCell (Nat.le_refl _) _
  have ho2 : Own (w1.setCell ⟨w.heap.size, 2, none⟩ V') w.heap.size V' x := (ho1.wide (by have := ka.lt; omega)).move fun g hg => Below.heap_setCell _ _ _ _ (fun e => by
    have e' : g = w.heap.size := e
    have := (ho1.lt g hg).1
    have := ka.lt
    omega)
  have H2 : Hid (Cells (w1.setCell ⟨w.heap.size, 2, none⟩ V') (w.heap.size + 1) 40 [.string ⟨#[]⟩, .int .u64 0, .slice none 0 0] ∧ Below w.heap.size w (w1.setCell ⟨w.heap.size, 2, none⟩ V') ∧ Own (w1.setCell ⟨w.heap.size, 2, none⟩ V') w.heap.size V' x) := ⟨kb2, hbel, ho2⟩
  obtain ⟨A1, c1, rfl, _⟩ := ho1.rb
  clear Hcl Hk ka kb hB hb1 ka1 kb1 ka2 kb2 hbel ho2 ho1
  go_upto_region 2 with fail
  generalize w1.setCell ⟨w.heap.size, 2, none⟩ (.slice A1 x.length c1) = W2 at *
  clear q3 q4
  have r0 := H2.out.1.cell (i := 0) rfl
  have r1 := H2.out.1.cell (i := 1) rfl
  have r2 := H2.out.1.cell (i := 2) rfl
  have f0 := H2.out.1.frozen 0
  have f1 := H2.out.1.frozen 1
  have f2 := H2.out.1.frozen 2
  go_wp2_with fail
  have h3 : Cells (((W2.setCell ⟨w.heap.size + 1, 0, none⟩ (.string k)).setCell ⟨w.heap.size + 1, 1, none⟩ (.int .u64 (s : Int))).setCell ⟨w.heap.size + 1, 2, none⟩ (.slice A1 x.length c1)) (w.heap.size + 1) 40 [.string k, .int .u64 (s : Int), .slice A1 x.length c1] := ((H2.out.1.set 0 _).set 1 _).set 2 _
  have hb3 : Below w.heap.size w (((W2.setCell ⟨w.heap.size + 1, 0, none⟩ (.string k)).setCell ⟨w.heap.size + 1, 1, none⟩ (.int .u64 (s : Int))).setCell ⟨w.heap.size + 1, 2, none⟩ (.slice A1 x.length c1)) := ((H2.out.2.1.setCell (Nat.le_succ _) _).setCell (Nat.le_succ _) _).setCell (Nat.le_succ _) _
  have hty : ∀ g, (Value.slice A1 x.length c1).ownBlock = some g → g ≠ w.heap.size + 1 := fun g hg e => by
    rcases H2.out.2.2.2 with ⟨hv, _⟩ | ⟨g', cap, cur, hv, _, hgg, _⟩
    · rw [hv] at hg; cases hg
    · rw [hv] at hg
      cases hg
      subst e
      have := H2.out.1
      unfold Cells at this
      rw [this] at hgg
      cases hgg
  have ho3 : Own (((W2.setCell ⟨w.heap.size + 1, 0, none⟩ (.string k)).setCell ⟨w.heap.size + 1, 1, none⟩ (.int .u64 (s : Int))).setCell ⟨w.heap.size + 1, 2, none⟩ (.slice A1 x.length c1)) w.heap.size (.slice A1 x.length c1) x :=
    H2.out.2.2.move fun g hg => ((Below.heap_setCell _ _ _ _ (hty g hg)).trans (Below.heap_setCell _ _ _ _ (hty g hg))).trans (Below.heap_setCell _ _ _ _ (hty g hg))
  generalize (((W2.setCell ⟨w.heap.size + 1, 0, none⟩ (.string k)).setCell ⟨w.heap.size + 1, 1, none⟩ (.int .u64 (s : Int))).setCell ⟨w.heap.size + 1, 2, none⟩ (.slice A1 x.length c1)) = W3 at *
  have q0 := h3.cell (i := 0) rfl
  have q1 := h3.cell (i := 1) rfl
  have q2 := h3.cell (i := 2) rfl
  exact bodyPost_ret (v := .agg #[.string k, .int .u64 (s : Int), .slice A1 x.length c1]) (by simp [results, Tryd.results53, go_sem, q0, q1, q2]) rfl ⟨_, rfl, ho3, hb3⟩
end
end Go.Proofs.YtghcfmkmndldoaaDoor

/-
  The laws' SameRows.
-/
namespace Go.Proofs.YtghcfmkmndldoaaDoor
open Go.RowKit Go.Sort Go.Lib

theorem take_succ_eq {α : Type} {xs ys : List α} {i : Nat} {a b : α} (h : xs.take i = ys.take i) (ha : xs[i]? = some a) (hb : ys[i]? = some b) (e : a = b) : xs.take (i + 1) = ys.take (i + 1) := by
  rw [List.take_add_one, List.take_add_one, h, ha, hb, e]
section
set_option maxRecDepth 100000
set_option maxHeartbeats 4000000
theorem sameRows_any (A1 A2 : Option Addr) (c1 c2 : Nat) (xs ys : List Fc) (w : World) (hl : xs.length ≤ 1099511627776) (hl2 : ys.length ≤ 1099511627776) (h1 : RF w w.heap.size A1 xs) (h2 : RF w w.heap.size A2 ys) :
    Calls Tryd.prog 27 #[.slice A1 xs.length c1, .slice A2 ys.length c2] w fun e w' => e = .returned (.bool (decide (xs = ys))) ∧ Gr w w' := by
  by_cases hne : xs.length = ys.length
  · have H1 := Lib.hid h1
    have H2 := Lib.hid h2
    have hl' : ((xs.length : Nat) : Int) ≤ 1099511627776 := by omega
    have Hlen : Hid (∀ k : Nat, k < xs.length → ∃ u v, xs[k]? = some u ∧ ys[k]? = some v) := fun k hk => ⟨_, _, List.getElem?_eq_getElem hk, List.getElem?_eq_getElem (by omega)⟩
    have Hs := Lib.hid same_anyF
    unfold fcV at Hs
    rw [← hne]
    have Hne := Lib.hid hne
    obtain ⟨n, hn⟩ : ∃ n, n = xs.length := ⟨_, rfl⟩
    rw [← hn] at hl' Hlen ⊢
    have Hn := Lib.hid hn
    clear h1 h2 hl hl2 hn hne
    go_enter Tryd.func27, Tryd.ntmps27
    go_wp2_with fail
    go_loopw [5] (fun iv wr => ∃ i : Nat, iv = .int .i64 (i : Int) ∧ i ≤ n ∧ Hid (xs.take i = ys.take i) ∧ Hid (Gr w wr)) (fun iv _ => n - (intOf iv).toNat)
    case atStart => exact ⟨0, rfl, Nat.zero_le _, rfl, Gr.refl w⟩
    case round =>
      obtain ⟨i, rfl, hi, hall, hg⟩ := hrel
      by_cases hlt : i < n
      · obtain ⟨a, b, ha, hb⟩ := Hlen.out i hlt
        have hr1 := (H1.out.gr hg.out (Nat.le_refl _)).wide hg.out.below.size
        have hr2 := (H2.out.gr hg.out (Nat.le_refl _)).wide hg.out.below.size
        obtain ⟨bk, o, va, rfl, hblt, a0, a1, a2, hva, _⟩ := hr1.at_ ha
        obtain ⟨bk2, o2, vb, rfl, hblt2, b0, b1, b2, hvb, _⟩ := hr2.at_ hb
        have hlt' : (i : Int) < (n : Int) := by omega
        have Hw : Hid (∀ w1, Gr wr w1 → Gr w w1) := fun w1 h1 => hg.out.trans h1
        have Hss : Hid (∀ w1, (w1 = wr ∨ w1 = wr.drew) → Calls Tryd.prog 35 #[.agg #[.string a.1, .int .u64 (a.2.1 : Int), va], .agg #[.string b.1, .int .u64 (b.2.1 : Int), vb]] w1 fun e w' => e = .returned (.bool (decide (a = b))) ∧ Gr wr w') := fun w1 hor => by
          rcases hor with rfl | rfl
          · exact Hs.out a b va vb w1 hva hvb
          · refine Calls.mono (Hs.out a b va vb wr.drew hva hvb) ?_
            rintro e w' ⟨h, k⟩
            exact ⟨h, (Gr.drewN wr 1).trans k⟩
        have Hyes : Hid (a = b → xs.take (i + 1) = ys.take (i + 1)) := fun e => take_succ_eq hall.out ha hb e
        have Hno : Hid (¬ a = b → ¬ xs = ys) := fun e q => by rw [q, hb] at ha; exact e (Option.some.inj ha).symm
        obtain ⟨ka, sa, la⟩ := a
        obtain ⟨kb, sb, lb⟩ := b
        dsimp only at a0 a1 a2 b0 b1 b2 Hss
        have d0 : wr.drew.cell? ⟨bk, o + i * 3, none⟩ = some (.string ka) := a0
        have d1 : wr.drew.cell? ⟨bk, o + i * 3 + 1, none⟩ = some (.int .u64 (sa : Int)) := a1
        have d2 : wr.drew.cell? ⟨bk, o + i * 3 + 2, none⟩ = some va := a2
        have d3 : wr.drew.cell? ⟨bk2, o2 + i * 3, none⟩ = some (.string kb) := b0
        have d4 : wr.drew.cell? ⟨bk2, o2 + i * 3 + 1, none⟩ = some (.int .u64 (sb : Int)) := b1
        have d5 : wr.drew.cell? ⟨bk2, o2 + i * 3 + 2, none⟩ = some vb := b2
        clear ha hb hr1 hr2 hall hg hlt Hlen hva hvb H1 H2
        by_cases hq : (ka, sa, la) = (kb, sb, lb)
        · have Ha := Lib.hid (Hyes.out hq)
          rw [decide_eq_true hq] at Hss
          clear Hyes Hno hq
          go_upto_region 6 with fail
          go_region_with (go_at_call 35; refine (Hss.out _ (by first | exact .inl (by with_reducible rfl) | exact .inr (by with_reducible rfl))).mono ?_; rintro e w3 ⟨rfl, h3⟩; have H3 := Lib.hid h3; clear h3)
          all_goals
            go_wp2_with fail
            exact ⟨⟨i + 1, by go_num, by omega, Ha.out, Hw.out _ H3.out⟩, by simp [intOf]; omega⟩
        · have Ha := Lib.hid (Hno.out hq)
          rw [decide_eq_false hq] at Hss
          clear Hyes Hno hq
          go_upto_region 6 with fail
          go_region_with (go_at_call 35; refine (Hss.out _ (by first | exact .inl (by with_reducible rfl) | exact .inr (by with_reducible rfl))).mono ?_; rintro e w3 ⟨rfl, h3⟩; have H3 := Lib.hid h3; clear h3)
          all_goals
            go_wp2_with fail
            go_ret
            exact ⟨by rw [decide_eq_false Ha.out]; rfl, Hw.out _ H3.out⟩
      · obtain rfl : i = n := by omega
        have Ha : Hid (xs = ys) := by
          have := hall.out
          rw [List.take_of_length_le (by have := Hn.out; omega), List.take_of_length_le (by have := Hn.out; have := Hne.out; omega)] at this
          exact this
        have Hg := hg
        have hlt' : ¬ (i : Int) < (i : Int) := by omega
        clear hall hg hlt
        go_wp2_with fail
        go_ret
        exact ⟨by rw [decide_eq_true Ha.out]; rfl, Hg.out⟩
  · have hb : (((xs.length : Nat) : Int) != ((ys.length : Nat) : Int)) = true := by rw [bne_iff_ne]; omega
    have hb2 : ¬ ((xs.length : Nat) : Int) = ((ys.length : Nat) : Int) := by omega
    have Ha : Hid (¬ xs = ys) := fun e => hne (by rw [e])
    generalize xs.length = n1 at *
    generalize ys.length = n2 at *
    clear h1 h2
    go_enter Tryd.func27, Tryd.ntmps27
    go_wp2_with fail
    go_ret
    exact ⟨by rw [decide_eq_false Ha.out]; rfl, Gr.refl w⟩
end
end Go.Proofs.YtghcfmkmndldoaaDoor

/-
  The second saying's two. (Written by wip/tools/genfa38.py.)
-/
namespace Go.Proofs.YtghcfmkmndldoaaDoor
open Go.RowKit Go.Sort Go.Lib

/-- where the loop of two stands -/
structure TwSt (w wr : World) (lv : Value) (xs ys R out : List Fc) (i j : Nat) : Prop where
  row : RowF wr w.heap.size lv out (Vb w w.heap.size)
  res : out ++ twoF (xs.drop i) (ys.drop j) = R
  len : out.length + (xs.length - i) + (ys.length - j) ≤ xs.length + ys.length
  bel : Below w.heap.size w wr
section
set_option maxRecDepth 100000
set_option maxHeartbeats 8000000
theorem rtwo_any (Aa Ab : Option Addr) (ca cb : Nat) (xs ys : List Fc) (w : World) (hN : xs.length + ys.length ≤ 1099511627776) (ha : RF w w.heap.size Aa xs) (hb : RF w w.heap.size Ab ys) :
    Calls Tryd.prog 54 #[.slice Aa xs.length ca, .slice Ab ys.length cb] w fun e w' => ∃ v, e = .returned v ∧ RowF w' w.heap.size v (twoF xs ys) (Vb w w.heap.size) ∧ Below w.heap.size w w' := by
  have HA : Hid (RF w w.heap.size Aa xs ∧ RF w w.heap.size Ab ys) := ⟨ha, hb⟩
  have HN := Lib.hid hN
  have Hcmp := Lib.hid rcmp_any
  obtain ⟨R, hR⟩ : ∃ R, R = twoF xs ys := ⟨_, rfl⟩
  rw [← hR]
  have H0 : Hid (TwSt w w (.slice none 0 0) xs ys R [] 0 0) := ⟨RowF.nil _ _ _, by rw [hR]; rfl, by simp, Below.refl _ _⟩
  have HlenX : Hid (∀ k : Nat, k < xs.length → ∃ u, xs[k]? = some u) := fun k hk => ⟨_, List.getElem?_eq_getElem hk⟩
  have HlenY : Hid (∀ k : Nat, k < ys.length → ∃ u, ys[k]? = some u) := fun k hk => ⟨_, List.getElem?_eq_getElem hk⟩
  obtain ⟨nx, hnx⟩ : ∃ nx, nx = xs.length := ⟨_, rfl⟩
  obtain ⟨ny, hny⟩ : ∃ ny, ny = ys.length := ⟨_, rfl⟩
  have hn1 : (nx : Int) ≤ 1099511627776 := by omega
  have hn2 : (ny : Int) ≤ 1099511627776 := by omega
  rw [← hnx] at HlenX
  rw [← hny] at HlenY
  rw [← hnx, ← hny]
  have Hnx := Lib.hid hnx
  have Hny := Lib.hid hny
  clear ha hb hN hR hnx hny
  go_enter Tryd.func54, Tryd.ntmps54
  go_wp2_with fail
  go_loopw [5, 6, 7] (fun lv iv jv wr => ∃ (i j : Nat) (out : List Fc), iv = .int .i64 (i : Int) ∧ jv = .int .i64 (j : Int) ∧ i ≤ nx ∧ j ≤ ny ∧ Hid (TwSt w wr lv xs ys R out i j)) (fun _ iv jv _ => (nx - (intOf iv).toNat) + (ny - (intOf jv).toNat))
  case atStart => exact ⟨0, 0, [], rfl, rfl, Nat.zero_le _, Nat.zero_le _, H0.out⟩
  case round =>
    obtain ⟨i, j, out, rfl, rfl, hi', hj', hst⟩ := hrel
    obtain ⟨lo, co, rfl, _⟩ := hst.out.row.shape
    have HrowU := Lib.hid hst.out.row
    have HbU := Lib.hid hst.out.bel
    have Hlen : Hid (out.length + (nx - i) + (ny - j) ≤ xs.length + ys.length ∧ nx = xs.length ∧ ny = ys.length) := ⟨by rw [Hnx.out, Hny.out]; exact hst.out.len, Hnx.out, Hny.out⟩
    have hwr := Lib.hid hst.out.bel
    by_cases hi : i < nx
    · have hii : (i : Int) < (nx : Int) := by omega
      have hie : ¬ (i : Int) = (nx : Int) := by omega
      have hi2 : ((i : Int) == (nx : Int)) = false := by rw [beq_eq_false_iff_ne]; exact hie
      have Hnum : Hid (out.length + 1 ≤ 1099511627776) := by show _ ≤ _; have := Hlen.out; have := HN.out; omega
      obtain ⟨x, hx⟩ := HlenX.out i hi
      obtain ⟨b1, o1, vx, rfl, hb1, x0, x1, x2, hVx, hsx⟩ := HA.out.1.at_ hx
      have HVx : Hid (Vb w w.heap.size vx x.2.2 ∧ x.2.1 < two64 ∧ vx.oneCell' = true) := ⟨hVx, hsx, hVx.one⟩
      have HX : Hid (∀ W, Below w.heap.size w W → W.cell? ⟨b1, o1 + i * 3, none⟩ = some (.string x.1) ∧ W.cell? ⟨b1, o1 + i * 3 + 1, none⟩ = some (.int .u64 (x.2.1 : Int)) ∧ W.cell? ⟨b1, o1 + i * 3 + 2, none⟩ = some vx) := fun W hW => ⟨(hW.cell (p := ⟨b1, o1 + i * 3, none⟩) hb1).trans x0, (hW.cell (p := ⟨b1, o1 + i * 3 + 1, none⟩) hb1).trans x1, (hW.cell (p := ⟨b1, o1 + i * 3 + 2, none⟩) hb1).trans x2⟩
      have hdx : xs.drop i = x :: xs.drop (i + 1) := by
        have h1 := List.getElem?_eq_some_iff.1 hx
        rw [List.drop_eq_getElem_cons h1.1, h1.2]
      clear x0 x1 x2 hVx hsx hb1 hx
      obtain ⟨x0, x1, x2⟩ := HX.out wr hst.out.bel
      by_cases hj : j < ny
      · have hjj : (j : Int) < (ny : Int) := by omega
        have hje : ¬ (j : Int) = (ny : Int) := by omega
        have hj2 : ((j : Int) == (ny : Int)) = false := by rw [beq_eq_false_iff_ne]; exact hje
        obtain ⟨y, hy⟩ := HlenY.out j hj
        obtain ⟨b2, o2, vy, rfl, hb2, y0, y1, y2, hVy, hsy⟩ := HA.out.2.at_ hy
        have HVy : Hid (Vb w w.heap.size vy y.2.2 ∧ y.2.1 < two64 ∧ vy.oneCell' = true) := ⟨hVy, hsy, hVy.one⟩
        have HY : Hid (∀ W, Below w.heap.size w W → W.cell? ⟨b2, o2 + j * 3, none⟩ = some (.string y.1) ∧ W.cell? ⟨b2, o2 + j * 3 + 1, none⟩ = some (.int .u64 (y.2.1 : Int)) ∧ W.cell? ⟨b2, o2 + j * 3 + 2, none⟩ = some vy) := fun W hW => ⟨(hW.cell (p := ⟨b2, o2 + j * 3, none⟩) hb2).trans y0, (hW.cell (p := ⟨b2, o2 + j * 3 + 1, none⟩) hb2).trans y1, (hW.cell (p := ⟨b2, o2 + j * 3 + 2, none⟩) hb2).trans y2⟩
        have hdy : ys.drop j = y :: ys.drop (j + 1) := by
          have h1 := List.getElem?_eq_some_iff.1 hy
          rw [List.drop_eq_getElem_cons h1.1, h1.2]
        clear y0 y1 y2 hVy hsy hb2 hy
        obtain ⟨y0, y1, y2⟩ := HY.out wr hst.out.bel
        have Hres : Hid (out ++ (if cmpF x y = 0 then x :: twoF (xs.drop (i + 1)) (ys.drop (j + 1)) else if cmpF x y < 0 then x :: twoF (xs.drop (i + 1)) (ys.drop j) else y :: twoF (xs.drop i) (ys.drop (j + 1))) = R) := by
          show _ = _
          rw [← hst.out.res]
          congr 1
          rw [hdx, hdy, twoF]
        have Hc := Lib.hid (fun W => Hcmp.out x y vx vy W)
        unfold fcV at Hc
        have x0d : wr.drew.cell? ⟨b1, o1 + i * 3, none⟩ = some (.string x.1) := x0
        have x1d : wr.drew.cell? ⟨b1, o1 + i * 3 + 1, none⟩ = some (.int .u64 (x.2.1 : Int)) := x1
        have x2d : wr.drew.cell? ⟨b1, o1 + i * 3 + 2, none⟩ = some vx := x2
        have y0d : wr.drew.cell? ⟨b2, o2 + j * 3, none⟩ = some (.string y.1) := y0
        have y1d : wr.drew.cell? ⟨b2, o2 + j * 3 + 1, none⟩ = some (.int .u64 (y.2.1 : Int)) := y1
        have y2d : wr.drew.cell? ⟨b2, o2 + j * 3 + 2, none⟩ = some vy := y2
        clear hst hdx hdy Hcmp
        generalize cmpF x y = cv at Hres Hc
        go_upto_region 10 with fail
        go_region_with (go_at_call 22; refine (Hc.out _).mono ?_; rintro e w3 ⟨rfl, h3⟩; have H3 : Hid (Below wr.heap.size wr w3) := (by first | exact h3.below | exact ((Gr.drewN wr 1).trans h3).below); clear h3)
        all_goals
          have HrowU : Hid (RowF w3 w.heap.size (.slice lo out.length co) out (Vb w w.heap.size)) := HrowU.out.below H3.out
          have HbU : Hid (Below w.heap.size w w3) := HbU.out.trans (H3.out.mono HbU.out.size)
          clear x0 x1 x2 y0 y1 y2 x0d x1d x2d y0d y1d y2d
          obtain ⟨x0, x1, x2⟩ := HX.out w3 HbU.out
          obtain ⟨y0, y1, y2⟩ := HY.out w3 HbU.out
          clear H3 Hc
          rcases Int.lt_trichotomy cv 0 with hc | hc | hc
          · have hc1 : cv ≤ 0 := by omega
            have hc2 : ¬ cv = 0 := by omega
            have hc3 : (cv == 0) = false := by rw [beq_eq_false_iff_ne]; exact hc2
            have HR : Hid (out ++ [x] ++ twoF (xs.drop (i + 1)) (ys.drop (j + 0)) = R) := by
              show _ = _
              have := Hres.out
              rw [if_neg (by omega), if_pos hc] at this
              rw [← this, List.append_assoc]; rfl
            clear Hres
            go_wp2_with (at_builtin; go_must (refine app_row1 rfl (.tmp 38) (.tmp 43) rfl x rfl (HrowU.out.below ((Below.refl _ _).alloc (Nat.le_refl _) _)) (RP.one w3 x vx) HVx.out.1 HVx.out.2.1 HVx.out.2.2 1 rfl Hnum.out (Nat.le_trans HbU.out.size (by simp)) ?_); intro v4 w4 r4 g4 _; have H4 : Hid (RowF w4 w.heap.size v4 (out ++ [x]) (Vb w w.heap.size) ∧ Below w.heap.size w w4) := ⟨r4, (HbU.out.alloc HbU.out.size _).trans ((HrowU.out.below ((Below.refl _ _).alloc (Nat.le_refl _) _)).grownB g4 (Nat.le_trans HbU.out.size (by simp)))⟩; clear r4 g4)
            exact ⟨⟨i + 1, j + 0, out ++ [x], by go_num, by go_num, by omega, by omega, ⟨H4.out.1, HR.out, by rw [List.length_append]; show out.length + 1 + _ + _ ≤ _; have := Hlen.out; omega, H4.out.2⟩⟩, by simp [intOf]; omega⟩
          · have hc1 : cv ≤ 0 := by omega
            have HR : Hid (out ++ [x] ++ twoF (xs.drop (i + 1)) (ys.drop (j + 1)) = R) := by
              show _ = _
              have := Hres.out
              rw [if_pos hc] at this
              rw [← this, List.append_assoc]; rfl
            clear Hres
            subst hc
            go_wp2_with (at_builtin; go_must (refine app_row1 rfl (.tmp 38) (.tmp 43) rfl x rfl (HrowU.out.below ((Below.refl _ _).alloc (Nat.le_refl _) _)) (RP.one w3 x vx) HVx.out.1 HVx.out.2.1 HVx.out.2.2 1 rfl Hnum.out (Nat.le_trans HbU.out.size (by simp)) ?_); intro v4 w4 r4 g4 _; have H4 : Hid (RowF w4 w.heap.size v4 (out ++ [x]) (Vb w w.heap.size) ∧ Below w.heap.size w w4) := ⟨r4, (HbU.out.alloc HbU.out.size _).trans ((HrowU.out.below ((Below.refl _ _).alloc (Nat.le_refl _) _)).grownB g4 (Nat.le_trans HbU.out.size (by simp)))⟩; clear r4 g4)
            exact ⟨⟨i + 1, j + 1, out ++ [x], by go_num, by go_num, by omega, by omega, ⟨H4.out.1, HR.out, by rw [List.length_append]; show out.length + 1 + _ + _ ≤ _; have := Hlen.out; omega, H4.out.2⟩⟩, by simp [intOf]; omega⟩
          · have hc1 : ¬ cv ≤ 0 := by omega
            have HR : Hid (out ++ [y] ++ twoF (xs.drop (i + 0)) (ys.drop (j + 1)) = R) := by
              show _ = _
              have := Hres.out
              rw [if_neg (by omega), if_neg (by omega)] at this
              rw [← this, List.append_assoc]; rfl
            clear Hres
            go_wp2_with (at_builtin; go_must (refine app_row1 rfl (.tmp 51) (.tmp 56) rfl y rfl (HrowU.out.below ((Below.refl _ _).alloc (Nat.le_refl _) _)) (RP.one w3 y vy) HVy.out.1 HVy.out.2.1 HVy.out.2.2 1 rfl Hnum.out (Nat.le_trans HbU.out.size (by simp)) ?_); intro v4 w4 r4 g4 _; have H4 : Hid (RowF w4 w.heap.size v4 (out ++ [y]) (Vb w w.heap.size) ∧ Below w.heap.size w w4) := ⟨r4, (HbU.out.alloc HbU.out.size _).trans ((HrowU.out.below ((Below.refl _ _).alloc (Nat.le_refl _) _)).grownB g4 (Nat.le_trans HbU.out.size (by simp)))⟩; clear r4 g4)
            exact ⟨⟨i + 0, j + 1, out ++ [y], by go_num, by go_num, by omega, by omega, ⟨H4.out.1, HR.out, by rw [List.length_append]; show out.length + 1 + _ + _ ≤ _; have := Hlen.out; omega, H4.out.2⟩⟩, by simp [intOf]; omega⟩
      · obtain rfl : j = ny := by omega
        have HR : Hid (out ++ [x] ++ twoF (xs.drop (i + 1)) (ys.drop (j + 0)) = R) := by
          show _ = _
          have := hst.out.res
          have hd : ys.drop j = [] := List.drop_eq_nil_of_le (by rw [← Hny.out]; exact Nat.le_refl _)
          rw [hd, twoF_nil, hdx] at this
          rw [show ys.drop (j + 0) = [] from hd, twoF_nil, ← this, List.append_assoc]; rfl
        clear hst hdx Hcmp
        go_wp2_with (at_builtin; go_must (refine app_row1 rfl (.tmp 38) (.tmp 43) rfl x rfl (HrowU.out.below ((Below.refl _ _).alloc (Nat.le_refl _) _)) (RP.one wr x vx) HVx.out.1 HVx.out.2.1 HVx.out.2.2 1 rfl Hnum.out (Nat.le_trans HbU.out.size (by simp)) ?_); intro v4 w4 r4 g4 _; have H4 : Hid (RowF w4 w.heap.size v4 (out ++ [x]) (Vb w w.heap.size) ∧ Below w.heap.size w w4) := ⟨r4, (HbU.out.alloc HbU.out.size _).trans ((HrowU.out.below ((Below.refl _ _).alloc (Nat.le_refl _) _)).grownB g4 (Nat.le_trans HbU.out.size (by simp)))⟩; clear r4 g4)
        exact ⟨⟨i + 1, j + 0, out ++ [x], by go_num, by go_num, by omega, by omega, ⟨H4.out.1, HR.out, by rw [List.length_append]; show out.length + 1 + _ + _ ≤ _; have := Hlen.out; omega, H4.out.2⟩⟩, by simp [intOf]; omega⟩
    · obtain rfl : i = nx := by omega
      by_cases hj : j < ny
      · have hjj : (j : Int) < (ny : Int) := by omega
        have hje : ¬ (j : Int) = (ny : Int) := by omega
        have hj2 : ((j : Int) == (ny : Int)) = false := by rw [beq_eq_false_iff_ne]; exact hje
        have Hnum : Hid (out.length + 1 ≤ 1099511627776) := by show _ ≤ _; have := Hlen.out; have := HN.out; omega
        obtain ⟨y, hy⟩ := HlenY.out j hj
        obtain ⟨b2, o2, vy, rfl, hb2, y0, y1, y2, hVy, hsy⟩ := HA.out.2.at_ hy
        have HVy : Hid (Vb w w.heap.size vy y.2.2 ∧ y.2.1 < two64 ∧ vy.oneCell' = true) := ⟨hVy, hsy, hVy.one⟩
        have HY : Hid (∀ W, Below w.heap.size w W → W.cell? ⟨b2, o2 + j * 3, none⟩ = some (.string y.1) ∧ W.cell? ⟨b2, o2 + j * 3 + 1, none⟩ = some (.int .u64 (y.2.1 : Int)) ∧ W.cell? ⟨b2, o2 + j * 3 + 2, none⟩ = some vy) := fun W hW => ⟨(hW.cell (p := ⟨b2, o2 + j * 3, none⟩) hb2).trans y0, (hW.cell (p := ⟨b2, o2 + j * 3 + 1, none⟩) hb2).trans y1, (hW.cell (p := ⟨b2, o2 + j * 3 + 2, none⟩) hb2).trans y2⟩
        have hdy : ys.drop j = y :: ys.drop (j + 1) := by
          have h1 := List.getElem?_eq_some_iff.1 hy
          rw [List.drop_eq_getElem_cons h1.1, h1.2]
        clear y0 y1 y2 hVy hsy hb2 hy
        obtain ⟨y0, y1, y2⟩ := HY.out wr hst.out.bel
        have HR : Hid (out ++ [y] ++ twoF (xs.drop (i + 0)) (ys.drop (j + 1)) = R) := by
          show _ = _
          have := hst.out.res
          have hd : xs.drop i = [] := List.drop_eq_nil_of_le (by rw [← Hnx.out]; exact Nat.le_refl _)
          rw [hd, nil_twoF, hdy] at this
          rw [show xs.drop (i + 0) = [] from hd, nil_twoF, ← this, List.append_assoc]; rfl
        clear hst hdy Hcmp
        go_wp2_with (at_builtin; go_must (refine app_row1 rfl (.tmp 51) (.tmp 56) rfl y rfl (HrowU.out.below ((Below.refl _ _).alloc (Nat.le_refl _) _)) (RP.one wr y vy) HVy.out.1 HVy.out.2.1 HVy.out.2.2 1 rfl Hnum.out (Nat.le_trans HbU.out.size (by simp)) ?_); intro v4 w4 r4 g4 _; have H4 : Hid (RowF w4 w.heap.size v4 (out ++ [y]) (Vb w w.heap.size) ∧ Below w.heap.size w w4) := ⟨r4, (HbU.out.alloc HbU.out.size _).trans ((HrowU.out.below ((Below.refl _ _).alloc (Nat.le_refl _) _)).grownB g4 (Nat.le_trans HbU.out.size (by simp)))⟩; clear r4 g4)
        exact ⟨⟨i + 0, j + 1, out ++ [y], by go_num, by go_num, by omega, by omega, ⟨H4.out.1, HR.out, by rw [List.length_append]; show out.length + 1 + _ + _ ≤ _; have := Hlen.out; omega, H4.out.2⟩⟩, by simp [intOf]; omega⟩
      · obtain rfl : j = ny := by omega
        have HR : Hid (out = R) := by
          show _ = _
          have := hst.out.res
          rw [List.drop_eq_nil_of_le (by rw [← Hnx.out]; exact Nat.le_refl _), List.drop_eq_nil_of_le (by rw [← Hny.out]; exact Nat.le_refl _), nil_twoF, List.append_nil] at this
          exact this
        clear hst Hcmp
        go_wp2_with fail
        go_ret
        exact ⟨_, rfl, by rw [← HR.out]; exact HrowU.out, HbU.out⟩
end
end Go.Proofs.YtghcfmkmndldoaaDoor
