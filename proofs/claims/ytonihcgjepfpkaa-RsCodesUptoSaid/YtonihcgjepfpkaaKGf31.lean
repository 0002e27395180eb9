/-
  The second saying's scale and mix.
-/
import Derived.Test.YtonihcgjepfpkaaKGf25
namespace Go.Proofs.Ytonihcgjepfpkaa
open Go.RowKit

set_option maxRecDepth 20000
set_option maxHeartbeats 1600000 in
theorem rscale_any (g n c i b c0 m : Nat) (x : UInt8) (M : Mtx) (lo hi : Nat) (w : World) (h : MatO w lo hi (.slice (some ⟨g, 0, none⟩) n c) M) (hn : n = M.length) (hi' : i < n) (hn2 : n ≤ 255) (hr2 : (M.getD i []).length ≤ 255) (q0 : w.cell? ⟨g, i, none⟩ = some (.slice (some ⟨b, 0, none⟩) m c0)) :
    Calls Try.prog 54 #[.slice (some ⟨b, 0, none⟩) m c0, .int .u8 (x.toNat : Int)] w (OpPost w lo hi (.slice (some ⟨g, 0, none⟩) n c) (scaleM M i x)) := by
  obtain ⟨r, hr⟩ : ∃ r, M[i]? = some r := ⟨_, List.getElem?_eq_getElem (by omega)⟩
  have hg := getD_of hr
  obtain ⟨b', c', hrow, _⟩ := h.row hr
  have q9 := hrow.head
  rw [q0] at q9
  have hm : m = r.length := (Value.slice.inj (Option.some.inj q9)).2.1
  have hc : c0 = c' := (Value.slice.inj (Option.some.inj q9)).2.2
  have q1 := hrow.cap
  rw [← hc] at q1
  have Hst : Hid (ScRel w lo hi g n c i b c0 m M r x 0 w) := by
    refine ⟨?_, Out.refl _ _ _, q0⟩
    have e1 : M.set i (scaleP r x 0) = M := by
      have : scaleP r x 0 = r := by simp [scaleP]
      rw [this]
      apply List.ext_getElem?
      intro k
      rw [List.getElem?_set]
      by_cases e : i = k
      · subst e; rw [if_pos rfl, if_pos (by omega), hr]
      · rw [if_neg e]
    rw [e1]
    exact h
  have Hm : Hid (m = r.length ∧ i < M.length ∧ M.set i (scaleP r x m) = scaleM M i x) := ⟨hm, by omega, by unfold scaleM; rw [hg, hm, scaleP_done]⟩
  have hml : (m : Int) ≤ 255 := by rw [hm, ← hg]; omega
  have hi1 : (i : Int) < (n : Int) := by omega
  rw [← hm] at q1
  have q1' : (m : Int) ≤ (c0 : Int) := by omega
  clear h hn hi' hn2 hr2 hr hg hrow hm hc q9 q0
  go_enter Try.func54, Try.ntmps54
  go_wp2_with fail
  go_loopw [4] (fun jv wr => ∃ j : Nat, jv = .int .i64 (j : Int) ∧ j ≤ m ∧ Hid (ScRel w lo hi g n c i b c0 m M r x j wr)) (fun jv _ => m - (intOf jv).toNat)
  case atStart => exact ⟨0, rfl, Nat.zero_le _, Hst.out⟩
  case round =>
    obtain ⟨j, rfl, hj, hrel⟩ := hrel
    by_cases hlt : j < m
    · obtain ⟨y, hy⟩ : ∃ y, r[j]? = some y := ⟨_, List.getElem?_eq_getElem (by rw [← Hm.out.1]; exact hlt)⟩
      obtain ⟨k1, k2, k3, k4⟩ := sc_facts hrel.out Hm.out.2.1 hy
      have k5 := hrel.out.2.2
      have Hn := Lib.hid k4
      have HM : Hid (∀ W, Calls Try.prog 36 #[.int .u8 (y.toNat : Int), .int .u8 (x.toNat : Int)] W fun e w' => e = .returned (.int .u8 ((bm y x).toNat : Int)) ∧ w' = W) := fun W => by
        have := rmul_any y.toNat x.toNat W (u8_lt y) (u8_lt x)
        rw [← bm_nat] at this
        exact this.mono fun _ _ ⟨a, b⟩ => ⟨a, b.symm⟩
      have hlt' : (j : Int) < (m : Int) := by omega
      generalize (bm y x).toNat = z at *
      generalize y.toNat = yn at *
      generalize x.toNat = xn at *
      clear hy k4 hrel hlt
      go_wp2_with fail
      refine (HM.out wr).mono ?_
      rintro e w3 ⟨rfl, rfl⟩
      go_wp2_with fail
      go_roundw
      case rel => exact ⟨j + 1, by go_num, by omega, Hn.out⟩
      case measure => simp [intOf]; omega
    · obtain rfl : j = m := by omega
      have Hd : Hid (MatO wr lo hi (.slice (some ⟨g, 0, none⟩) n c) (scaleM M i x) ∧ Out lo hi w wr) := by
        obtain ⟨h1, h2, _⟩ := hrel.out
        rw [Hm.out.2.2] at h1
        exact ⟨h1, h2⟩
      clear hlt hrel
      go_wp2_with fail
      go_end0
      exact ⟨rfl, Hd.out.1, Hd.out.2⟩

set_option maxHeartbeats 1600000 in
theorem rmix_any (g n c p i b c0 b1 c1 m : Nat) (x : UInt8) (M : Mtx) (lo hi : Nat) (w : World) (h : MatO w lo hi (.slice (some ⟨g, 0, none⟩) n c) M) (hn : n = M.length) (hp : p < n) (hi' : i < n) (hip : p ≠ i) (hn2 : n ≤ 255) (hr2 : (M.getD i []).length ≤ 255) (hrr : (M.getD p []).length = (M.getD i []).length) (q0 : w.cell? ⟨g, p, none⟩ = some (.slice (some ⟨b, 0, none⟩) m c0)) (q2 : w.cell? ⟨g, i, none⟩ = some (.slice (some ⟨b1, 0, none⟩) m c1)) :
    Calls Try.prog 55 #[.slice (some ⟨b, 0, none⟩) m c0, .slice (some ⟨b1, 0, none⟩) m c1, .int .u8 (x.toNat : Int)] w (OpPost w lo hi (.slice (some ⟨g, 0, none⟩) n c) (addM M p i x)) := by
  obtain ⟨r, hr⟩ : ∃ r, M[p]? = some r := ⟨_, List.getElem?_eq_getElem (by omega)⟩
  obtain ⟨o, ho⟩ : ∃ o, M[i]? = some o := ⟨_, List.getElem?_eq_getElem (by omega)⟩
  have hg := getD_of hr
  have hgo := getD_of ho
  obtain ⟨b', c', hrow, _⟩ := h.row hr
  obtain ⟨b1', c1', hrow1, _⟩ := h.row ho
  have q9 := hrow.head
  rw [q0] at q9
  have hm : m = r.length := (Value.slice.inj (Option.some.inj q9)).2.1
  have hc : c0 = c' := (Value.slice.inj (Option.some.inj q9)).2.2
  have q8 := hrow1.head
  rw [q2] at q8
  have hc1 : c1 = c1' := (Value.slice.inj (Option.some.inj q8)).2.2
  have q1 := hrow.cap
  have q3 := hrow1.cap
  rw [hg, hgo] at hrr
  rw [← hrr, ← hm, ← hc1] at q3
  rw [← hm, ← hc] at q1
  have Hst : Hid (AdRel w lo hi g n c p i b c0 b1 c1 m M r o x 0 w) := by
    refine ⟨?_, Out.refl _ _ _, q0, q2⟩
    have e1 : M.set p (addP r o x 0) = M := by
      have : addP r o x 0 = r := by simp [addP]
      rw [this]
      apply List.ext_getElem?
      intro k
      rw [List.getElem?_set]
      by_cases e : p = k
      · subst e; rw [if_pos rfl, if_pos (by omega), hr]
      · rw [if_neg e]
    rw [e1]
    exact h
  have Hm : Hid (m = r.length ∧ p < M.length ∧ p ≠ i ∧ M[i]? = some o ∧ r.length = o.length ∧ M.set p (addP r o x m) = addM M p i x) := ⟨hm, by omega, hip, ho, hrr, by unfold addM; rw [hg, hgo, hm, addP_done r o x hrr]⟩
  have hml : (m : Int) ≤ 255 := by rw [hm, hrr, ← hgo]; omega
  have hi1 : (i : Int) < (n : Int) := by omega
  have hp1 : (p : Int) < (n : Int) := by omega
  have q1' : (m : Int) ≤ (c0 : Int) := by omega
  have q3' : (m : Int) ≤ (c1 : Int) := by omega
  clear h hn hi' hp hip hn2 hr2 hr ho hg hgo hrow hrow1 hrr hm hc hc1 q9 q8 q0
  go_enter Try.func55, Try.ntmps55
  go_wp2_with fail
  clear q2
  go_loopw [6] (fun jv wr => ∃ j : Nat, jv = .int .i64 (j : Int) ∧ j ≤ m ∧ Hid (AdRel w lo hi g n c p i b c0 b1 c1 m M r o x j wr)) (fun jv _ => m - (intOf jv).toNat)
  case atStart => exact ⟨0, rfl, Nat.zero_le _, Hst.out⟩
  case round =>
    obtain ⟨j, rfl, hj, hrel⟩ := hrel
    by_cases hlt : j < m
    · obtain ⟨y, hy⟩ : ∃ y, r[j]? = some y := ⟨_, List.getElem?_eq_getElem (by rw [← Hm.out.1]; exact hlt)⟩
      obtain ⟨z, hz⟩ : ∃ z, o[j]? = some z := ⟨_, List.getElem?_eq_getElem (by rw [← Hm.out.2.2.2.2.1, ← Hm.out.1]; exact hlt)⟩
      obtain ⟨k1, k2, k3, k4, k5⟩ := ad_facts hrel.out Hm.out.2.1 Hm.out.2.2.1 Hm.out.2.2.2.1 Hm.out.2.2.2.2.1 hy hz
      have k6 := hrel.out.2.2.1
      have Hn := Lib.hid k5
      have HM : Hid (∀ W, Calls Try.prog 36 #[.int .u8 (z.toNat : Int), .int .u8 (x.toNat : Int)] W fun e w' => e = .returned (.int .u8 ((bm z x).toNat : Int)) ∧ w' = W) := fun W => by
        have := rmul_any z.toNat x.toNat W (u8_lt z) (u8_lt x)
        rw [← bm_nat] at this
        exact this.mono fun _ _ ⟨a, b⟩ => ⟨a, b.symm⟩
      have hxor : bits .xor .u8 (y.toNat : Int) ((bm z x).toNat : Int) = ((y ^^^ bm z x).toNat : Int) := by rw [bx_nat]; exact u8_xor_nat _ _ (u8_lt y) (u8_lt _)
      have hlt' : (j : Int) < (m : Int) := by omega
      generalize (y ^^^ bm z x).toNat = s2 at *
      generalize (bm z x).toNat = zx at *
      generalize y.toNat = yn at *
      generalize z.toNat = zn at *
      generalize x.toNat = xn at *
      clear hy hz k5 hrel hlt
      go_wp2_with fail
      refine wp_region_still_tail 14 (by kernel_rfl) (by kernel_rfl) ?_
      simp only [List.take_succ_cons, List.take_zero, List.drop_succ_cons, List.drop_zero]
      repeat (first | still_step | still_call (HM.out _))
      try refine wpStill_nil ?_
      change wpList _ _ _ _ _ wr.drew
      go_wp2_with fail
      go_roundw
      case rel => exact ⟨j + 1, by go_num, by omega, Hn.out.drewN 1⟩
      case measure => simp [intOf]; omega
    · obtain rfl : j = m := by omega
      have Hd : Hid (MatO wr lo hi (.slice (some ⟨g, 0, none⟩) n c) (addM M p i x) ∧ Out lo hi w wr) := by
        obtain ⟨h1, h2, _⟩ := hrel.out
        rw [Hm.out.2.2.2.2.2] at h1
        exact ⟨h1, h2⟩
      clear hlt hrel
      go_wp2_with fail
      go_end0
      exact ⟨rfl, Hd.out.1, Hd.out.2⟩
end Go.Proofs.Ytonihcgjepfpkaa

/-
  What the second saying's Inverse holds: two matrices, one behind the other.
-/
namespace Go.Proofs.Ytonihcgjepfpkaa
open Go.RowKit

set_option maxRecDepth 20000
/-- one more copied row, not empty -/
theorem matO_step {w wr w1 : World} {v rv : Value} {L : Mtx} {l : List UInt8} (h : MatO wr w.heap.size wr.heap.size v L ∧ Below w.heap.size w wr) (h0 : 0 < l.length) (ho : Own w1 wr.heap.size rv l) (hb : Below wr.heap.size wr w1) :
    ∃ rows : List Value, OwnV (w1.alloc (.cells #[rv] 41)) w.heap.size 41 v rows ∧ rows.length = L.length ∧
      ∀ v' w', OwnV w' w.heap.size 41 v' (rows ++ [rv]) → (w1.alloc (.cells #[rv] 41)).grownBy w' v.ownBlock → (v'.ownBlock = v.ownBlock ∨ v'.ownBlock = some (w1.alloc (.cells #[rv] 41)).heap.size) → MatO w' w.heap.size w'.heap.size v' (L ++ [l]) ∧ Below w.heap.size w w' := by
  obtain ⟨h1, h2⟩ := h
  have hs := h2.size
  have hb1 : Below wr.heap.size wr (w1.alloc (.cells #[rv] 41)) := hb.alloc hb.size _
  have ho' : Own (w1.alloc (.cells #[rv] 41)) w.heap.size rv l := (ho.wide hs).move fun g hg => Below.heap_alloc _ _ _ (ho.lt g hg).2
  obtain ⟨rows, r1, r2, r3⟩ := (h1.below hb1).push ho' h0 (fun g hg => (ho.lt g hg).1) hb1.size
  refine ⟨rows, r1, r2, fun v' w' q1 q2 q3 => ⟨r3 v' w' q1 q2 q3, ?_⟩⟩
  exact (h2.trans (hb1.mono hs)).grown q2 (by have := hb1.size; omega) fun g hg => (r1.ge g hg).1
structure Pair2 (w0 : World) (ga ca gb cb n lo1 hi1 lo2 hi2 : Nat) (L R : Mtx) (w : World) : Prop where
  m1 : MatO w lo1 hi1 (.slice (some ⟨ga, 0, none⟩) n ca) L
  m2 : MatO w lo2 hi2 (.slice (some ⟨gb, 0, none⟩) n cb) R
  bel : Below w0.heap.size w0 w
  d1 : Dim L n
  d2 : Dim R n
  o0 : w0.heap.size ≤ lo1
  o1 : hi1 ≤ lo2
  o2 : hi2 ≤ w.heap.size
  o3 : w0.heap.size ≤ lo2
section
variable {w0 w w1 : World} {ga ca gb cb n lo1 hi1 lo2 hi2 : Nat} {L R L' R' : Mtx}
theorem Pair2.drewN (h : Pair2 w0 ga ca gb cb n lo1 hi1 lo2 hi2 L R w) (q : Nat) : Pair2 w0 ga ca gb cb n lo1 hi1 lo2 hi2 L R (w.drewN q) :=
  ⟨h.m1.drewN q, h.m2.drewN q, drewN_below h.bel q, h.d1, h.d2, h.o0, h.o1, h.o2, h.o3⟩
theorem Pair2.left (h : Pair2 w0 ga ca gb cb n lo1 hi1 lo2 hi2 L R w) (hm : MatO w1 lo1 hi1 (.slice (some ⟨ga, 0, none⟩) n ca) L') (ho : Out lo1 hi1 w w1) (hd : Dim L' n) : Pair2 w0 ga ca gb cb n lo1 hi1 lo2 hi2 L' R w1 :=
  ⟨hm, h.m2.out ho (.inl h.o1), h.bel.trans (ho.below h.o0 h.bel.size), hd, h.d2, h.o0, h.o1, Nat.le_trans h.o2 ho.size, h.o3⟩
theorem Pair2.right (h : Pair2 w0 ga ca gb cb n lo1 hi1 lo2 hi2 L R w) (hm : MatO w1 lo2 hi2 (.slice (some ⟨gb, 0, none⟩) n cb) R') (ho : Out lo2 hi2 w w1) (hd : Dim R' n) : Pair2 w0 ga ca gb cb n lo1 hi1 lo2 hi2 L R' w1 :=
  ⟨h.m1.out ho (.inr h.o1), hm, h.bel.trans (ho.below h.o3 h.bel.size), h.d1, hd, h.o0, h.o1, Nat.le_trans h.o2 ho.size, h.o3⟩
theorem Pair2.elem (h : Pair2 w0 ga ca gb cb n lo1 hi1 lo2 hi2 L R w) {i j : Nat} (hi : i < n) (hj : j < n) : ∃ b c, w.cell? ⟨ga, i, none⟩ = some (.slice (some ⟨b, 0, none⟩) n c) ∧ n ≤ c ∧ w.cell? ⟨b, j, none⟩ = some (.int .u8 ((at2 L i j).toNat : Int)) := by
  obtain ⟨q1, q2⟩ := h.d1.get hi
  obtain ⟨b, c, hr, _⟩ := h.m1.row q1
  have e1 := hr.head
  rw [q2] at e1
  have hx : (L.getD i [])[j]? = some (at2 L i j) := by
    unfold at2
    rw [List.getD_eq_getElem?_getD (l := L.getD i [])]
    rw [List.getElem?_eq_getElem (by rw [q2]; exact hj)]; rfl
  exact ⟨b, c, e1, by have := hr.cap; omega, hr.cells j _ hx⟩
theorem Pair2.rowR (h : Pair2 w0 ga ca gb cb n lo1 hi1 lo2 hi2 L R w) {i : Nat} (hi : i < n) : ∃ b c, w.cell? ⟨gb, i, none⟩ = some (.slice (some ⟨b, 0, none⟩) n c) ∧ n ≤ c := by
  obtain ⟨q1, q2⟩ := h.d2.get hi
  obtain ⟨b, c, hr, _⟩ := h.m2.row q1
  have e1 := hr.head
  rw [q2] at e1
  exact ⟨b, c, e1, by have := hr.cap; omega⟩
theorem Pair2.swapL (h : Pair2 w0 ga ca gb cb n lo1 hi1 lo2 hi2 L R w) {i p : Nat} (hi : i < n) (hp : p < n) :
    ∃ bi ci bp cp, w.cell? ⟨ga, i, none⟩ = some (.slice (some ⟨bi, 0, none⟩) n ci) ∧ w.cell? ⟨ga, p, none⟩ = some (.slice (some ⟨bp, 0, none⟩) n cp) ∧ w.frozen? ⟨ga, i, none⟩ = false ∧ w.frozen? ⟨ga, p, none⟩ = false ∧
      (∀ q, Pair2 w0 ga ca gb cb n lo1 hi1 lo2 hi2 (swapM L i p) R (((w.setCell ⟨ga, i, none⟩ (.slice (some ⟨bp, 0, none⟩) n cp)).setCell ⟨ga, p, none⟩ (.slice (some ⟨bi, 0, none⟩) n ci)).drewN q)) ∧
      ∀ q, Pair2 w0 ga ca gb cb n lo1 hi1 lo2 hi2 (swapM L i p) R (((w.setCell ⟨ga, p, none⟩ (.slice (some ⟨bi, 0, none⟩) n ci)).setCell ⟨ga, i, none⟩ (.slice (some ⟨bp, 0, none⟩) n cp)).drewN q) := by
  obtain ⟨ri, rp, q1, q2, q3, q4, q5, q6, ⟨bi, ci, rfl⟩, ⟨bp, cp, rfl⟩, q7, q8⟩ := h.m1.swap (i := i) (p := p) (by rw [h.d1.1]; exact hi) (by rw [h.d1.1]; exact hp)
  rw [(h.d1.get hi).2] at q1 q7 q8
  rw [(h.d1.get hp).2] at q2 q7 q8
  refine ⟨bi, ci, bp, cp, q1, q2, q3, q4, fun q => Pair2.drewN (h.left q7 (((Out.refl lo1 hi1 w).set q5 q6 _).set q5 q6 _) (h.d1.swap hi hp)) q, fun q => Pair2.drewN (h.left q8 (((Out.refl lo1 hi1 w).set q5 q6 _).set q5 q6 _) (h.d1.swap hi hp)) q⟩
theorem Pair2.swapR (h : Pair2 w0 ga ca gb cb n lo1 hi1 lo2 hi2 L R w) {i p : Nat} (hi : i < n) (hp : p < n) :
    ∃ bi ci bp cp, w.cell? ⟨gb, i, none⟩ = some (.slice (some ⟨bi, 0, none⟩) n ci) ∧ w.cell? ⟨gb, p, none⟩ = some (.slice (some ⟨bp, 0, none⟩) n cp) ∧ w.frozen? ⟨gb, i, none⟩ = false ∧ w.frozen? ⟨gb, p, none⟩ = false ∧
      (∀ q, Pair2 w0 ga ca gb cb n lo1 hi1 lo2 hi2 L (swapM R i p) (((w.setCell ⟨gb, i, none⟩ (.slice (some ⟨bp, 0, none⟩) n cp)).setCell ⟨gb, p, none⟩ (.slice (some ⟨bi, 0, none⟩) n ci)).drewN q)) ∧
      ∀ q, Pair2 w0 ga ca gb cb n lo1 hi1 lo2 hi2 L (swapM R i p) (((w.setCell ⟨gb, p, none⟩ (.slice (some ⟨bi, 0, none⟩) n ci)).setCell ⟨gb, i, none⟩ (.slice (some ⟨bp, 0, none⟩) n cp)).drewN q) := by
  obtain ⟨ri, rp, q1, q2, q3, q4, q5, q6, ⟨bi, ci, rfl⟩, ⟨bp, cp, rfl⟩, q7, q8⟩ := h.m2.swap (i := i) (p := p) (by rw [h.d2.1]; exact hi) (by rw [h.d2.1]; exact hp)
  rw [(h.d2.get hi).2] at q1 q7 q8
  rw [(h.d2.get hp).2] at q2 q7 q8
  refine ⟨bi, ci, bp, cp, q1, q2, q3, q4, fun q => Pair2.drewN (h.right q7 (((Out.refl lo2 hi2 w).set q5 q6 _).set q5 q6 _) (h.d2.swap hi hp)) q, fun q => Pair2.drewN (h.right q8 (((Out.refl lo2 hi2 w).set q5 q6 _).set q5 q6 _) (h.d2.swap hi hp)) q⟩
theorem Pair2.scaleL (h : Pair2 w0 ga ca gb cb n lo1 hi1 lo2 hi2 L R w) (hn : n ≤ 255) {i b c : Nat} (hi : i < n) (q0 : w.cell? ⟨ga, i, none⟩ = some (.slice (some ⟨b, 0, none⟩) n c)) (x : UInt8) :
    Calls Try.prog 54 #[.slice (some ⟨b, 0, none⟩) n c, .int .u8 (x.toNat : Int)] w fun e w' => e = .returned (.tuple #[]) ∧ Pair2 w0 ga ca gb cb n lo1 hi1 lo2 hi2 (scaleM L i x) R w' :=
  (rscale_any ga n ca i b c n x L lo1 hi1 w h.m1 h.d1.1.symm hi hn (by rw [(h.d1.get hi).2]; exact hn) q0).mono fun e w' ⟨he, hm, ho⟩ => ⟨he, h.left hm ho (h.d1.scale hi x)⟩
theorem Pair2.scaleR (h : Pair2 w0 ga ca gb cb n lo1 hi1 lo2 hi2 L R w) (hn : n ≤ 255) {i b c : Nat} (hi : i < n) (q0 : w.cell? ⟨gb, i, none⟩ = some (.slice (some ⟨b, 0, none⟩) n c)) (x : UInt8) :
    Calls Try.prog 54 #[.slice (some ⟨b, 0, none⟩) n c, .int .u8 (x.toNat : Int)] w fun e w' => e = .returned (.tuple #[]) ∧ Pair2 w0 ga ca gb cb n lo1 hi1 lo2 hi2 L (scaleM R i x) w' :=
  (rscale_any gb n cb i b c n x R lo2 hi2 w h.m2 h.d2.1.symm hi hn (by rw [(h.d2.get hi).2]; exact hn) q0).mono fun e w' ⟨he, hm, ho⟩ => ⟨he, h.right hm ho (h.d2.scale hi x)⟩
theorem Pair2.mixL (h : Pair2 w0 ga ca gb cb n lo1 hi1 lo2 hi2 L R w) (hn : n ≤ 255) {p i b c b1 c1 : Nat} (hp : p < n) (hi : i < n) (hpi : p ≠ i) (q0 : w.cell? ⟨ga, p, none⟩ = some (.slice (some ⟨b, 0, none⟩) n c)) (q1 : w.cell? ⟨ga, i, none⟩ = some (.slice (some ⟨b1, 0, none⟩) n c1)) (x : UInt8) :
    Calls Try.prog 55 #[.slice (some ⟨b, 0, none⟩) n c, .slice (some ⟨b1, 0, none⟩) n c1, .int .u8 (x.toNat : Int)] w fun e w' => e = .returned (.tuple #[]) ∧ Pair2 w0 ga ca gb cb n lo1 hi1 lo2 hi2 (addM L p i x) R w' :=
  (rmix_any ga n ca p i b c b1 c1 n x L lo1 hi1 w h.m1 h.d1.1.symm hp hi hpi hn (by rw [(h.d1.get hi).2]; exact hn) (by rw [(h.d1.get hp).2, (h.d1.get hi).2]) q0 q1).mono fun e w' ⟨he, hm, ho⟩ => ⟨he, h.left hm ho (h.d1.add hp hi x)⟩
theorem Pair2.mixR (h : Pair2 w0 ga ca gb cb n lo1 hi1 lo2 hi2 L R w) (hn : n ≤ 255) {p i b c b1 c1 : Nat} (hp : p < n) (hi : i < n) (hpi : p ≠ i) (q0 : w.cell? ⟨gb, p, none⟩ = some (.slice (some ⟨b, 0, none⟩) n c)) (q1 : w.cell? ⟨gb, i, none⟩ = some (.slice (some ⟨b1, 0, none⟩) n c1)) (x : UInt8) :
    Calls Try.prog 55 #[.slice (some ⟨b, 0, none⟩) n c, .slice (some ⟨b1, 0, none⟩) n c1, .int .u8 (x.toNat : Int)] w fun e w' => e = .returned (.tuple #[]) ∧ Pair2 w0 ga ca gb cb n lo1 hi1 lo2 hi2 L (addM R p i x) w' :=
  (rmix_any gb n cb p i b c b1 c1 n x R lo2 hi2 w h.m2 h.d2.1.symm hp hi hpi hn (by rw [(h.d2.get hi).2]; exact hn) (by rw [(h.d2.get hp).2, (h.d2.get hi).2]) q0 q1).mono fun e w' ⟨he, hm, ho⟩ => ⟨he, h.right hm ho (h.d2.add hp hi x)⟩
end
theorem addR_zero (r o : List UInt8) (h : r.length = o.length) : addR r o 0 = r := by
  apply List.ext_getElem?
  intro k
  unfold addR
  by_cases hk : k < r.length
  · rw [List.getElem?_zipWith, List.getElem?_eq_getElem hk, List.getElem?_eq_getElem (by omega)]
    simp [bm_zero', bx_zero]
  · rw [List.getElem?_eq_none (by simp; omega), List.getElem?_eq_none (by omega)]
theorem addM_zero {M : Mtx} {n p i : Nat} (hd : Dim M n) (hp : p < n) (hi : i < n) : addM M p i 0 = M := by
  unfold addM
  rw [addR_zero _ _ (by rw [(hd.get hp).2, (hd.get hi).2])]
  apply List.ext_getElem?
  intro k
  rw [List.getElem?_set]
  by_cases e : p = k
  · subst e
    rw [if_pos rfl, if_pos (by rw [hd.1]; exact hp)]
    exact (hd.get hp).1.symm
  · rw [if_neg e]
theorem pivFrom_next (M : Mtx) (i N k : Nat) (hk : k < N) : pivFrom M i (N - k) k = if at2 M k i ≠ 0 then some k else pivFrom M i (N - (k + 1)) (k + 1) := by
  obtain ⟨m, hm⟩ : ∃ m, N - k = m + 1 := ⟨N - k - 1, by omega⟩
  rw [hm, show N - (k + 1) = m by omega]
  rfl
theorem inv_u8 (x : UInt8) (h : x ≠ 0) (w : World) : Calls Try.prog 53 #[.int .u8 (x.toNat : Int)] w fun e w' => e = .returned (.int .u8 ((gib x).toNat : Int)) ∧ w' = w := by
  have := rinv_any x.toNat w (u8_lt x)
  rw [gpow_254 (u8_lt x) (fun e => h (UInt8.toNat_inj.1 e)), ← gib_nat] at this
  exact this.mono fun _ _ ⟨a, b⟩ => ⟨a, b.symm⟩
end Go.Proofs.Ytonihcgjepfpkaa
