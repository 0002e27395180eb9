/-
  The second saying's scale and mix.
-/
import Derived.Test.YtbfbjmngcojaoaaGf30
namespace Go.Proofs.Ytbfbjmngcojaoaa
open Go.RowKit

set_option maxRecDepth 20000
set_option maxHeartbeats 1600000 in
theorem rscale_any (g n c i b c0 m : Nat) (x : UInt8) (M : Mtx) (lo hi : Nat) (w : World) (h : MatO w lo hi (.slice (some ⟨g, 0, none⟩) n c) M) (hn : n = M.length) (hi' : i < n) (hn2 : n ≤ 255) (hr2 : (M.getD i []).length ≤ 255) (q0 : w.cell? ⟨g, i, none⟩ = some (.slice (some ⟨b, 0, none⟩) m c0)) :
    Calls Try.prog 52 #[.slice (some ⟨b, 0, none⟩) m c0, .int .u8 (x.toNat : Int)] w (OpPost w lo hi (.slice (some ⟨g, 0, none⟩) n c) (scaleM M i x)) := by
  obtain ⟨r, hr⟩ : ∃ r, M[i]? = some r := ⟨_, List.getElem?_eq_getElem (by omega)⟩
  have hg := getD_of hr
  obtain ⟨b', c', hrow, _⟩ := h.row hr
  have q9 := hrow.head
  rw [q0] at q9
  have hm : m = r.length := (Value.slice.inj (Option.some.inj q9)).2.1
  have hc : c0 = c' := (Value.slice.inj (Option.some.inj q9)).2.2
  have q1 := hrow.cap
  rw [← hc] at q1
  have Hst : Hid (ScRel w lo hi g n c i b c0 m M r x 0 w) := by
    refine ⟨?_, Out.refl _ _ _, q0⟩
    have e1 : M.set i (scaleP r x 0) = M := by
      have : scaleP r x 0 = r := by simp [scaleP]
      rw [this]
      apply List.ext_getElem?
      intro k
      rw [List.getElem?_set]
      by_cases e : i = k
      · subst e; rw [if_pos rfl, if_pos (by omega), hr]
      · rw [if_neg e]
    rw [e1]
    exact h
  have Hm : Hid (m = r.length ∧ i < M.length ∧ M.set i (scaleP r x m) = scaleM M i x) := ⟨hm, by omega, by unfold scaleM; rw [hg, hm, scaleP_done]⟩
  have hml : (m : Int) ≤ 255 := by rw [hm, ← hg]; omega
  have hi1 : (i : Int) < (n : Int) := by omega
  rw [← hm] at q1
  have q1' : (m : Int) ≤ (c0 : Int) := by omega
  clear h hn hi' hn2 hr2 hr hg hrow hm hc q9 q0
  go_enter Try.func52, Try.ntmps52
  go_wp2_with fail
  go_loopw [4] (fun jv wr => ∃ j : Nat, jv = .int .i64 (j : Int) ∧ j ≤ m ∧ Hid (ScRel w lo hi g n c i b c0 m M r x j wr)) (fun jv _ => m - (intOf jv).toNat)
  case atStart => exact ⟨0, rfl, Nat.zero_le _, Hst.out⟩
  case round =>
    obtain ⟨j, rfl, hj, hrel⟩ := hrel
    by_cases hlt : j < m
    · obtain ⟨y, hy⟩ : ∃ y, r[j]? = some y := ⟨_, List.getElem?_eq_getElem (by rw [← Hm.out.1]; exact hlt)⟩
      obtain ⟨k1, k2, k3, k4⟩ := sc_facts hrel.out Hm.out.2.1 hy
      have k5 := hrel.out.2.2
      have Hn := Lib.hid k4
      have HM : Hid (∀ W, Calls Try.prog 20 #[.int .u8 (y.toNat : Int), .int .u8 (x.toNat : Int)] W fun e w' => e = .returned (.int .u8 ((bm y x).toNat : Int)) ∧ w' = W) := fun W => by
        have := rmul_any y.toNat x.toNat W (u8_lt y) (u8_lt x)
        rw [← bm_nat] at this
        exact this.mono fun _ _ ⟨a, b⟩ => ⟨a, b.symm⟩
      have hlt' : (j : Int) < (m : Int) := by omega
      generalize (bm y x).toNat = z at *
      generalize y.toNat = yn at *
      generalize x.toNat = xn at *
      clear hy k4 hrel hlt
      go_wp2_with fail
      refine (HM.out wr).mono ?_
      rintro e w3 ⟨rfl, rfl⟩
      go_wp2_with fail
      go_roundw
      case rel => exact ⟨j + 1, by go_num, by omega, Hn.out⟩
      case measure => simp [intOf]; omega
    · obtain rfl : j = m := by omega
      have Hd : Hid (MatO wr lo hi (.slice (some ⟨g, 0, none⟩) n c) (scaleM M i x) ∧ Out lo hi w wr) := by
        obtain ⟨h1, h2, _⟩ := hrel.out
        rw [Hm.out.2.2] at h1
        exact ⟨h1, h2⟩
      clear hlt hrel
      go_wp2_with fail
      go_end0
      exact ⟨rfl, Hd.out.1, Hd.out.2⟩

set_option maxHeartbeats 1600000 in
theorem rmix_any (g n c p i b c0 b1 c1 m : Nat) (x : UInt8) (M : Mtx) (lo hi : Nat) (w : World) (h : MatO w lo hi (.slice (some ⟨g, 0, none⟩) n c) M) (hn : n = M.length) (hp : p < n) (hi' : i < n) (hip : p ≠ i) (hn2 : n ≤ 255) (hr2 : (M.getD i []).length ≤ 255) (hrr : (M.getD p []).length = (M.getD i []).length) (q0 : w.cell? ⟨g, p, none⟩ = some (.slice (some ⟨b, 0, none⟩) m c0)) (q2 : w.cell? ⟨g, i, none⟩ = some (.slice (some ⟨b1, 0, none⟩) m c1)) :
    Calls Try.prog 53 #[.slice (some ⟨b, 0, none⟩) m c0, .slice (some ⟨b1, 0, none⟩) m c1, .int .u8 (x.toNat : Int)] w (OpPost w lo hi (.slice (some ⟨g, 0, none⟩) n c) (addM M p i x)) := by
  obtain ⟨r, hr⟩ : ∃ r, M[p]? = some r := ⟨_, List.getElem?_eq_getElem (by omega)⟩
  obtain ⟨o, ho⟩ : ∃ o, M[i]? = some o := ⟨_, List.getElem?_eq_getElem (by omega)⟩
  have hg := getD_of hr
  have hgo := getD_of ho
  obtain ⟨b', c', hrow, _⟩ := h.row hr
  obtain ⟨b1', c1', hrow1, _⟩ := h.row ho
  have q9 := hrow.head
  rw [q0] at q9
  have hm : m = r.length := (Value.slice.inj (Option.some.inj q9)).2.1
  have hc : c0 = c' := (Value.slice.inj (Option.some.inj q9)).2.2
  have q8 := hrow1.head
  rw [q2] at q8
  have hc1 : c1 = c1' := (Value.slice.inj (Option.some.inj q8)).2.2
  have q1 := hrow.cap
  have q3 := hrow1.cap
  rw [hg, hgo] at hrr
  rw [← hrr, ← hm, ← hc1] at q3
  rw [← hm, ← hc] at q1
  have Hst : Hid (AdRel w lo hi g n c p i b c0 b1 c1 m M r o x 0 w) := by
    refine ⟨?_, Out.refl _ _ _, q0, q2⟩
    have e1 : M.set p (addP r o x 0) = M := by
      have : addP r o x 0 = r := by simp [addP]
      rw [this]
      apply List.ext_getElem?
      intro k
      rw [List.getElem?_set]
      by_cases e : p = k
      · subst e; rw [if_pos rfl, if_pos (by omega), hr]
      · rw [if_neg e]
    rw [e1]
    exact h
  have Hm : Hid (m = r.length ∧ p < M.length ∧ p ≠ i ∧ M[i]? = some o ∧ r.length = o.length ∧ M.set p (addP r o x m) = addM M p i x) := ⟨hm, by omega, hip, ho, hrr, by unfold addM; rw [hg, hgo, hm, addP_done r o x hrr]⟩
  have hml : (m : Int) ≤ 255 := by rw [hm, hrr, ← hgo]; omega
  have hi1 : (i : Int) < (n : Int) := by omega
  have hp1 : (p : Int) < (n : Int) := by omega
  have q1' : (m : Int) ≤ (c0 : Int) := by omega
  have q3' : (m : Int) ≤ (c1 : Int) := by omega
  clear h hn hi' hp hip hn2 hr2 hr ho hg hgo hrow hrow1 hrr hm hc hc1 q9 q8 q0
  go_enter Try.func53, Try.ntmps53
  go_wp2_with fail
  clear q2
  go_loopw [6] (fun jv wr => ∃ j : Nat, jv = .int .i64 (j : Int) ∧ j ≤ m ∧ Hid (AdRel w lo hi g n c p i b c0 b1 c1 m M r o x j wr)) (fun jv _ => m - (intOf jv).toNat)
  case atStart => exact ⟨0, rfl, Nat.zero_le _, Hst.out⟩
  case round =>
    obtain ⟨j, rfl, hj, hrel⟩ := hrel
    by_cases hlt : j < m
    · obtain ⟨y, hy⟩ : ∃ y, r[j]? = some y := ⟨_, List.getElem?_eq_getElem (by rw [← Hm.out.1]; exact hlt)⟩
      obtain ⟨z, hz⟩ : ∃ z, o[j]? = some z := ⟨_, List.getElem?_eq_getElem (by rw [← Hm.out.2.2.2.2.1, ← Hm.out.1]; exact hlt)⟩
      obtain ⟨k1, k2, k3, k4, k5⟩ := ad_facts hrel.out Hm.out.2.1 Hm.out.2.2.1 Hm.out.2.2.2.1 Hm.out.2.2.2.2.1 hy hz
      have k6 := hrel.out.2.2.1
      have Hn := Lib.hid k5
      have HM : Hid (∀ W, Calls Try.prog 20 #[.int .u8 (z.toNat : Int), .int .u8 (x.toNat : Int)] W fun e w' => e = .returned (.int .u8 ((bm z x).toNat : Int)) ∧ w' = W) := fun W => by
        have := rmul_any z.toNat x.toNat W (u8_lt z) (u8_lt x)
        rw [← bm_nat] at this
        exact this.mono fun _ _ ⟨a, b⟩ => ⟨a, b.symm⟩
      have hxor : bits .xor .u8 (y.toNat : Int) ((bm z x).toNat : Int) = ((y ^^^ bm z x).toNat : Int) := by rw [bx_nat]; exact u8_xor_nat _ _ (u8_lt y) (u8_lt _)
      have hlt' : (j : Int) < (m : Int) := by omega
      generalize (y ^^^ bm z x).toNat = s2 at *
      generalize (bm z x).toNat = zx at *
      generalize y.toNat = yn at *
      generalize z.toNat = zn at *
      generalize x.toNat = xn at *
      clear hy hz k5 hrel hlt
      go_wp2_with fail
      refine wp_region_still_tail 14 (by kernel_rfl) (by kernel_rfl) ?_
      simp only [List.take_succ_cons, List.take_zero, List.drop_succ_cons, List.drop_zero]
      repeat (first | still_step | still_call (HM.out _))
      try refine wpStill_nil ?_
      change wpList _ _ _ _ _ wr.drew
      go_wp2_with fail
      go_roundw
      case rel => exact ⟨j + 1, by go_num, by omega, Hn.out.drewN 1⟩
      case measure => simp [intOf]; omega
    · obtain rfl : j = m := by omega
      have Hd : Hid (MatO wr lo hi (.slice (some ⟨g, 0, none⟩) n c) (addM M p i x) ∧ Out lo hi w wr) := by
        obtain ⟨h1, h2, _⟩ := hrel.out
        rw [Hm.out.2.2.2.2.2] at h1
        exact ⟨h1, h2⟩
      clear hlt hrel
      go_wp2_with fail
      go_end0
      exact ⟨rfl, Hd.out.1, Hd.out.2⟩
end Go.Proofs.Ytbfbjmngcojaoaa
