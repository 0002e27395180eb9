/-
  slices' order2Ordered, medianOrdered, medianAdjacentOrdered, choosePivotOrdered at numbers of 64 bits: some place within, some hint.
-/
import Derived.Test.YtejimgjonhaocaaMeS8
namespace Go.Proofs.Ytejimgjonhaocaa
open Go.RowKit Go.Maps Go.Shelf Go.Lib Go.Sort

/-- a counter in a block of its own -/
structure CtAt (w0 W : World) (sb s : Nat) : Prop where
  hb : w0.heap.size ≤ sb
  c : W.cell? ⟨sb, 0, none⟩ = some (.int .i64 (s : Int))
  f : W.frozen? ⟨sb, 0, none⟩ = false
section
set_option maxRecDepth 100000
set_option maxHeartbeats 4000000
variable {w0 W : World} {g off z cap : Nat} {d0 : Array Int}
theorem CtAt.drewN {sb s : Nat} (h : CtAt w0 W sb s) (n : Nat) : CtAt w0 (W.drewN n) sb s := ⟨h.hb, h.c, h.f⟩
theorem order2_any (R : Row1 eU w0 g off d0) (hz : d0.size = z) (hz1 : z ≤ 1000000) (d : Array Int) (a b sb s : Nat) (ha : a < z) (hb : b < z) (hs : s ≤ 1000) (S : SR w0 g off z d W) (C : CtAt w0 W sb s) :
    Calls Try.prog 66 #[.slice (some ⟨g, off, none⟩) z cap, .int .i64 (a : Int), .int .i64 (b : Int), .pointer (some ⟨sb, 0, none⟩)] W fun e w' => ∃ x y : Nat, e = .returned (.tuple #[.int .i64 (x : Int), .int .i64 (y : Int)]) ∧ ((x = a ∧ y = b) ∨ (x = b ∧ y = a)) ∧ ∃ s', s' ≤ s + 1 ∧ SR w0 g off z d w' ∧ CtAt w0 w' sb s' := by
  have HS := Lib.hid S
  have HC := Lib.hid C
  have q0 := S.cell R hz hb
  have q1 := S.cell R hz ha
  obtain ⟨x, hx⟩ : ∃ x, x = d[b]! := ⟨_, rfl⟩
  obtain ⟨y, hy⟩ : ∃ y, y = d[a]! := ⟨_, rfl⟩
  rw [← hx] at q0
  rw [← hy] at q1
  have hai : (a : Int) < (z : Int) := by omega
  have hbi : (b : Int) < (z : Int) := by omega
  have hsi : (s : Int) ≤ 1000 := by omega
  have HLc := Lib.hid fun w => less_any x y w
  clear R hz S C hx hy
  cases hl : ltInt x y with
  | true =>
    rw [hl] at HLc
    have c0 := HC.out.c
    have f0 := HC.out.f
    go_enter Try.func66, Try.ntmps66
    go_wp2_with fail
    go_quiet ((go_at_call 55; exact Calls.quiet_of_same (HLc.out _)))
    have HS2 : Hid (SR w0 g off z d (W.drewN nq)) := HS.out.drewN nq
    have HC2 : Hid (CtAt w0 (W.drewN nq) sb s) := HC.out.drewN nq
    clear c0 f0 q0 q1 HS HC
    generalize W.drewN nq = w1 at *
    have c0 := HC2.out.c
    have f0 := HC2.out.f
    go_wp2_with fail
    go_ret2
    refine ⟨b, a, rfl, .inr ⟨rfl, rfl⟩, s + 1, Nat.le_refl _, ?_, ?_⟩
    · exact ⟨HS2.out.sw.setCell_new _ _ _ HC2.out.hb, HS2.out.sz⟩
    · exact ⟨HC2.out.hb, by rw [World.cell?_setCell_same _ _ _ c0]; rfl, by rw [World.frozen?_setCell]; exact f0⟩
  | false =>
    rw [hl] at HLc
    go_enter Try.func66, Try.ntmps66
    go_wp2_with fail
    go_quiet ((go_at_call 55; exact Calls.quiet_of_same (HLc.out _)))
    go_wp2_with fail
    go_ret2
    exact ⟨a, b, rfl, .inl ⟨rfl, rfl⟩, s, Nat.le_succ _, HS.out.drewN nq, HC.out.drewN nq⟩
theorem median_any (R : Row1 eU w0 g off d0) (hz : d0.size = z) (hz1 : z ≤ 1000000) (d : Array Int) (a b c sb s : Nat) (ha : a < z) (hb : b < z) (hc : c < z) (hs : s ≤ 900) (S : SR w0 g off z d W) (C : CtAt w0 W sb s) :
    Calls Try.prog 64 #[.slice (some ⟨g, off, none⟩) z cap, .int .i64 (a : Int), .int .i64 (b : Int), .int .i64 (c : Int), .pointer (some ⟨sb, 0, none⟩)] W fun e w' => ∃ x : Nat, e = .returned (.int .i64 (x : Int)) ∧ (x = a ∨ x = b ∨ x = c) ∧ ∃ s', s' ≤ s + 3 ∧ SR w0 g off z d w' ∧ CtAt w0 w' sb s' := by
  have HO := Lib.hid fun W (a b s : Nat) (ha : a < z) (hb : b < z) (hs : s ≤ 1000) (S : SR w0 g off z d W) (C : CtAt w0 W sb s) => order2_any (cap := cap) R hz hz1 d a b sb s ha hb hs S C
  have H1 := Lib.hid (HO.out W a b s ha hb (by omega) S C)
  clear R hz S C
  go_enter Try.func64, Try.ntmps64
  go_wp2_with fail
  refine H1.out.mono ?_
  rintro e w1 ⟨x1, y1, rfl, hxy1, s1, hs1, S1, C1⟩
  have K1 : Hid ((x1 < z ∧ y1 < z) ∧ ((x1 = a ∧ y1 = b) ∨ (x1 = b ∧ y1 = a)) ∧ s1 ≤ s + 1) := ⟨by omega, hxy1, hs1⟩
  have H2 := Lib.hid (HO.out w1 y1 c s1 K1.out.1.2 hc (by omega) S1 C1)
  clear H1 hxy1 hs1 S1 C1
  go_wp2_with fail
  refine H2.out.mono ?_
  rintro e w2 ⟨x2, y2, rfl, hxy2, s2, hs2, S2, C2⟩
  have K2 : Hid ((x2 < z ∧ y2 < z) ∧ ((x2 = y1 ∧ y2 = c) ∨ (x2 = c ∧ y2 = y1)) ∧ s2 ≤ s1 + 1) := ⟨by have := K1.out; omega, hxy2, hs2⟩
  have H3 := Lib.hid (HO.out w2 x1 x2 s2 K1.out.1.1 K2.out.1.1 (by have := K1.out; omega) S2 C2)
  clear H2 hxy2 hs2 S2 C2
  go_wp2_with fail
  refine H3.out.mono ?_
  rintro e w3 ⟨x3, y3, rfl, hxy3, s3, hs3, S3, C3⟩
  have K3 : Hid ((y3 = a ∨ y3 = b ∨ y3 = c) ∧ s3 ≤ s + 3 ∧ SR w0 g off z d w3 ∧ CtAt w0 w3 sb s3) := by
    have k1 := K1.out
    have k2 := K2.out
    exact ⟨by omega, by omega, S3, C3⟩
  clear H3 hxy3 hs3 S3 C3
  go_wp2_with fail
  go_ret
  exact ⟨y3, rfl, K3.out.1, s3, K3.out.2⟩
theorem adjacent_any (R : Row1 eU w0 g off d0) (hz : d0.size = z) (hz1 : z ≤ 1000000) (d : Array Int) (a sb s : Nat) (ha : 1 ≤ a) (ha2 : a + 1 < z) (hs : s ≤ 900) (S : SR w0 g off z d W) (C : CtAt w0 W sb s) :
    Calls Try.prog 63 #[.slice (some ⟨g, off, none⟩) z cap, .int .i64 (a : Int), .pointer (some ⟨sb, 0, none⟩)] W fun e w' => ∃ x : Nat, e = .returned (.int .i64 (x : Int)) ∧ (a ≤ x + 1 ∧ x ≤ a + 1) ∧ ∃ s', s' ≤ s + 3 ∧ SR w0 g off z d w' ∧ CtAt w0 w' sb s' := by
  obtain ⟨a, rfl⟩ : ∃ k, a = k + 1 := ⟨a - 1, by omega⟩
  have HM := median_any (cap := cap) R hz hz1 d a (a + 1) (a + 1 + 1) sb s (by omega) (by omega) (by omega) hs S C
  have HM2 : Hid (Calls Try.prog 64 #[.slice (some ⟨g, off, none⟩) z cap, .int .i64 (a : Int), .int .i64 ((a : Int) + 1), .int .i64 ((a : Int) + 1 + 1), .pointer (some ⟨sb, 0, none⟩)] W fun e w' => ∃ x : Nat, e = .returned (.int .i64 (x : Int)) ∧ (x = a ∨ x = a + 1 ∨ x = a + 1 + 1) ∧ ∃ s', s' ≤ s + 3 ∧ SR w0 g off z d w' ∧ CtAt w0 w' sb s') := HM
  have hai : (a : Int) + 1 + 1 ≤ 1000000 := by omega
  clear R hz S C HM
  go_enter Try.func63, Try.ntmps63
  go_wp2_with fail
  refine HM2.out.mono ?_
  rintro e w1 ⟨x, rfl, hx, s1, hs1, S1, C1⟩
  go_wp2_with fail
  go_ret
  exact ⟨x, rfl, by omega, s1, hs1, S1, C1⟩
end
end Go.Proofs.Ytejimgjonhaocaa
