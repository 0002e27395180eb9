/-
  slices' choosePivotOrdered at numbers of 64 bits.
-/
import Derived.Test.YtejimgjonhaocaaMeS9
namespace Go.Proofs.Ytejimgjonhaocaa
open Go.RowKit Go.Maps Go.Shelf Go.Lib Go.Sort

/-- some place within, some hint -/
def ChosenP (w0 : World) (g off z : Nat) (d : Array Int) (a b : Nat) (e : Ending) (w' : World) : Prop := ∃ (p : Nat) (h : Int), e = .returned (.tuple #[.int .i64 (p : Int), .int .i64 h]) ∧ (a ≤ p ∧ p < b) ∧ (h = 0 ∨ h = 1 ∨ h = 2) ∧ SR w0 g off z d w'
theorem ChosenP.mk' {w0 : World} {g off z : Nat} {d : Array Int} {a b : Nat} {e : Ending} {w' : World} (p : Nat) (h : Int) (he : e = .returned (.tuple #[.int .i64 (p : Int), .int .i64 h])) (hp : a ≤ p ∧ p < b) (hh : h = 0 ∨ h = 1 ∨ h = 2) (hs : SR w0 g off z d w') : ChosenP w0 g off z d a b e w' := ⟨p, h, he, hp, hh, hs⟩
section
set_option maxRecDepth 100000
set_option maxHeartbeats 4000000
variable {w0 W : World} {g off z cap : Nat} {d0 : Array Int}
theorem choose_any (R : Row1 eU w0 g off d0) (hz : d0.size = z) (hz1 : z ≤ 1000000) (d : Array Int) (a b : Nat) (hab : a + 12 < b) (hb : b ≤ z) (S : SR w0 g off z d W) :
    Calls Try.prog 52 #[.slice (some ⟨g, off, none⟩) z cap, .int .i64 (a : Int), .int .i64 (b : Int)] W (ChosenP w0 g off z d a b) := by
  obtain ⟨l, hl⟩ : ∃ l, b = a + l := ⟨b - a, by omega⟩
  obtain ⟨q, hq⟩ : ∃ q, q = l / 4 := ⟨_, rfl⟩
  have e0 : (b : Int) - (a : Int) = (l : Int) := by omega
  have e1 : (l : Int) / 4 = (q : Int) := by omega
  have hl12 : 12 < l := by omega
  have hlz : a + l ≤ z := by omega
  have hq4 : 4 * q ≤ l ∧ 3 ≤ q := by omega
  have HO := Lib.hid fun W (a b c sb s : Nat) (ha : a < z) (hb : b < z) (hc : c < z) (hs : s ≤ 900) (S : SR w0 g off z d W) (C : CtAt w0 W sb s) => median_any (cap := cap) R hz hz1 d a b c sb s ha hb hc hs S C
  have HA := Lib.hid fun W (a sb s : Nat) (ha : 1 ≤ a) (ha2 : a + 1 < z) (hs : s ≤ 900) (S : SR w0 g off z d W) (C : CtAt w0 W sb s) => adjacent_any (cap := cap) R hz hz1 d a sb s ha ha2 hs S C
  have HS0 : Hid (SR w0 g off z d (W.alloc (.cells #[.int .i64 0] 3)) ∧ CtAt w0 (W.alloc (.cells #[.int .i64 0] 3)) W.heap.size 0) :=
    ⟨⟨S.sw.alloc _, S.sz⟩, S.sw.le, (Cells.new W _ _).cell rfl, (Cells.new W #[.int .i64 0] 3).frozen 0⟩
  have hai : (a : Int) ≤ 1000000 ∧ (b : Int) ≤ 1000000 ∧ (l : Int) ≤ 1000000 ∧ (q : Int) ≤ 1000000 := by omega
  have hl8 : ¬ (l : Int) < 8 := by omega
  have hl8' : (8 : Int) ≤ (l : Int) := by omega
  have Hbl := Lib.hid hl
  clear R hz S hq hl hab hb
  generalize hW1 : W.alloc (.cells #[.int .i64 0] 3) = W1 at *
  by_cases h50 : l < 50
  · have h50i : ¬ (50 : Int) ≤ (l : Int) := by omega
    have HM : Hid (Calls Try.prog 64 #[.slice (some ⟨g, off, none⟩) z cap, .int .i64 ((a : Int) + (q : Int)), .int .i64 ((a : Int) + (q : Int) * 2), .int .i64 ((a : Int) + (q : Int) * 3), .pointer (some ⟨W.heap.size, 0, none⟩)] W1 fun e w' => ∃ x : Nat, e = .returned (.int .i64 (x : Int)) ∧ (x = a + q ∨ x = a + q * 2 ∨ x = a + q * 3) ∧ ∃ s', s' ≤ 0 + 3 ∧ SR w0 g off z d w' ∧ CtAt w0 w' W.heap.size s') := HO.out W1 (a + q) (a + q * 2) (a + q * 3) W.heap.size 0 (by omega) (by omega) (by omega) (by omega) HS0.out.1 HS0.out.2
    clear HO HA HS0
    go_enter Try.func52, Try.ntmps52
    go_wp2_with fail
    clear hW1
    refine HM.out.mono ?_
    rintro e w5 ⟨x5, rfl, hx, s5, hs5', S5, C5⟩
    have hx5 : a ≤ x5 ∧ x5 < b := by have := Hbl.out; omega
    have K5 : Hid (s5 ≤ 3 ∧ SR w0 g off z d w5 ∧ CtAt w0 w5 W.heap.size s5) := ⟨by omega, S5, C5⟩
    clear hx hs5' S5 C5 HM
    have c5 := K5.out.2.2.c
    have hs5 : (s5 : Int) ≤ 1000 := by have := K5.out.1; omega
    by_cases z0 : s5 = 0
    · subst z0
      go_wp2_with fail
      go_ret2
      exact ChosenP.mk' x5 1 rfl hx5 (.inr (.inl rfl)) K5.out.2.1
    · have z1 : ((s5 : Int) == 0) = false := by simp; omega
      have z2 : ¬ (s5 : Int) = 0 := by omega
      have z3 : ¬ s5 = 0 := z0
      by_cases z12 : s5 = 12
      · subst z12
        go_wp2_with fail
        go_ret2
        exact ChosenP.mk' x5 2 rfl hx5 (.inr (.inr rfl)) K5.out.2.1
      · have z4 : ((s5 : Int) == 12) = false := by simp; omega
        have z5 : ¬ (s5 : Int) = 12 := by omega
        go_wp2_with fail
        go_ret2
        exact ChosenP.mk' x5 0 rfl hx5 (.inl rfl) K5.out.2.1
  · have h50i : (50 : Int) ≤ (l : Int) := by omega
    have hq12 : 12 ≤ q := by omega
    have adj := fun Wx i s (hi : 1 ≤ i) (hi2 : i + 1 < z) (hs : s ≤ 900) (S : SR w0 g off z d Wx) (C : CtAt w0 Wx W.heap.size s) => HA.out Wx i W.heap.size s hi hi2 hs S C
    have HA1 : Hid (Calls Try.prog 63 #[.slice (some ⟨g, off, none⟩) z cap, .int .i64 ((a : Int) + (q : Int)), .pointer (some ⟨W.heap.size, 0, none⟩)] W1 fun e w' => ∃ x : Nat, e = .returned (.int .i64 (x : Int)) ∧ (a + q ≤ x + 1 ∧ x ≤ a + q + 1) ∧ ∃ s', s' ≤ 0 + 3 ∧ SR w0 g off z d w' ∧ CtAt w0 w' W.heap.size s') := adj W1 (a + q) 0 (by omega) (by omega) (by omega) HS0.out.1 HS0.out.2
    have HA2 : Hid (∀ Wx s, s ≤ 900 → SR w0 g off z d Wx → CtAt w0 Wx W.heap.size s → Calls Try.prog 63 #[.slice (some ⟨g, off, none⟩) z cap, .int .i64 ((a : Int) + (q : Int) * 2), .pointer (some ⟨W.heap.size, 0, none⟩)] Wx fun e w' => ∃ x : Nat, e = .returned (.int .i64 (x : Int)) ∧ (a + q * 2 ≤ x + 1 ∧ x ≤ a + q * 2 + 1) ∧ ∃ s', s' ≤ s + 3 ∧ SR w0 g off z d w' ∧ CtAt w0 w' W.heap.size s') := fun Wx s h1 h2 h3 => adj Wx (a + q * 2) s (by omega) (by omega) h1 h2 h3
    have HA3 : Hid (∀ Wx s, s ≤ 900 → SR w0 g off z d Wx → CtAt w0 Wx W.heap.size s → Calls Try.prog 63 #[.slice (some ⟨g, off, none⟩) z cap, .int .i64 ((a : Int) + (q : Int) * 3), .pointer (some ⟨W.heap.size, 0, none⟩)] Wx fun e w' => ∃ x : Nat, e = .returned (.int .i64 (x : Int)) ∧ (a + q * 3 ≤ x + 1 ∧ x ≤ a + q * 3 + 1) ∧ ∃ s', s' ≤ s + 3 ∧ SR w0 g off z d w' ∧ CtAt w0 w' W.heap.size s') := fun Wx s h1 h2 h3 => adj Wx (a + q * 3) s (by omega) (by omega) h1 h2 h3
    clear HA HS0 adj
    go_enter Try.func52, Try.ntmps52
    go_wp2_with fail
    clear hW1
    refine HA1.out.mono ?_
    rintro e w2 ⟨i2, rfl, hi2, s2, hs2, S2, C2⟩
    have HB2 := Lib.hid (HA2.out w2 s2 (by omega) S2 C2)
    have X2 : Hid ((a + q ≤ i2 + 1 ∧ i2 ≤ a + q + 1) ∧ s2 ≤ 3) := ⟨hi2, by omega⟩
    clear hi2 hs2 S2 C2 HA1 HA2
    go_wp2_with fail
    refine HB2.out.mono ?_
    rintro e w3 ⟨i3, rfl, hi3, s3, hs3, S3, C3⟩
    have HB3 := Lib.hid (HA3.out w3 s3 (by have := X2.out; omega) S3 C3)
    have X3 : Hid ((a + q * 2 ≤ i3 + 1 ∧ i3 ≤ a + q * 2 + 1) ∧ s3 ≤ 6) := ⟨hi3, by have := X2.out; omega⟩
    clear hi3 hs3 S3 C3 HB2 HA3
    go_wp2_with fail
    refine HB3.out.mono ?_
    rintro e w4 ⟨i4, rfl, hi4, s4, hs4, S4, C4⟩
    have HM := Lib.hid (HO.out w4 i2 i3 i4 W.heap.size s4 (by have := X2.out; omega) (by have := X3.out; omega) (by omega) (by have := X3.out; omega) S4 C4)
    have X4 : Hid ((a + q * 3 ≤ i4 + 1 ∧ i4 ≤ a + q * 3 + 1) ∧ s4 ≤ 9) := ⟨hi4, by have := X3.out; omega⟩
    clear hi4 hs4 S4 C4 HB3 HO
    go_wp2_with fail
    refine HM.out.mono ?_
    rintro e w5 ⟨x5, rfl, hx, s5, hs5', S5, C5⟩
    have hx5 : a ≤ x5 ∧ x5 < b := by have := Hbl.out; have := X2.out; have := X3.out; have := X4.out; omega
    have K5 : Hid (s5 ≤ 12 ∧ SR w0 g off z d w5 ∧ CtAt w0 w5 W.heap.size s5) := ⟨by have := X4.out; omega, S5, C5⟩
    clear hx hs5' S5 C5 HM
    have c5 := K5.out.2.2.c
    have hs5 : (s5 : Int) ≤ 1000 := by have := K5.out.1; omega
    by_cases z0 : s5 = 0
    · subst z0
      go_wp2_with fail
      go_ret2
      exact ChosenP.mk' x5 1 rfl hx5 (.inr (.inl rfl)) K5.out.2.1
    · have z1 : ((s5 : Int) == 0) = false := by simp; omega
      have z2 : ¬ (s5 : Int) = 0 := by omega
      have z3 : ¬ s5 = 0 := z0
      by_cases z12 : s5 = 12
      · subst z12
        go_wp2_with fail
        go_ret2
        exact ChosenP.mk' x5 2 rfl hx5 (.inr (.inr rfl)) K5.out.2.1
      · have z4 : ((s5 : Int) == 12) = false := by simp; omega
        have z5 : ¬ (s5 : Int) = 12 := by omega
        go_wp2_with fail
        go_ret2
        exact ChosenP.mk' x5 0 rfl hx5 (.inl rfl) K5.out.2.1
end
end Go.Proofs.Ytejimgjonhaocaa
