/-
  The law's known: the chapter's example.
-/
import Derived.Test.YtghcfmkmndldoaaEl13
namespace Go.Proofs.Ytghcfmkmndldoaa
open Go.RowKit Go.Sort Go.Lib

theorem ex_d : topE exP kD = 10 := by
  unfold exP kA kC kD kF kM
  simp only [topE, covE, list_of_array]
  decide
theorem ex_m : topE exP kM = 0 := by
  unfold exP kA kC kF kM
  simp only [topE, covE, list_of_array]
  decide
theorem ex_ok : okAll exE = true := by
  obtain ⟨_, h2, _, _, _, h6⟩ := ex_lt
  refine okAll_iff.2 fun e he => ?_
  unfold exE at he
  simp only [List.mem_cons, List.not_mem_nil, or_false] at he
  rcases he with rfl | rfl
  · exact h6
  · exact h2
section
set_option maxRecDepth 100000
set_option maxHeartbeats 4000000
theorem known_any (w : World) : Calls Try.prog 7 #[] w fun r w' => r = .returned (.bool true) ∧ Below w.heap.size w w' := by
  obtain ⟨W1, hW1⟩ : ∃ W1, W1 = w.alloc (.cells #[.string ⟨#[97]⟩, .string ⟨#[109]⟩, .int .u64 5, .string ⟨#[99]⟩, .string ⟨#[102]⟩, .int .u64 9] 32) := ⟨_, rfl⟩
  have hb1 : Below w.heap.size w W1 := by rw [hW1]; exact (Below.refl _ _).alloc (Nat.le_refl _) _
  have hC : Cells W1 w.heap.size 32 [.string ⟨#[97]⟩, .string ⟨#[109]⟩, .int .u64 5, .string ⟨#[99]⟩, .string ⟨#[102]⟩, .int .u64 9] := by rw [hW1]; exact Cells.new w _ _
  have hR : RE W1 W1.heap.size (some ⟨w.heap.size, 0, none⟩) exE := by
    intro k p hk
    have hk2 : k < 2 := (List.getElem?_eq_some_iff.1 hk).1
    rcases (by omega : k = 0 ∨ k = 1) with rfl | rfl
    · cases hk
      exact ⟨_, 0, rfl, hC.lt, hC.cell (i := 0) rfl, hC.cell (i := 1) rfl, hC.cell (i := 2) rfl⟩
    · cases hk
      exact ⟨_, 0, rfl, hC.lt, hC.cell (i := 3) rfl, hC.cell (i := 4) rfl, hC.cell (i := 5) rfl⟩
  have HN : Hid (Calls Try.prog 10 #[.slice (some ⟨w.heap.size, 0, none⟩) 2 2] W1 fun r w' => ∃ g, r = .returned (.tuple #[.pointer (some ⟨g, 0, none⟩), .int .i64 0]) ∧ Hid (SetAt w' W1.heap.size g exP ∧ Below w.heap.size w w')) := by
    refine (new_any (some ⟨w.heap.size, 0, none⟩) 2 exE W1 hR (by decide) (by decide)).mono ?_
    rintro r w' ⟨hb, ⟨_, g, out, rfl, hs, ht, _⟩ | ⟨hno, _⟩⟩
    · have e : out = exP := plain_ext hs.plain ex_plain fun j => by rw [ht, ex_top]
      subst e
      exact ⟨g, rfl, hs, hb1.trans (hb.mono hb1.size)⟩
    · rw [ex_ok] at hno; cases hno
  have HH : Hid (∀ (g base : Nat) (W0 W : World), SetAt W0 base g exP → Below W0.heap.size W0 W → Calls Try.prog 20 #[.pointer (some ⟨g, 0, none⟩), .string ⟨#[100]⟩, .int .u64 9] W fun r w' => r = .returned (.bool true) ∧ Below W0.heap.size W0 w') := fun g base W0 W h hW => by
    have := has_any g base exP kD 9 W (h.below hW)
    rw [ex_d] at this
    refine this.mono ?_
    rintro r w' ⟨rfl, hb⟩
    exact ⟨rfl, hW.trans (hb.mono hW.size)⟩
  have HH2 : Hid (∀ (g base : Nat) (W0 W : World), SetAt W0 base g exP → Below W0.heap.size W0 W → Calls Try.prog 20 #[.pointer (some ⟨g, 0, none⟩), .string ⟨#[100]⟩, .int .u64 10] W fun r w' => r = .returned (.bool false) ∧ Below W0.heap.size W0 w') := fun g base W0 W h hW => by
    have := has_any g base exP kD 10 W (h.below hW)
    rw [ex_d] at this
    refine this.mono ?_
    rintro r w' ⟨rfl, hb⟩
    exact ⟨rfl, hW.trans (hb.mono hW.size)⟩
  have HH3 : Hid (∀ (g base : Nat) (W0 W : World), SetAt W0 base g exP → Below W0.heap.size W0 W → Calls Try.prog 20 #[.pointer (some ⟨g, 0, none⟩), .string ⟨#[109]⟩, .int .u64 1] W fun r w' => r = .returned (.bool false) ∧ Below W0.heap.size W0 w') := fun g base W0 W h hW => by
    have := has_any g base exP kM 1 W (h.below hW)
    rw [ex_m] at this
    refine this.mono ?_
    rintro r w' ⟨rfl, hb⟩
    exact ⟨rfl, hW.trans (hb.mono hW.size)⟩
  clear hb1 hC hR
  go_enter Try.func7, Try.ntmps7
  go_wp2_with fail
  rw [← hW1]
  clear hW1
  refine HN.out.mono ?_
  rintro r w2 ⟨g, rfl, H2⟩
  have HL := Lib.hid (list_any g W1.heap.size exP w2 H2.out.1)
  clear HN
  go_wp2_with fail
  refine HL.out.mono ?_
  rintro r w3 ⟨v, rfl, ho, hb3⟩
  obtain ⟨A, c, rfl, hc, _, hr, _, hfl⟩ := ho.rd
  obtain ⟨b, o, rfl, _, x0, x1, x2⟩ := hr 1 (kC, kF, 9) rfl
  obtain ⟨b', o', e', _, y0, y1, y2⟩ := hr 2 (kF, kM, 5) rfl
  cases e'
  obtain ⟨b', eb, _⟩ := hfl _ rfl
  cases eb
  have hq1 := fun W => eqlE_any (kC, kF, 9) (kC, kF, 9) W
  have hq2 := fun W => eqlE_any (kF, kM, 5) (kF, kM, 5) W
  rw [decide_eq_true rfl] at hq1 hq2
  have H3 : Hid (SetAt w3 W1.heap.size g exP ∧ Below w.heap.size w w3) := ⟨H2.out.1.below hb3, H2.out.2.trans (hb3.mono H2.out.2.size)⟩
  have HA := Lib.hid (HH.out g W1.heap.size w3 w3 H3.out.1 (Below.refl _ _))
  unfold eV at hq1 hq2
  unfold kC kF at hq1
  unfold kF kM at hq2
  dsimp only at hq1 hq2 x0 x1 x2 y0 y1 y2
  unfold kC at x0
  unfold kF at x1 y0
  unfold kM at y1
  clear ho hb3 hr hfl HL H2 hc HH
  rw [show exP.length = 3 from rfl]
  go_wp2_with fail
  refine HA.out.mono ?_
  rintro r w4 ⟨rfl, hb4⟩
  have HB := Lib.hid (HH2.out g W1.heap.size w3 w4 H3.out.1 hb4)
  clear hb4 HA HH2
  go_wp2_with fail
  refine HB.out.mono ?_
  rintro r w5 ⟨rfl, hb5⟩
  have HD := Lib.hid (HH3.out g W1.heap.size w3 w5 H3.out.1 hb5)
  clear hb5 HB HH3
  go_wp2_with fail
  refine HD.out.mono ?_
  rintro r w6 ⟨rfl, hb6⟩
  have H6 : Hid (Below w.heap.size w w6) := H3.out.2.trans (hb6.mono H3.out.2.size)
  clear hb6 HD H3
  go_wp2_with fail
  go_ret
  exact ⟨rfl, H6.out⟩
end
end Go.Proofs.Ytghcfmkmndldoaa
