/-
  The program's Newest.
-/
import Derived.Test.YtghcfmkmndldoaaEl22
namespace Go.Proofs.Ytghcfmkmndldoaa
open Go.RowKit Go.Sort Go.Lib

section
set_option maxRecDepth 100000
set_option maxHeartbeats 8000000
theorem newest_any (g base : Nat) (l : List Ec) (A : Option Addr) (c : Nat) (fs : List Fc) (w : World) (h : SetAt w base g l) (hr : RF w w.heap.size A fs) (hl : fs.length ≤ 1099511627776) (hvl : ∀ f ∈ fs, f.2.2.length ≤ 1099511627776) :
    Calls Try.prog 27 #[.pointer (some ⟨g, 0, none⟩), .slice A fs.length c] w fun r w' => Below w.heap.size w w' ∧
      ((newF (topE l) fs = none ∧ r = .returned (.tuple #[zeroFV, .bool false])) ∨ ∃ f V, newF (topE l) fs = some f ∧ r = .returned (.tuple #[fcV f V, .bool true]) ∧ Own w' w.heap.size V f.2.2) := by
  obtain ⟨W1, hW1⟩ : ∃ W1, W1 = w.alloc (.cells #[.string ⟨#[]⟩, .int .u64 0, .slice none 0 0] 50) := ⟨_, rfl⟩
  have hb1 : Below w.heap.size w W1 := by rw [hW1]; exact (Below.refl _ _).alloc (Nat.le_refl _) _
  have hC1 : Cells W1 w.heap.size 50 [.string ⟨#[]⟩, .int .u64 0, .slice none 0 0] := by rw [hW1]; exact Cells.new w _ _
  have Hmax : Hid (1 ≤ fs.length → Calls Try.prog 50 #[.slice A fs.length c, .func (.func 51) #[] #[]] W1 fun r w' => ∃ f V, fs[bestI fs fs.length]? = some f ∧ r = .returned (fcV f V) ∧ Vb W1 W1.heap.size V f.2.2 ∧ Below W1.heap.size W1 w') := fun h1 => max_any A c fs W1 (hr.now hb1) hl h1
  have H0 : Hid (SetAt W1 base g l ∧ Below w.heap.size w W1 ∧ Cells W1 w.heap.size 50 [.string ⟨#[]⟩, .int .u64 0, .slice none 0 0]) := ⟨h.below hb1, hb1, hC1⟩
  have Hvl := Lib.hid hvl
  have y0 := hC1.cell (i := 0) rfl
  have y1 := hC1.cell (i := 1) rfl
  have y2 := hC1.cell (i := 2) rfl
  have z0 := hC1.frozen 0
  have z1 := hC1.frozen 1
  have z2 := hC1.frozen 2
  have hl' : (fs.length : Int) ≤ 1099511627776 := by omega
  have Hnf : Hid (∀ f, fs[bestI fs fs.length]? = some f → newF (topE l) fs = if f.2.1 < topE l f.1 then none else some f) := fun f hf => by unfold newF; rw [hf]
  obtain ⟨n, hn⟩ : ∃ n, n = fs.length := ⟨_, rfl⟩
  rw [← hn] at hl' Hmax Hnf ⊢
  have Hn := Lib.hid hn
  clear h hr hb1 hC1 hl hn hvl
  by_cases h0 : n = 0
  · have hne : newF (topE l) fs = none := by
      unfold newF
      have : fs = [] := List.eq_nil_of_length_eq_zero (by have := Hn.out; omega)
      rw [this]
      rfl
    have Hne := Lib.hid hne
    have h0' : ((n : Int) == 0) = true := by simp [h0]
    clear hne h0 Hmax Hnf
    rw [hW1] at y0 y1 y2 z0 z1 z2
    go_enter Try.func27, Try.ntmps27
    go_wp2_with fail
    rw [← hW1] at y0 y1 y2 ⊢
    exact bodyPost_ret (v := .tuple #[.agg #[.string ⟨#[]⟩, .int .u64 0, .slice none 0 0], .bool false]) (by simp [results, Try.results27, go_sem, y0, y1, y2]) rfl ⟨H0.out.2.1, .inl ⟨Hne.out, rfl⟩⟩
  · have h0' : ((n : Int) == 0) = false := by rw [beq_eq_false_iff_ne]; omega
    have Hm2 := Lib.hid (Hmax.out (by omega))
    clear h0 Hmax
    clear y0 y1 y2 z0 z1 z2
    go_enter Try.func27, Try.ntmps27
    go_wp2_with fail
    rw [← hW1]
    refine Hm2.out.mono ?_
    rintro r w2 ⟨f, V, hf, rfl, hV, hb2⟩
    clear Hm2
    obtain ⟨A9, c9, rfl, hV2⟩ := hV
    have hV : Vb W1 W1.heap.size (.slice A9 f.2.2.length c9) f.2.2 := ⟨A9, c9, rfl, hV2⟩
    have hnew := Hnf.out f hf
    have hfl := Hvl.out f (List.mem_of_getElem? hf)
    obtain ⟨W3, hW3⟩ : ∃ W3, W3 = w2.alloc (.cells #[.string f.1, .int .u64 (f.2.1 : Int), .slice A9 f.2.2.length c9] 50) := ⟨_, rfl⟩
    have hb3 : Below W1.heap.size W1 W3 := by rw [hW3]; exact hb2.alloc hb2.size _
    have hC3 : Cells W3 w2.heap.size 50 [.string f.1, .int .u64 (f.2.1 : Int), .slice A9 f.2.2.length c9] := by rw [hW3]; exact Cells.new w2 _ _
    have HH : Hid (Calls Try.prog 20 #[.pointer (some ⟨g, 0, none⟩), .string f.1, .int .u64 (f.2.1 : Int)] W3 fun r w' => r = .returned (.bool (decide (f.2.1 < topE l f.1))) ∧ Below W3.heap.size W3 w') := has_any g base l f.1 f.2.1 W3 (H0.out.1.below hb3)
    have H3 : Hid (Below W1.heap.size W1 W3 ∧ Cells W3 w2.heap.size 50 [.string f.1, .int .u64 (f.2.1 : Int), .slice A9 f.2.2.length c9] ∧ Vb W1 W1.heap.size (.slice A9 f.2.2.length c9) f.2.2 ∧ f.2.2.length ≤ 1099511627776) := ⟨hb3, hC3, hV, hfl⟩
    clear hf hV hV2 hb2 hb3 hC3 hfl Hnf
    unfold fcV
    by_cases hq : f.2.1 < topE l f.1
    · rw [decide_eq_true hq] at HH
      rw [if_pos hq] at hnew
      have Hne := Lib.hid hnew
      clear hq hnew
      go_wp2_with fail
      rw [← hW3]
      refine HH.out.mono ?_
      rintro r w4 ⟨rfl, hb4⟩
      have hC4 : Cells w4 w.heap.size 50 [.string ⟨#[]⟩, .int .u64 0, .slice none 0 0] := (H0.out.2.2.move (H3.out.1.block _ H0.out.2.2.lt)).move (hb4.block _ (Nat.lt_of_lt_of_le H0.out.2.2.lt H3.out.1.size))
      have hbw4 : Below w.heap.size w w4 := H0.out.2.1.trans ((H3.out.1.trans (hb4.mono H3.out.1.size)).mono H0.out.2.1.size)
      have hst := set3F (x' := .string ⟨#[]⟩) (y' := .int .u64 0) (z' := .slice none 0 0) hC4
      have hbel := below_set3 (b := w.heap.size) hbw4 (Nat.le_refl _) (.string ⟨#[]⟩) (.int .u64 0) (.slice none 0 0)
      have v0 := hC4.cell (i := 0) rfl
      have v1 := hC4.cell (i := 1) rfl
      have v2 := hC4.cell (i := 2) rfl
      have t0 := hC4.frozen 0
      have t1 := hC4.frozen 1
      have t2 := hC4.frozen 2
      clear hb4 hbw4 hC4 HH
      go_wp2_with fail
      clear v0 v1 v2 t0 t1 t2
      generalize (((w4.setCell ⟨w.heap.size, 0, none⟩ (.string ⟨#[]⟩)).setCell ⟨w.heap.size, 1, none⟩ (.int .u64 0)).setCell ⟨w.heap.size, 2, none⟩ (.slice none 0 0)) = Wf at hst hbel ⊢
      have q0 := hst.cell (i := 0) rfl
      have q1 := hst.cell (i := 1) rfl
      have q2 := hst.cell (i := 2) rfl
      exact bodyPost_ret (v := .tuple #[.agg #[.string ⟨#[]⟩, .int .u64 0, .slice none 0 0], .bool false]) (by simp [results, Try.results27, go_sem, q0, q1, q2]) rfl ⟨hbel, .inl ⟨Hne.out, rfl⟩⟩
    · rw [decide_eq_false hq] at HH
      rw [if_neg hq] at hnew
      have Hne := Lib.hid hnew
      clear hq hnew
      go_wp2_with fail
      rw [← hW3]
      refine HH.out.mono ?_
      rintro r w4 ⟨rfl, hb4⟩
      have hC4 : Cells w4 w.heap.size 50 [.string ⟨#[]⟩, .int .u64 0, .slice none 0 0] := (H0.out.2.2.move (H3.out.1.block _ H0.out.2.2.lt)).move (hb4.block _ (Nat.lt_of_lt_of_le H0.out.2.2.lt H3.out.1.size))
      have hb14 : Below W1.heap.size W1 w4 := H3.out.1.trans (hb4.mono H3.out.1.size)
      have hbw4 : Below w.heap.size w w4 := H0.out.2.1.trans (hb14.mono H0.out.2.1.size)
      have hN4 := H3.out.2.1.move (hb4.block _ H3.out.2.1.lt)
      have k0 := hN4.cell (i := 0) rfl
      have k1 := hN4.cell (i := 1) rfl
      have k2 := hN4.cell (i := 2) rfl
      have HCp := Lib.hid (ecopied_any f (.slice A9 f.2.2.length c9) w4 ((H3.out.2.2.1.below hb14).wide hb14.size) H3.out.2.2.2)
      have H4 : Hid (Cells w4 w.heap.size 50 [.string ⟨#[]⟩, .int .u64 0, .slice none 0 0] ∧ Below w.heap.size w w4) := ⟨hC4, hbw4⟩
      unfold fcV at HCp
      clear hb4 hb14 hbw4 hC4 hN4 HH
      go_wp2_with fail
      refine HCp.out.mono ?_
      rintro r w5 ⟨V5, rfl, ho5, hb5⟩
      have hC5 := H4.out.1.move (hb5.block _ H4.out.1.lt)
      have hbw5 : Below w.heap.size w w5 := H4.out.2.trans (hb5.mono H4.out.2.size)
      obtain ⟨A5, c5, rfl, hc5, hr5, hA5⟩ := ho5.rb
      have hst := set3F (x' := .string f.1) (y' := .int .u64 (f.2.1 : Int)) (z' := .slice A5 f.2.2.length c5) hC5
      have hbel := below_set3 (b := w.heap.size) hbw5 (Nat.le_refl _) (.string f.1) (.int .u64 (f.2.1 : Int)) (.slice A5 f.2.2.length c5)
      have hty : ∀ j, (Value.slice A5 f.2.2.length c5).ownBlock = some j → j ≠ w.heap.size := fun j hj e => by
        have h1 := (ho5.lt j hj).1
        have h2 := H4.out.1.lt
        omega
      have hof : Own (((w5.setCell ⟨w.heap.size, 0, none⟩ (.string f.1)).setCell ⟨w.heap.size, 1, none⟩ (.int .u64 (f.2.1 : Int))).setCell ⟨w.heap.size, 2, none⟩ (.slice A5 f.2.2.length c5)) w.heap.size (.slice A5 f.2.2.length c5) f.2.2 :=
        (ho5.wide (Nat.le_of_lt H4.out.1.lt)).move fun j hj => ((Below.heap_setCell _ _ _ _ (hty j hj)).trans (Below.heap_setCell _ _ _ _ (hty j hj))).trans (Below.heap_setCell _ _ _ _ (hty j hj))
      have v0 := hC5.cell (i := 0) rfl
      have v1 := hC5.cell (i := 1) rfl
      have v2 := hC5.cell (i := 2) rfl
      have t0 := hC5.frozen 0
      have t1 := hC5.frozen 1
      have t2 := hC5.frozen 2
      clear k0 k1 k2 hb5 hbw5 hC5 HCp ho5 hc5 hr5 hA5 hty
      go_wp2_with fail
      clear v0 v1 v2 t0 t1 t2
      generalize (((w5.setCell ⟨w.heap.size, 0, none⟩ (.string f.1)).setCell ⟨w.heap.size, 1, none⟩ (.int .u64 (f.2.1 : Int))).setCell ⟨w.heap.size, 2, none⟩ (.slice A5 f.2.2.length c5)) = Wf at hst hbel hof ⊢
      have q0 := hst.cell (i := 0) rfl
      have q1 := hst.cell (i := 1) rfl
      have q2 := hst.cell (i := 2) rfl
      exact bodyPost_ret (v := .tuple #[.agg #[.string f.1, .int .u64 (f.2.1 : Int), .slice A5 f.2.2.length c5], .bool true]) (by simp [results, Try.results27, go_sem, q0, q1, q2]) rfl ⟨hbel, .inr ⟨f, _, Hne.out, rfl, hof⟩⟩
end
end Go.Proofs.Ytghcfmkmndldoaa
