/-
  ElideAdds: the walk.
-/
import Derived.Test.YtghcfmkmndldoaaEl39
import Derived.Test.YtghcfmkmndldoaaEl14
import Derived.Test.YtghcfmkmndldoaaEl13
namespace Go.Proofs.Ytghcfmkmndldoaa
open Go.RowKit Go.Sort Go.Lib

/-- what is elided behind an Add -/
theorem has_add (t u s : Nat) (cov : Bool) : decide (s < max t (if cov = true then u + 1 else 0)) = (decide (s < t) || (cov && decide (s ≤ u))) := by
  cases cov
  · simp
  · simp only [if_true, Bool.true_and]
    by_cases h : s < t <;> by_cases h2 : s ≤ u <;> simp [h, h2] <;> omega
theorem cov_form (e : Ec) (k : ByteArray) : covE e k = (leB e.1 k && Op.bytesLess k.toList e.2.1.toList) := rfl
section
set_option maxRecDepth 100000
set_option maxHeartbeats 16000000
theorem adds_any (A : Option Addr) (c : Nat) (es : List Ec) (e : Ec) (k : ByteArray) (s : Nat) (w : World) (hr : RE w w.heap.size A es) (hc : es.length ≤ c) (hl : es.length ≤ 1099511627776) (hs : sumE es ≤ 4611686018427387904) (hs2 : sumE [e] ≤ 4611686018427387904) (hk : k.size ≤ maxLen) :
    Calls Try.prog 6 #[.slice A es.length c, eV e, .string k, .int .u64 (s : Int)] w fun r w' => r = .returned (.bool true) ∧ Below w.heap.size w w' := by
  obtain ⟨W0, hW0⟩ : ∃ W0, W0 = w.alloc (.cells #[.string e.1, .string e.2.1, .int .u64 (e.2.2 : Int)] 32) := ⟨_, rfl⟩
  have hb0 : Below w.heap.size w W0 := by rw [hW0]; exact (Below.refl _ _).alloc (Nat.le_refl _) _
  have hC0 : Cells W0 w.heap.size 32 (cellE e) := by rw [hW0]; exact Cells.new w _ _
  have HK := Lib.hid (known_any W0)
  have HF : Hid (∀ W, Below w.heap.size w W → Calls Try.prog 8 #[.slice A es.length c] W fun r w' => r = .returned (.bool (decide (es.length ≤ 120) && decide (sumE es ≤ 16384))) ∧ Below W.heap.size W w') := fun W hW => fewE_any A c es W hl hs (hr.now hW)
  have HF2 : Hid (∀ W b, RE W W.heap.size (some ⟨b, 0, none⟩) [e] → Calls Try.prog 8 #[.slice (some ⟨b, 0, none⟩) 1 1] W fun r w' => ∃ q, r = .returned (.bool q) ∧ Below W.heap.size W w') := fun W b hR => (fewE_any (some ⟨b, 0, none⟩) 1 [e] W (by simp) hs2 hR).mono fun r w' ⟨h1, h2⟩ => ⟨_, h1, h2⟩
  obtain ⟨n, hn⟩ : ∃ n, n = es.length := ⟨_, rfl⟩
  have HN : Hid (n ≤ 120 → ∀ W, Below w.heap.size w W → Calls Try.prog 10 #[.slice A n c] W fun r w' => Below W.heap.size W w' ∧ ((∃ g out, r = .returned (.tuple #[.pointer (some ⟨g, 0, none⟩), .int .i64 0]) ∧ SetAt w' W.heap.size g out ∧ out.length ≤ 1000000000) ∨ r = .returned (.tuple #[.pointer none, .int .i64 1]))) := fun h120 W hW => by
    rw [hn]
    refine (new_any A c es W (hr.now hW) hc (by omega)).mono ?_
    rintro r w' ⟨hb, ⟨h1, g, out, rfl, h2, h3, h4⟩ | ⟨h, rfl⟩⟩
    · have hq : es.length * es.length ≤ 120 * 120 := Nat.mul_le_mul (by omega) (by omega)
      exact ⟨hb, .inl ⟨g, out, rfl, h2, by omega⟩⟩
    · exact ⟨hb, .inr rfl⟩
  have hl' : (n : Int) ≤ 1099511627776 := by omega
  have H0 : Hid (Below w.heap.size w W0 ∧ Cells W0 w.heap.size 32 (cellE e)) := ⟨hb0, hC0⟩
  have HCk := Lib.hid (fun W => check_any e W)
  rw [← hn] at HF ⊢
  generalize hqq : (decide (n ≤ 120) && decide (sumE es ≤ 16384)) = q at HF
  have Hq := Lib.hid hqq
  have hks : (k.size : Int) ≤ 9223372036854775807 := by simp only [maxLen] at hk; omega
  unfold eV at HCk ⊢
  clear hr hc hl hs hs2 hn hqq hb0 hC0 hk
  go_enter Try.func6, Try.ntmps6
  go_wp2_with fail
  rw [← hW0]
  clear hW0
  refine HK.out.mono ?_
  rintro r w1 ⟨rfl, hb1⟩
  have H1 : Hid (Below w.heap.size w w1 ∧ Cells w1 w.heap.size 32 (cellE e)) := ⟨H0.out.1.trans (hb1.mono H0.out.1.size), H0.out.2.move (hb1.block _ H0.out.2.lt)⟩
  clear hb1 HK H0
  go_wp2_with fail
  refine (HF.out w1 H1.out.1).mono ?_
  rintro r w2 ⟨rfl, hb2⟩
  have H2 : Hid (Below w.heap.size w w2 ∧ Cells w2 w.heap.size 32 (cellE e)) := ⟨H1.out.1.trans (hb2.mono H1.out.1.size), H1.out.2.move (hb2.block _ H1.out.2.lt)⟩
  clear hb2 HF H1
  have e0 := H2.out.2.cell (i := 0) rfl
  have e1 := H2.out.2.cell (i := 1) rfl
  have e2 := H2.out.2.cell (i := 2) rfl
  cases q with
  | false =>
    go_wp2_with fail
    go_ret
    exact ⟨rfl, H2.out.1⟩
  | true =>
  have H120 : Hid (n ≤ 120) := by
    show _ ≤ _
    have := Hq.out
    simp only [Bool.and_eq_true, decide_eq_true_eq] at this
    exact this.1
  clear Hq
  obtain ⟨W3, hW3⟩ : ∃ W3, W3 = w2.alloc (.cells #[.string e.1, .string e.2.1, .int .u64 (e.2.2 : Int)] 32) := ⟨_, rfl⟩
  have hR3 : RE W3 W3.heap.size (some ⟨w2.heap.size, 0, none⟩) [e] := by rw [hW3]; exact (RE.one w2 e).wide (by simp)
  have hb3 : Below w2.heap.size w2 W3 := by rw [hW3]; exact (Below.refl _ _).alloc (Nat.le_refl _) _
  have HF3 := Lib.hid (HF2.out W3 _ hR3)
  have H3 : Hid (Below w.heap.size w W3 ∧ Cells W3 w.heap.size 32 (cellE e)) := ⟨H2.out.1.trans (hb3.mono H2.out.1.size), H2.out.2.move (hb3.block _ H2.out.2.lt)⟩
  clear hR3 hb3 HF2
  go_wp2_with fail
  rw [← hW3]
  clear hW3 e0 e1 e2 H2
  refine HF3.out.mono ?_
  rintro r w4 ⟨q2, rfl, hb4⟩
  have H4 : Hid (Below w.heap.size w w4 ∧ Cells w4 w.heap.size 32 (cellE e)) := ⟨H3.out.1.trans (hb4.mono H3.out.1.size), H3.out.2.move (hb4.block _ H3.out.2.lt)⟩
  clear hb4 H3 HF3
  cases q2 with
  | false =>
    go_wp2_with fail
    go_ret
    exact ⟨rfl, H4.out.1⟩
  | true =>
  rcases Nat.lt_or_ge 1000 k.size with hk1 | hk1
  · have hk2 : (k.size : Int) > 1000 := by omega
    have hk3 : (1000 : Int) < (k.size : Int) := by omega
    go_wp2_with fail
    go_ret
    exact ⟨rfl, H4.out.1⟩
  have hk2 : ¬ (k.size : Int) > 1000 := by omega
  have hk3 : ¬ (1000 : Int) < (k.size : Int) := by omega
  have hk4 : (k.size : Int) ≤ 1000 := by omega
  have HN2 := Lib.hid (HN.out H120.out w4 H4.out.1)
  clear HN H120
  go_wp2_with fail
  refine HN2.out.mono ?_
  rintro r w5 ⟨hb5, ⟨g, out, rfl, hS, hol⟩ | rfl⟩
  · have H5 : Hid (Below w.heap.size w w5 ∧ Cells w5 w.heap.size 32 (cellE e) ∧ SetAt w5 w4.heap.size g out ∧ w.heap.size < w4.heap.size ∧ w4.heap.size ≤ w5.heap.size ∧ out.length ≤ 1000000000) := ⟨H4.out.1.trans (hb5.mono H4.out.1.size), H4.out.2.move (hb5.block _ H4.out.2.lt), hS, H4.out.2.lt, hb5.size, hol⟩
    clear hb5 hS hol HN2 H4
    generalize w4.heap.size = base at *
    have e0 := H5.out.2.1.cell (i := 0) rfl
    have e1 := H5.out.2.1.cell (i := 1) rfl
    have e2 := H5.out.2.1.cell (i := 2) rfl
    go_wp2_with fail
    refine (HCk.out _).mono ?_
    rintro r w6 ⟨rfl, hb6⟩
    have H6 : Hid (Below w.heap.size w w6 ∧ Cells w6 w.heap.size 32 (cellE e) ∧ SetAt w6 base g out ∧ w.heap.size < base ∧ base ≤ w6.heap.size ∧ out.length ≤ 1000000000) := ⟨H5.out.1.trans (hb6.mono H5.out.1.size), H5.out.2.1.move (hb6.block _ H5.out.2.1.lt), H5.out.2.2.1.below hb6, H5.out.2.2.2.1, Nat.le_trans H5.out.2.2.2.2.1 hb6.size, H5.out.2.2.2.2.2⟩
    clear hb6 HCk H5 e0 e1 e2
    have hce : chkE e = 0 ∨ chkE e = 1 := by unfold chkE; split <;> simp
    rcases hce with hce | hce
    · have HH := Lib.hid (has_any g base out k s w6 H6.out.2.2.1)
      have Hce := Lib.hid hce
      rw [hce]
      clear hce
      go_wp2_with fail
      refine HH.out.mono ?_
      rintro r w7 ⟨rfl, hb7⟩
      have H7 : Hid (Below w.heap.size w w7 ∧ Cells w7 w.heap.size 32 (cellE e) ∧ SetAt w7 base g out ∧ w.heap.size < base ∧ base ≤ w7.heap.size ∧ out.length ≤ 1000000000) := ⟨H6.out.1.trans (hb7.mono H6.out.1.size), H6.out.2.1.move (hb7.block _ H6.out.2.1.lt), H6.out.2.2.1.below hb7, H6.out.2.2.2.1, Nat.le_trans H6.out.2.2.2.2.1 hb7.size, H6.out.2.2.2.2.2⟩
      clear hb7 HH H6
      have HAd : Hid (Calls Try.prog 11 #[.pointer (some ⟨g, 0, none⟩), eV e] w7 fun r w' => r = .returned (.int .i64 0) ∧ AddP w7 w' base g out e) := by
        refine (add_any e base g out w7 H7.out.2.2.1 H7.out.2.2.2.2.1 H7.out.2.2.2.2.2).mono ?_
        rintro r w' ⟨rfl, ⟨h1, h2⟩ | ⟨h1, h2⟩⟩
        · exact ⟨by rw [h1], h2⟩
        · rw [Hce.out] at h1; cases h1
      unfold eV at HAd
      have e0 := H7.out.2.1.cell (i := 0) rfl
      have e1 := H7.out.2.1.cell (i := 1) rfl
      have e2 := H7.out.2.1.cell (i := 2) rfl
      generalize hd1 : decide (s < topE out k) = d1
      go_wp2_with fail
      refine HAd.out.mono ?_
      rintro r w8 ⟨rfl, hb8, out2, hS8, ht8, _⟩
      have H8 : Hid (Below w.heap.size w w8 ∧ Cells w8 w.heap.size 32 (cellE e)) := ⟨H7.out.1.trans (hb8.mono (Nat.le_of_lt H7.out.2.2.2.1)), H7.out.2.1.move (hb8.block _ H7.out.2.2.2.1)⟩
      have HH2 := Lib.hid (has_any g base out2 k s w8 hS8)
      obtain ⟨val, hval⟩ : ∃ val, val = (leB e.1 k && Op.bytesLess k.toList e.2.1.toList && decide (s ≤ e.2.2)) := ⟨_, rfl⟩
      have Hd : decide (s < topE out2 k) = (d1 || val) := by rw [ht8, has_add, hd1, hval, cov_form]
      rw [Hd] at HH2
      clear hb8 HAd hS8 ht8 Hd hd1 H7 e0 e1 e2 Hce
      have e0 := H8.out.2.cell (i := 0) rfl
      have e1 := H8.out.2.cell (i := 1) rfl
      have e2 := H8.out.2.cell (i := 2) rfl
      have hl1 : (Op.bytesLess e.1.toList k.toList = true ∧ leB e.1 k = true) ∨ (Op.bytesLess e.1.toList k.toList = false ∧ (e.1.toList == k.toList) = true ∧ leB e.1 k = true) ∨ (Op.bytesLess e.1.toList k.toList = false ∧ (e.1.toList == k.toList) = false ∧ leB e.1 k = false) := by
        have q := leB_form e.1 k
        rw [← q]
        cases Op.bytesLess e.1.toList k.toList <;> cases (e.1.toList == k.toList) <;> simp
      have hl3 : (s ≤ e.2.2 ∧ (s : Int) ≤ (e.2.2 : Int)) ∨ (¬ s ≤ e.2.2 ∧ ¬ (s : Int) ≤ (e.2.2 : Int)) := by omega
      have hfin : ∀ a b : Bool, ((a || b) == (a || b)) = true := by decide
      rcases hl1 with ⟨a1, a2⟩ | ⟨a1, a2, a3⟩ | ⟨a1, a2, a3⟩
      all_goals
        rcases hl3 with ⟨b1, b2⟩ | ⟨b1, b2⟩
        all_goals
          cases hc1 : Op.bytesLess k.toList e.2.1.toList
          all_goals
            simp only [*, decide_true, decide_false, Bool.and_true, Bool.true_and, Bool.and_false, Bool.false_and] at hval
            subst hval
            cases d1
            all_goals
              simp only [Bool.or_true, Bool.or_false, Bool.true_or, Bool.false_or] at HH2
              go_wp2_with fail
              refine HH2.out.mono ?_
              rintro r w9 ⟨rfl, hb9⟩
              have H9 : Hid (Below w.heap.size w w9) := H8.out.1.trans (hb9.mono H8.out.1.size)
              clear hb9 HH2
              go_wp2_with fail
              go_ret
              exact ⟨rfl, H9.out⟩
    · rw [hce]
      clear hce
      go_wp2_with fail
      go_ret
      exact ⟨rfl, H6.out.1⟩
  · have H5 : Hid (Below w.heap.size w w5) := H4.out.1.trans (hb5.mono H4.out.1.size)
    clear hb5 HN2
    go_wp2_with fail
    go_ret
    exact ⟨rfl, H5.out⟩
end
end Go.Proofs.Ytghcfmkmndldoaa
