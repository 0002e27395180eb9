/-
  The second saying's Check, over, Has, Add.
-/
import Derived.Test.YtghcfmkmndldoaaEl13
namespace Go.Proofs.Ytghcfmkmndldoaa
open Go.RowKit Go.Sort Go.Lib

/-- the second saying's set in memory: its block g, its slice v -/
structure RefSet (w : World) (base g : Nat) (v : Value) (l : List Ec) : Prop where
  cell : Cells w g 29 [v]
  own : OwnE w base v l
  len : l.length ≤ 1000000
theorem RefSet.below {w w' : World} {base g : Nat} {v : Value} {l : List Ec} (h : RefSet w base g v l) (hb : Below w.heap.size w w') : RefSet w' base g v l := ⟨h.cell.move (hb.block _ h.cell.lt), h.own.below hb, h.len⟩
theorem cov_leB (e : Ec) (k : ByteArray) : covE e k = (leB e.1 k && Op.bytesLess k.toList e.2.1.toList) := rfl
section
set_option maxRecDepth 100000
set_option maxHeartbeats 4000000
theorem rcheck_any (e : Ec) (w : World) : Calls Try.prog 13 #[eV e] w fun r w' => r = .returned (.int .i64 (chkE e)) ∧ Below w.heap.size w w' := by
  have hb : Below w.heap.size w (w.alloc (.cells #[.string e.1, .string e.2.1, .int .u64 (e.2.2 : Int)] 32)) := (Below.refl _ _).alloc (Nat.le_refl _) _
  have Hb := Lib.hid hb
  have Hc : Hid (chkE e = if Op.bytesLess e.1.toList e.2.1.toList = true then 0 else 1) := rfl
  unfold eV
  generalize chkE e = ce at *
  generalize e.1 = lo at *
  generalize e.2.1 = hi at *
  cases h : Op.bytesLess lo.toList hi.toList with
  | true =>
    obtain rfl : ce = 0 := by rw [Hc.out, h]; rfl
    clear hb
    go_enter Try.func13, Try.ntmps13
    go_wp2_with fail
    go_ret
    exact ⟨rfl, Hb.out⟩
  | false =>
    obtain rfl : ce = 1 := by rw [Hc.out, h]; rfl
    clear hb
    go_enter Try.func13, Try.ntmps13
    go_wp2_with fail
    go_ret
    exact ⟨rfl, Hb.out⟩
theorem over_any (e : Ec) (k : ByteArray) (w : World) : Calls Try.prog 43 #[eV e, .string k] w fun r w' => r = .returned (.bool (covE e k)) ∧ Below w.heap.size w w' := by
  have hb : Below w.heap.size w (w.alloc (.cells #[.string e.1, .string e.2.1, .int .u64 (e.2.2 : Int)] 32)) := (Below.refl _ _).alloc (Nat.le_refl _) _
  have Hb := Lib.hid hb
  rw [cov_leB]
  have hlf := leB_form e.1 k
  unfold eV
  generalize e.1 = lo at *
  generalize e.2.1 = hi at *
  obtain ⟨q, hq⟩ : ∃ q, Op.bytesLess k.toList hi.toList = q := ⟨_, rfl⟩
  rw [hq]
  clear hb
  rcases less_total lo.toList k.toList with h | h | h
  · rw [h] at hlf
    rw [← hlf]
    clear hlf
    cases q
    all_goals
      go_enter Try.func43, Try.ntmps43
      go_wp2_with fail
      go_ret
      exact ⟨rfl, Hb.out⟩
  · have h2 : Op.bytesLess lo.toList k.toList = false := by rw [h]; exact less_irrefl _
    have h3 : (lo.toList == k.toList) = true := by rw [h]; simp
    rw [h2, h3] at hlf
    rw [← hlf]
    clear hlf h
    cases q
    all_goals
      go_enter Try.func43, Try.ntmps43
      go_wp2_with fail
      go_ret
      exact ⟨rfl, Hb.out⟩
  · have h2 := less_asymm h
    have h3 : (lo.toList == k.toList) = false := by
      rw [beq_eq_false_iff_ne]
      intro e
      rw [e, less_irrefl] at h
      cases h
    rw [h2, h3] at hlf
    rw [← hlf]
    clear hlf h
    go_enter Try.func43, Try.ntmps43
    go_wp2_with fail
    go_ret
    exact ⟨rfl, Hb.out⟩
theorem rhas_any (base g : Nat) (v : Value) (l : List Ec) (k : ByteArray) (s : Nat) (w : World) (h : RefSet w base g v l) :
    Calls Try.prog 21 #[.pointer (some ⟨g, 0, none⟩), .string k, .int .u64 (s : Int)] w fun r w' => r = .returned (.bool (decide (s < topE l k))) ∧ Below w.heap.size w w' := by
  obtain ⟨A, c, rfl, hc, _, hr, _⟩ := h.own.rd
  have H0 : Hid (Cells w g 29 [.slice A l.length c] ∧ RE w w.heap.size A l) := ⟨h.cell, hr⟩
  have hl' : (l.length : Int) ≤ 1000000 := by have := h.len; omega
  have Hlen : Hid (∀ k : Nat, k < l.length → ∃ u, l[k]? = some u) := fun k hk => ⟨_, List.getElem?_eq_getElem hk⟩
  obtain ⟨dv, hdv⟩ : ∃ dv, dv = decide (s < topE l k) := ⟨_, rfl⟩
  rw [← hdv]
  have Hdv := Lib.hid hdv
  obtain ⟨n, hn⟩ : ∃ n, n = l.length := ⟨_, rfl⟩
  rw [← hn] at H0 hl' Hlen
  have Hn := Lib.hid hn
  clear h hr hc hdv hn
  go_enter Try.func21, Try.ntmps21
  go_wp2_with fail
  go_loopw [7] (fun iv wr => ∃ i : Nat, iv = .int .i64 (i : Int) ∧ i ≤ n ∧ Hid ((∀ j e, j < i → l[j]? = some e → covE e k = true → ¬ s ≤ e.2.2) ∧ Below w.heap.size w wr)) (fun iv _ => n - (intOf iv).toNat)
  case atStart => exact ⟨0, rfl, Nat.zero_le _, fun j e hj => absurd hj (Nat.not_lt_zero _), Below.refl _ _⟩
  case round =>
    obtain ⟨i, rfl, hi, hst⟩ := hrel
    have g0 := (H0.out.1.move (hst.out.2.block _ H0.out.1.lt)).cell (i := 0) rfl
    by_cases hlt : i < n
    · obtain ⟨e, he⟩ := Hlen.out i hlt
      obtain ⟨b, o, rfl, _, x0, x1, x2⟩ := (H0.out.2.below hst.out.2) i e he
      have hlt' : (i : Int) < (n : Int) := by omega
      have HO := Lib.hid (over_any e k wr)
      have He := Lib.hid he
      unfold eV at HO
      have Hx : Hid (∀ W, Below wr.heap.size wr W → W.cell? ⟨g, 0, none⟩ = some (.slice (some ⟨b, o, none⟩) n c) ∧ W.cell? ⟨b, o + i * 3 + 2, none⟩ = some (.int .u64 (e.2.2 : Int))) := fun W hW => by
        have hW0 : Below w.heap.size w W := hst.out.2.trans (hW.mono hst.out.2.size)
        refine ⟨(H0.out.1.move (hW0.block _ H0.out.1.lt)).cell (i := 0) rfl, ?_⟩
        obtain ⟨b', o', e', _, _, _, q⟩ := (H0.out.2.below hW0) i e he
        cases e'
        exact q
      clear he hlt
      cases hcv : covE e k with
      | false =>
        rw [hcv] at HO
        have Hno : Hid (∀ j f, j < i + 1 → l[j]? = some f → covE f k = true → ¬ s ≤ f.2.2) := fun j f hj hf hc => by
          rcases Nat.lt_or_ge j i with q | q
          · exact hst.out.1 j f q hf hc
          · obtain rfl : j = i := by omega
            rw [He.out] at hf
            cases hf
            rw [hcv] at hc
            cases hc
        clear hcv
        go_wp2_with fail
        refine HO.out.mono ?_
        rintro r w2 ⟨rfl, hb2⟩
        have H2 : Hid (Below w.heap.size w w2) := hst.out.2.trans (hb2.mono hst.out.2.size)
        clear hb2 HO
        go_wp2_with fail
        go_roundw
        case rel => exact ⟨i + 1, by go_num, by omega, Hno.out, H2.out⟩
        case measure => simp [intOf]; omega
      | true =>
        rw [hcv] at HO
        by_cases hs : s ≤ e.2.2
        · obtain rfl : dv = true := by
            rw [Hdv.out]
            exact decide_eq_true (has_iff.2 ⟨e, List.mem_of_getElem? He.out, hcv, hs⟩)
          have hs' : (e.2.2 : Int) ≥ (s : Int) := by omega
          clear hcv hs
          go_wp2_with fail
          refine HO.out.mono ?_
          rintro r w2 ⟨rfl, hb2⟩
          obtain ⟨y0, y1⟩ := Hx.out w2 hb2
          have H2 : Hid (Below w.heap.size w w2) := hst.out.2.trans (hb2.mono hst.out.2.size)
          clear hb2 HO
          go_wp2_with fail
          go_ret
          exact ⟨rfl, H2.out⟩
        · have Hno : Hid (∀ j f, j < i + 1 → l[j]? = some f → covE f k = true → ¬ s ≤ f.2.2) := fun j f hj hf hc => by
            rcases Nat.lt_or_ge j i with q | q
            · exact hst.out.1 j f q hf hc
            · obtain rfl : j = i := by omega
              rw [He.out] at hf
              cases hf
              exact hs
          have hs' : ¬ (e.2.2 : Int) ≥ (s : Int) := by omega
          clear hcv hs
          go_wp2_with fail
          refine HO.out.mono ?_
          rintro r w2 ⟨rfl, hb2⟩
          obtain ⟨y0, y1⟩ := Hx.out w2 hb2
          have H2 : Hid (Below w.heap.size w w2) := hst.out.2.trans (hb2.mono hst.out.2.size)
          clear hb2 HO
          go_wp2_with fail
          go_roundw
          case rel => exact ⟨i + 1, by go_num, by omega, Hno.out, H2.out⟩
          case measure => simp [intOf]; omega
    · obtain rfl : i = n := by omega
      obtain rfl : dv = false := by
        rw [Hdv.out]
        refine decide_eq_false fun q => ?_
        obtain ⟨e, he, h1, h2⟩ := has_iff.1 q
        obtain ⟨j, hj⟩ := List.getElem?_of_mem he
        exact hst.out.1 j e (by have := (List.getElem?_eq_some_iff.1 hj).1; have := Hn.out; omega) hj h1 h2
      have Hf := Lib.hid hst.out.2
      clear hst hlt
      go_wp2_with fail
      go_ret
      exact ⟨rfl, Hf.out⟩
end
end Go.Proofs.Ytghcfmkmndldoaa
