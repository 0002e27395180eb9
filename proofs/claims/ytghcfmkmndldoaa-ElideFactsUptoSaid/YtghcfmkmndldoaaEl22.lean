/-
  slices.MaxFunc over Newest's closure.
-/
import Derived.Test.YtghcfmkmndldoaaEl20
import Derived.Test.YtghcfmkmndldoaaEl21
namespace Go.Proofs.Ytghcfmkmndldoaa
open Go.RowKit Go.Sort Go.Lib

section
set_option maxRecDepth 100000
set_option maxHeartbeats 8000000
theorem newer_any (f h : Fc) (V U : Value) (w : World) (hV : V.oneCell' = true) (hU : U.oneCell' = true) : Calls Try.prog 51 #[fcV f V, fcV h U] w fun r w' => r = .returned (.int .i64 (cmpN f.2.1 h.2.1)) ∧ Below w.heap.size w w' := by
  have hb : Below w.heap.size w ((w.alloc (.cells #[.string f.1, .int .u64 (f.2.1 : Int), V] 50)).alloc (.cells #[.string h.1, .int .u64 (h.2.1 : Int), U] 50)) := ((Below.refl _ _).alloc (Nat.le_refl _) _).alloc (by simp) _
  have Hb := Lib.hid hb
  have Hc := Lib.hid (fun W => cmpU_any f.2.1 h.2.1 W)
  unfold fcV
  clear hb
  go_enter Try.func51, Try.ntmps51
  go_wp2_with fail
  refine (Hc.out _).mono ?_
  rintro r w1 ⟨rfl, rfl⟩
  go_wp2_with fail
  go_ret
  exact ⟨rfl, Hb.out⟩
/-- WHERE MaxFunc STANDS: its answer's block, the best one's block -/
structure MaxSt (w wr : World) (fs : List Fc) (i : Nat) (f : Fc) (V : Value) : Prop where
  is : fs[bestI fs i]? = some f
  val : Vb w w.heap.size V f.2.2
  res : Cells wr w.heap.size 50 [.string ⟨#[]⟩, .int .u64 0, .slice none 0 0]
  best : Cells wr (w.heap.size + 1) 50 [.string f.1, .int .u64 (f.2.1 : Int), V]
  bel : Below w.heap.size w wr
theorem max_any (A : Option Addr) (c : Nat) (fs : List Fc) (w : World) (hr : RF w w.heap.size A fs) (hl : fs.length ≤ 1099511627776) (h1 : 1 ≤ fs.length) :
    Calls Try.prog 50 #[.slice A fs.length c, .func (.func 51) #[] #[]] w fun r w' => ∃ f V, fs[bestI fs fs.length]? = some f ∧ r = .returned (fcV f V) ∧ Vb w w.heap.size V f.2.2 ∧ Below w.heap.size w w' := by
  have Hr := Lib.hid hr
  have hl' : (fs.length : Int) ≤ 1099511627776 := by omega
  have Hlen : Hid (∀ k : Nat, k < fs.length → ∃ u, fs[k]? = some u) := fun k hk => ⟨_, List.getElem?_eq_getElem hk⟩
  obtain ⟨f0, hf0⟩ : ∃ f0, fs[0]? = some f0 := ⟨_, List.getElem?_eq_getElem (by omega)⟩
  obtain ⟨b, o, V0, rfl, hblt, x0, x1, x2, hV0, _⟩ := hr.at_ hf0
  rw [Nat.zero_mul, Nat.add_zero] at x0 x1 x2
  obtain ⟨W2, hW2⟩ : ∃ W2, W2 = (w.alloc (.cells #[.string ⟨#[]⟩, .int .u64 0, .slice none 0 0] 50)).alloc (.cells #[.string f0.1, .int .u64 (f0.2.1 : Int), V0] 50) := ⟨_, rfl⟩
  have H2 : Hid (MaxSt w W2 fs 1 f0 V0) := by
    refine ⟨by rw [bestI]; exact hf0, hV0, ?_, ?_, ?_⟩
    · rw [hW2]; exact (Cells.new w _ _).alloc _
    · rw [hW2]
      have := Cells.new (w.alloc (.cells #[.string ⟨#[]⟩, .int .u64 0, .slice none 0 0] 50)) #[.string f0.1, .int .u64 (f0.2.1 : Int), V0] 50
      rwa [show (w.alloc (.cells #[.string ⟨#[]⟩, .int .u64 0, .slice none 0 0] 50)).heap.size = w.heap.size + 1 by simp] at this
    · rw [hW2]; exact ((Below.refl _ _).alloc (Nat.le_refl _) _).alloc (by simp) _
  have w0 : (w.alloc (.cells #[.string ⟨#[]⟩, .int .u64 0, .slice none 0 0] 50)).cell? ⟨b, o, none⟩ = some (.string f0.1) := (World.cell?_alloc_lt w _ _ hblt).trans x0
  have w1 : (w.alloc (.cells #[.string ⟨#[]⟩, .int .u64 0, .slice none 0 0] 50)).cell? ⟨b, o + 1, none⟩ = some (.int .u64 (f0.2.1 : Int)) := (World.cell?_alloc_lt w _ _ hblt).trans x1
  have w2 : (w.alloc (.cells #[.string ⟨#[]⟩, .int .u64 0, .slice none 0 0] 50)).cell? ⟨b, o + 2, none⟩ = some V0 := (World.cell?_alloc_lt w _ _ hblt).trans x2
  obtain ⟨A0, c0, rfl, _⟩ := hV0
  obtain ⟨n, hn⟩ : ∃ n, n = fs.length := ⟨_, rfl⟩
  rw [← hn] at hl' Hlen h1 ⊢
  have Hn := Lib.hid hn
  have hnl : ¬ (n : Int) < 1 := by omega
  have hn0 : (0 : Int) < (n : Int) := by omega
  have hnn : 0 < n := by omega
  clear hr hf0 hblt x0 x1 x2 hl hn
  go_enter Try.func50, Try.ntmps50
  go_wp2_with fail
  clear w0 w1 w2
  go_loopw [6] (fun iv wr => ∃ i : Nat, iv = .int .i64 (i : Int) ∧ 1 ≤ i ∧ i ≤ n ∧ Hid (∃ f V, MaxSt w wr fs i f V)) (fun iv _ => n - (intOf iv).toNat)
  case atStart => exact ⟨1, rfl, Nat.le_refl _, h1, by rw [← hW2]; exact ⟨_, _, H2.out⟩⟩
  case round =>
    obtain ⟨i, rfl, hi1, hi, hst0⟩ := hrel
    obtain ⟨f, V, hst1⟩ := hst0.out
    have hst := Lib.hid hst1
    have r0 := hst1.res.cell (i := 0) rfl
    have r1 := hst1.res.cell (i := 1) rfl
    have r2 := hst1.res.cell (i := 2) rfl
    have q0 := hst1.res.frozen 0
    have q1 := hst1.res.frozen 1
    have q2 := hst1.res.frozen 2
    have m0 := hst1.best.cell (i := 0) rfl
    have m1 := hst1.best.cell (i := 1) rfl
    have m2 := hst1.best.cell (i := 2) rfl
    have hVo := hst1.val.one
    clear hst0 hst1 H2
    by_cases hlt : i < n
    · obtain ⟨h, hh⟩ := Hlen.out i hlt
      have hlt' : (i : Int) < (n : Int) := by omega
      obtain ⟨b', o', U, e', _, x0, x1, x2, hU, _⟩ := (Hr.out.below hst.out.bel).at_ hh
      cases e'
      have hUw : Vb w w.heap.size U h.2.2 := by
        obtain ⟨b', o', U', e', hlt9, _, _, p2, qU, _⟩ := Hr.out.at_ hh
        cases e'
        have : U' = U := by
          have q := (hst.out.bel.cell (p := ⟨b, o + i * 3 + 2, none⟩) hlt9).trans p2
          rw [x2] at q
          exact (Option.some.inj q).symm
        rw [← this]; exact qU
      have hUo := hUw.one
      have HC : Hid (∀ W, (W = wr ∨ W = wr.drew) → Calls Try.prog 51 #[fcV h U, fcV f V] W fun r w' => r = .returned (.int .i64 (cmpN h.2.1 f.2.1)) ∧ Below wr.heap.size wr w') := fun W hW => by
        rcases hW with rfl | rfl
        · exact newer_any h f U V _ hUo hVo
        · refine (newer_any h f U V wr.drew hUo hVo).mono ?_
          rintro r w' ⟨rfl, hb⟩
          exact ⟨rfl, ((Below.refl _ _).drew).trans hb⟩
      have Hstep : Hid (bestI fs (i + 1) = if f.2.1 < h.2.1 then i else bestI fs i) := by
        show _ = _
        rw [best_step fs hi1, seqAt_of hst.out.is, seqAt_of hh]
      have HX : Hid (∀ W, Below wr.heap.size wr W → W.cell? ⟨b, o + i * 3, none⟩ = some (.string h.1) ∧ W.cell? ⟨b, o + i * 3 + 1, none⟩ = some (.int .u64 (h.2.1 : Int)) ∧ W.cell? ⟨b, o + i * 3 + 2, none⟩ = some U) := fun W hW => by
        obtain ⟨b', o', U', e', hlt9, _, _, p2, _, _⟩ := Hr.out.at_ hh
        cases e'
        have hblt2 : b < wr.heap.size := Nat.lt_of_lt_of_le hlt9 hst.out.bel.size
        exact ⟨(hW.cell (p := ⟨b, o + i * 3, none⟩) hblt2).trans x0, (hW.cell (p := ⟨b, o + i * 3 + 1, none⟩) hblt2).trans x1, (hW.cell (p := ⟨b, o + i * 3 + 2, none⟩) hblt2).trans x2⟩
      have d0 : wr.drew.cell? ⟨b, o + i * 3, none⟩ = some (.string h.1) := x0
      have d1 : wr.drew.cell? ⟨b, o + i * 3 + 1, none⟩ = some (.int .u64 (h.2.1 : Int)) := x1
      have d2 : wr.drew.cell? ⟨b, o + i * 3 + 2, none⟩ = some U := x2
      have d3 : wr.drew.cell? ⟨w.heap.size + 1, 0, none⟩ = some (.string f.1) := m0
      have d4 : wr.drew.cell? ⟨w.heap.size + 1, 1, none⟩ = some (.int .u64 (f.2.1 : Int)) := m1
      have d5 : wr.drew.cell? ⟨w.heap.size + 1, 2, none⟩ = some V := m2
      have Hh : Hid (fs[i]? = some h ∧ Vb w w.heap.size U h.2.2 ∧ i + 1 ≤ n ∧ i < n) := ⟨hh, hUw, by omega, hlt⟩
      obtain ⟨A3, c3, rfl, _⟩ := hst.out.val
      obtain ⟨A4, c4, rfl, _⟩ := hUw
      unfold fcV at HC
      clear hh hlt hU
      by_cases hq : f.2.1 < h.2.1
      · have hcv : cmpN h.2.1 f.2.1 = 1 := by unfold cmpN; rw [if_neg (by omega), if_pos hq]
        rw [hcv] at HC
        have Hb2 : Hid (bestI fs (i + 1) = i) := by show _ = _; rw [Hstep.out, if_pos hq]
        clear hcv hq Hstep
        go_upto_region 7 with fail
        go_region_with (go_at_call 51; refine (HC.out _ (by first | exact .inl (by with_reducible rfl) | exact .inr (by with_reducible rfl))).mono ?_; rintro e w3 ⟨rfl, h3⟩; obtain ⟨u0, u1, u2⟩ := HX.out w3 h3; have hB3 := hst.out.best.move (h3.block _ hst.out.best.lt); have v0 := hB3.cell (i := 0) rfl; have v1 := hB3.cell (i := 1) rfl; have v2 := hB3.cell (i := 2) rfl; have t0 := hB3.frozen 0; have t1 := hB3.frozen 1; have t2 := hB3.frozen 2; have H3 : Hid (Below wr.heap.size wr w3 ∧ Cells w3 (w.heap.size + 1) 50 [.string f.1, .int .u64 (f.2.1 : Int), .slice A3 f.2.2.length c3]) := ⟨h3, hB3⟩; clear h3 hB3)
        all_goals
          have H5 : Hid (MaxSt w (((w3.setCell ⟨w.heap.size + 1, 0, none⟩ (.string h.1)).setCell ⟨w.heap.size + 1, 1, none⟩ (.int .u64 (h.2.1 : Int))).setCell ⟨w.heap.size + 1, 2, none⟩ (.slice A4 h.2.2.length c4)) fs (i + 1) h (.slice A4 h.2.2.length c4)) := by
            have hbw : Below w.heap.size w w3 := hst.out.bel.trans (H3.out.1.mono hst.out.bel.size)
            refine ⟨by rw [Hb2.out]; exact Hh.out.1, Hh.out.2.1, ?_, set3F H3.out.2, below_set3 hbw (Nat.le_succ _) _ _ _⟩
            exact cells_other (cells_other (cells_other (hst.out.res.move (H3.out.1.block _ hst.out.res.lt)) (p := ⟨w.heap.size + 1, 0, none⟩) (by show w.heap.size ≠ w.heap.size + 1; omega) _) (p := ⟨w.heap.size + 1, 1, none⟩) (by show w.heap.size ≠ w.heap.size + 1; omega) _) (p := ⟨w.heap.size + 1, 2, none⟩) (by show w.heap.size ≠ w.heap.size + 1; omega) _
          go_wp2_with fail
          go_roundw
          case rel => exact ⟨i + 1, by go_num, by omega, Hh.out.2.2.1, _, _, H5.out⟩
          case measure => have := Hh.out.2.2.2; simp [intOf]; omega
      · have hcv : cmpN h.2.1 f.2.1 ≤ 0 := by unfold cmpN; split <;> (try split) <;> omega
        obtain ⟨cv, hcv2⟩ : ∃ cv, cv = cmpN h.2.1 f.2.1 := ⟨_, rfl⟩
        rw [← hcv2] at HC hcv
        have hcv3 : ¬ cv > 0 := by omega
        have Hb2 : Hid (bestI fs (i + 1) = bestI fs i) := by show _ = _; rw [Hstep.out, if_neg hq]
        clear hcv hcv2 hq Hstep
        go_upto_region 7 with fail
        go_region_with (go_at_call 51; refine (HC.out _ (by first | exact .inl (by with_reducible rfl) | exact .inr (by with_reducible rfl))).mono ?_; rintro e w3 ⟨rfl, h3⟩; have H3 := Lib.hid h3; clear h3)
        all_goals
          have H5 : Hid (MaxSt w w3 fs (i + 1) f (.slice A3 f.2.2.length c3)) := ⟨by rw [Hb2.out]; exact hst.out.is, hst.out.val, hst.out.res.move (H3.out.block _ hst.out.res.lt), hst.out.best.move (H3.out.block _ hst.out.best.lt), hst.out.bel.trans (H3.out.mono hst.out.bel.size)⟩
          go_wp2_with fail
          go_roundw
          case rel => exact ⟨i + 1, by go_num, by omega, Hh.out.2.2.1, _, _, H5.out⟩
          case measure => have := Hh.out.2.2.2; simp [intOf]; omega
    · obtain rfl : i = n := by omega
      obtain ⟨A3, c3, rfl, _⟩ := hst.out.val
      have hs3 := set3F (x' := .string f.1) (y' := .int .u64 (f.2.1 : Int)) (z' := .slice A3 f.2.2.length c3) hst.out.res
      have hbel := below_set3 (b := w.heap.size) hst.out.bel (Nat.le_refl _) (.string f.1) (.int .u64 (f.2.1 : Int)) (.slice A3 f.2.2.length c3)
      have Hf : Hid (fs[bestI fs i]? = some f ∧ Vb w w.heap.size (.slice A3 f.2.2.length c3) f.2.2) := ⟨hst.out.is, hst.out.val⟩
      clear hst hlt
      go_wp2_with fail
      clear r0 r1 r2 q0 q1 q2 m0 m1 m2
      generalize (((wr.setCell ⟨w.heap.size, 0, none⟩ (.string f.1)).setCell ⟨w.heap.size, 1, none⟩ (.int .u64 (f.2.1 : Int))).setCell ⟨w.heap.size, 2, none⟩ (.slice A3 f.2.2.length c3)) = Wf at hs3 hbel ⊢
      have p0 := hs3.cell (i := 0) rfl
      have p1 := hs3.cell (i := 1) rfl
      have p2 := hs3.cell (i := 2) rfl
      exact bodyPost_ret (v := .agg #[.string f.1, .int .u64 (f.2.1 : Int), .slice A3 f.2.2.length c3]) (by simp [results, Try.results50, go_sem, p0, p1, p2]) rfl ⟨f, _, Hf.out.1, rfl, Hf.out.2, hbel⟩
end
end Go.Proofs.Ytghcfmkmndldoaa
