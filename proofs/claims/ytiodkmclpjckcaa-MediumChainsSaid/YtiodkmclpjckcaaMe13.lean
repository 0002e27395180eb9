/-
  MediumChains, walked.
-/
import Derived.Test.YtiodkmclpjckcaaMe12
namespace Go.Proofs.Ytiodkmclpjckcaa
open Go.RowKit Go.Maps Go.Lib Go.Sort

section
set_option maxRecDepth 20000
set_option maxHeartbeats 3200000
theorem chains_any (d n s : Int) (w : World) : Calls Try.prog 4 #[.int .i64 d, .int .i64 n, .int .i64 s] w fun e w' => e = .returned (.bool true) ∧ Below w.heap.size w w' := by
  have HK := Lib.hid (known_any w)
  by_cases c0 : d < 2
  case pos =>
    go_enter Try.func4, Try.ntmps4
    go_wp2_with fail
    refine HK.out.mono ?_
    rintro e w1 ⟨rfl, hb1⟩
    have Hb1 := Lib.hid hb1
    clear hb1 HK
    go_wp2_with fail
    go_ret
    exact ⟨rfl, Hb1.out⟩
  by_cases c1 : 64 < d
  case pos =>
    go_enter Try.func4, Try.ntmps4
    go_wp2_with fail
    refine HK.out.mono ?_
    rintro e w1 ⟨rfl, hb1⟩
    have Hb1 := Lib.hid hb1
    clear hb1 HK
    go_wp2_with fail
    go_ret
    exact ⟨rfl, Hb1.out⟩
  by_cases c2 : s < 1
  case pos =>
    go_enter Try.func4, Try.ntmps4
    go_wp2_with fail
    refine HK.out.mono ?_
    rintro e w1 ⟨rfl, hb1⟩
    have Hb1 := Lib.hid hb1
    clear hb1 HK
    go_wp2_with fail
    go_ret
    exact ⟨rfl, Hb1.out⟩
  by_cases c3 : 1048576 < s
  case pos =>
    go_enter Try.func4, Try.ntmps4
    go_wp2_with fail
    refine HK.out.mono ?_
    rintro e w1 ⟨rfl, hb1⟩
    have Hb1 := Lib.hid hb1
    clear hb1 HK
    go_wp2_with fail
    go_ret
    exact ⟨rfl, Hb1.out⟩
  obtain ⟨dep, rfl⟩ : ∃ k : Nat, d = (k : Int) := ⟨d.toNat, by omega⟩
  obtain ⟨sz, rfl⟩ : ∃ k : Nat, s = (k : Int) := ⟨s.toNat, by omega⟩
  have e0 : decide ((dep : Int) < 2) = false := decide_eq_false c0
  have e1 : decide (64 < (dep : Int)) = false := decide_eq_false c1
  have e2 : decide ((sz : Int) < 1) = false := decide_eq_false c2
  have e3 : decide (1048576 < (sz : Int)) = false := decide_eq_false c3
  have Hnum : Hid ((2 ≤ dep ∧ dep ≤ 64) ∧ (1 ≤ sz ∧ sz ≤ 1048576)) := (show _ ∧ _ from ⟨by omega, by omega⟩)
  have Hnew := Lib.hid fun w => new_any dep (by omega) (by omega) w
  have Hmk := Lib.hid fun W tb mb (h : TabG W tb mb dep 1 (rowG []) 0) => make_ok (sz := sz) (a := 0) (t := 0) h (ok_new (by omega) (by omega)) (by omega) (by omega) (by omega) (by omega) (by unfold T64; omega) (fun _ => rfl) (fun q => absurd rfl q) (by show 0 < dep; omega)
  clear c0 c1 c2 c3
  go_enter Try.func4, Try.ntmps4
  go_wp2_with fail
  refine HK.out.mono ?_
  rintro e w1 ⟨rfl, hb1⟩
  have Hb1 := Lib.hid hb1
  clear hb1 HK
  go_wp2_with fail
  refine (Hnew.out w1).mono ?_
  rintro e w2 ⟨tb, mb, rfl, h2, hb2, n1, n2⟩
  have H2 := Lib.hid h2
  have B2 : Hid (Below w.heap.size w w2 ∧ w.heap.size ≤ tb ∧ w.heap.size ≤ mb) := ⟨Hb1.out.trans (hb2.mono Hb1.out.size), by have := Hb1.out.size; omega, by have := Hb1.out.size; omega⟩
  clear h2 hb2 n1 n2 Hb1 Hnew
  go_wp2_with fail
  refine (Hmk.out _ _ _ H2.out).mono ?_
  rintro e w3 ⟨rfl, h3, k3⟩
  have H3 : Hid (ChAt w w3 tb mb dep sz 0 2 1 (mkL [] 1 0 0 sz) 2) := by
    have hn := Hnum.out
    exact ⟨h3, (ok_new (by omega) (by omega)).mk' (.inl rfl) (by show 0 < dep; omega) (by omega) (by omega) (by omega), (Flat.nil sz).mk' 1 0, ⟨⟨1, 0, 0, sz, false⟩, rfl⟩, by omega, rfl, ChAt.off B2.out.1 B2.out.2.1 B2.out.2.2 k3, B2.out.2.1, B2.out.2.2, by omega⟩
  clear h3 k3 H2 B2 Hmk
  go_wp2_with fail
  obtain ⟨q, hq⟩ : ∃ q, q = n.tmod 200 := ⟨_, rfl⟩
  have hq2 : q ≤ 199 := by
    have := Int.tmod_lt_of_pos n (show (0 : Int) < 200 by omega)
    omega
  rw [← hq]
  clear hq e0 e1 e2 e3
  have hs1 : (sz : Int) ≤ 1048576 := by have := Hnum.out.2.2; omega
  have hs2 : 1 ≤ (sz : Int) := by have := Hnum.out.2.1; omega
  go_loopw [9, 10] (fun tv iv wr => ∃ (i nxt top : Nat) (L : List Md) (N : Nat), tv = .int .u64 (top : Int) ∧ iv = .int .i64 (i : Int) ∧ Hid (ChAt w wr tb mb dep sz i nxt top L N)) (fun _ iv _ => (q - intOf iv).toNat)
  case atStart => exact ⟨0, 2, 1, _, _, rfl, rfl, H3⟩
  case round =>
    obtain ⟨i, nxt, top, L, N, rfl, rfl, Hs⟩ := hrel
    by_cases hlt : (i : Int) < q
    case neg =>
      have Hb := Lib.hid Hs.out.bel
      clear Hs H3
      go_wp2_with fail
      go_ret
      exact ⟨rfl, Hb.out⟩
    obtain ⟨m, hm⟩ := Hs.out.top
    obtain ⟨m1, m2⟩ := look_mem hm
    have hn := Hs.out.hn
    have hi : i ≤ 198 := by omega
    have hN := Hs.out.hN
    have htop : top < T64 := by have := Hs.out.ok.hi m m1; unfold T64; omega
    have hfx := fix_any Hs.out.tab (by omega) htop
    rw [haveE_some hm] at hfx
    have hm1 := look_fix hm
    have ho1 := Hs.out.ok.fix top
    have hf1 := Hs.out.flat.fix top
    have Hbel : Hid (Below w.heap.size w wr ∧ w.heap.size ≤ tb ∧ w.heap.size ≤ mb) := ⟨Hs.out.bel, Hs.out.h1, Hs.out.h2⟩
    obtain ⟨L1, hL1⟩ : ∃ L1, L1 = fixL L top := ⟨_, rfl⟩
    rw [← hL1] at hfx hm1 ho1 hf1
    have ht1 : top < nxt := by have := ho1.hi _ (look_mem hm1).1; have := (look_mem hm1).2; omega
    have hfxd : (gFix m).fixed = true := rfl
    generalize gFix m = m' at hm1 hfxd
    have hd1 := deepL_le ho1 top
    have Hfx := Lib.hid hfx
    have HL := Lib.hid (And.intro ho1 (And.intro hf1 (And.intro hm1 (And.intro htop (And.intro hfxd ht1)))))
    have Hni : Hid (nxt = i + 2 ∧ i ≤ 198 ∧ N ≤ 8 * (i + 1)) := ⟨hn, hi, hN⟩
    have Hnum2 := Lib.hid Hnum.out
    clear hfx hm m1 m2 hm1 ho1 hf1 Hs hL1 htop hn hi hN H3 hfxd ht1
    by_cases hdp : deepL L1 top < dep
    case pos =>
      have Hmk := Lib.hid fun W (hW : TabG W tb mb dep nxt (rowG L1) (N + 2)) => make_ok (sz := sz) (a := 0) (t := top) hW HL.out.1 (by have := Hni.out; omega) (by have := Hni.out; omega) Hnum2.out.2 (by omega) HL.out.2.2.2.1 (fun _ => rfl) (fun _ => ⟨_, HL.out.2.2.1, HL.out.2.2.2.2.1⟩) hdp
      have Hdp := Lib.hid fun W (hW : TabG W tb mb dep (nxt + 1) (rowG (mkL L1 nxt top 0 sz)) (N + 2 + 2)) => deep_any hW (HL.out.1.mk' (t := top) (off := 0) (size := sz) (.inr ⟨_, HL.out.2.2.1, HL.out.2.2.2.2.1⟩) hdp Hnum2.out.2.1 Hnum2.out.2.2 (by omega)) (by have := Hni.out; omega) HL.out.2.2.2.1
      have Hde : Hid (deepL (mkL L1 nxt top 0 sz) top = deepL L1 top) := deepL_mk HL.out.1 _ _ _ HL.out.2.2.2.2.2
      rw [Hde.out] at Hdp
      obtain ⟨dd, hdd⟩ : ∃ dd, dd = deepL L1 top := ⟨_, rfl⟩
      rw [← hdd] at Hdp
      have hne1 : ¬ (dd : Int) = (dep : Int) := by omega
      have hne2 : ((dd : Int) == (dep : Int)) = false := by simpa using hne1
      have hne3 : (dd == dep) = false := by simp; omega
      have hne4 : ¬ dd = dep := by omega
      have Hdq := Lib.hid hdp
      clear hdp hd1 hdd
      go_wp2_with fail
      refine Hfx.out.mono ?_
      rintro e w4 ⟨rfl, h4, k4⟩
      have H4 : Hid (TabG w4 tb mb dep nxt (rowG L1) (N + 2) ∧ Below w.heap.size w w4) := ⟨h4, ChAt.off Hbel.out.1 Hbel.out.2.1 Hbel.out.2.2 k4⟩
      clear h4 k4 Hfx
      go_wp2_with fail
      refine (Hmk.out _ H4.out.1).mono ?_
      rintro e w5 ⟨rfl, h5, k5⟩
      have H5 : Hid (TabG w5 tb mb dep (nxt + 1) (rowG (mkL L1 nxt top 0 sz)) (N + 2 + 2) ∧ Below w.heap.size w w5) := ⟨h5, ChAt.off H4.out.2 Hbel.out.2.1 Hbel.out.2.2 k5⟩
      clear h5 k5 H4 Hmk
      go_wp2_with fail
      refine (Hdp.out _ H5.out.1).mono ?_
      rintro e w6 ⟨rfl, hq6⟩
      have H8 : Hid (ChAt w w6 tb mb dep sz (i + 1) (nxt + 1) nxt (mkL L1 nxt top 0 sz) (N + 2 + 2)) := by
        obtain ⟨qq, os, rfl⟩ := hq6
        have hn := Hni.out
        exact ⟨H5.out.1.grown qq os, HL.out.1.mk' (.inr ⟨_, HL.out.2.2.1, HL.out.2.2.2.2.1⟩) Hdq.out Hnum2.out.2.1 Hnum2.out.2.2 (by omega), HL.out.2.1.mk' _ _, ⟨_, by rw [look_mk HL.out.1, if_pos rfl]⟩, by omega, by omega, H5.out.2.trans ((below_grow w5 qq os).mono H5.out.2.size), Hbel.out.2.1, Hbel.out.2.2, by omega⟩
      clear hq6 H5 Hdp Hde Hdq
      generalize mkL L1 nxt top 0 sz = L3 at *
      generalize N + 2 + 2 = N3 at *
      go_wp2_with fail
      have Hch := Lib.hid (chain_any H8.out.tab H8.out.ok (by have := H8.out.hn; have := H8.out.hi; omega) (n := nxt) (by have := H8.out.hn; have := H8.out.hi; unfold T64; omega) ((sz : Int) - 1))
      have Hdd := Lib.hid fun W (hW : TabG W tb mb dep (nxt + 1) (rowG L3) N3) => deep_any hW H8.out.ok (by have := H8.out.hn; have := H8.out.hi; omega) (n := nxt) (by have := H8.out.hn; have := H8.out.hi; unfold T64; omega)
      refine Hch.out.mono ?_
      rintro e w9 ⟨v, rfl, ov, b9⟩
      have H9 := Lib.hid (H8.out.below b9)
      have hC : ∃ C, chainL L3 nxt ((sz : Int) - 1) = C ∧ C.length = deepL L3 nxt ∧ (∀ (k : Nat) (p : Nat × Nat), C[k]? = some p → p.2 = sz - 1 ∧ p.1 ≤ nxt) ∧ ∀ (k : Nat) (p q : Nat × Nat), C[k]? = some p → C[k + 1]? = some q → q.1 < p.1 := by
        have z : (sz : Int) - 1 = ((sz - 1 : Nat) : Int) := by have := Hnum2.out.2; omega
        refine ⟨_, rfl, ?_⟩
        rw [z, chainL_nat]
        exact chain_flat H8.out.ok.down H8.out.ok.look_zero H8.out.flat (by have := Hnum2.out.2; omega) nxt
      obtain ⟨C, hC, hl, hp2, hq2'⟩ := hC
      rw [hC] at ov
      obtain ⟨A, cp, rfl, hcp, hA0, hrd⟩ := ov.rd
      obtain ⟨dc, hdc⟩ : ∃ dc, dc = deepL L3 nxt := ⟨_, rfl⟩
      have hdle : (dc : Int) ≤ (dep : Int) := by rw [hdc]; have := deepL_le H8.out.ok nxt; omega
      rw [← hdc] at Hdd hl
      rw [hl] at hcp ⊢
      have Hcp := Lib.hid hcp
      have Hc : Hid (∀ k, k + 1 < dc → ∃ (b x y : Nat), A = some ⟨b, 0, none⟩ ∧ b < w9.heap.size ∧ y < x ∧ w9.cell? ⟨b, k * 2, none⟩ = some (.int .u64 (x : Int)) ∧ w9.cell? ⟨b, (k + 1) * 2, none⟩ = some (.int .u64 (y : Int)) ∧ w9.cell? ⟨b, (k + 1) * 2 + 1, none⟩ = some (.int .i64 ((sz : Int) - 1))) := by
        intro k hk
        have g1 : C[k]? = some C[k] := List.getElem?_eq_getElem (by omega)
        have g2 : C[k + 1]? = some C[k + 1] := List.getElem?_eq_getElem (by omega)
        obtain ⟨b, e1, -, hb, p1, p2⟩ := hrd k _ g1
        obtain ⟨b', e2, -, -, p3, p4⟩ := hrd (k + 1) _ g2
        rw [e1] at e2
        injection e2 with e2
        injection e2 with e2
        subst e2
        have z : (((C[k + 1]).2 : Nat) : Int) = (sz : Int) - 1 := by rw [(hp2 _ _ g2).1]; have := Hnum2.out.2; omega
        rw [z] at p4
        exact ⟨b, _, _, e1, hb, hq2' k _ _ g1 g2, p1, p3, p4⟩
      have hdc0 : dc ≤ 64 := by have := Hnum2.out.1.2; omega
      have e5 : decide ((dep : Int) < (dc : Int)) = false := decide_eq_false (by omega)
      have e6 : decide (dep < dc) = false := decide_eq_false (by omega)
      clear b9 H8 ov hrd hC hl hp2 hq2' hdc Hch hcp hA0
      go_wp2_with fail
      refine (Hdd.out _ H9.out.tab).mono ?_
      rintro e w10 ⟨rfl, hq10⟩
      have H10 : Hid (ChAt w w10 tb mb dep sz (i + 1) (nxt + 1) nxt L3 N3 ∧ Below w9.heap.size w9 w10) := by
        obtain ⟨qq, os, rfl⟩ := hq10
        exact ⟨H9.out.below (below_grow w9 qq os), below_grow w9 qq os⟩
      clear hq10 H9 Hdd
      go_wp2_with fail
      clear Hbel e5 e6 hdle hne1 hne2 hne3 hne4
      have Hit := Lib.hid hlt
      have Hq2 := Lib.hid hq2
      clear hlt hq2
      go_loopw [14] (fun kv wr => ∃ j : Nat, kv = .int .i64 ((j : Int) + 1) ∧ Hid (ChAt w wr tb mb dep sz (i + 1) (nxt + 1) nxt L3 N3 ∧ Below w9.heap.size w9 wr)) (fun kv _ => dc - (intOf kv).toNat)
      case atStart => exact ⟨0, rfl, H10⟩
      case round =>
        obtain ⟨j, rfl, Hj⟩ := hrel
        by_cases hj : j + 1 < dc
        · obtain ⟨b, x, y, rfl, hb, hxy, p1, p2, p3⟩ := Hc.out j hj
          have r1 := (Hj.out.2.cell (p := ⟨b, j * 2, none⟩) hb).trans p1
          have r2 := (Hj.out.2.cell (p := ⟨b, (j + 1) * 2, none⟩) hb).trans p2
          have r3 := (Hj.out.2.cell (p := ⟨b, (j + 1) * 2 + 1, none⟩) hb).trans p3
          have hji : (j : Int) + 1 < (dc : Int) := by omega
          have hxy1 : ¬ (x : Int) ≤ (y : Int) := by omega
          have hxy2 : decide ((y : Int) ≥ (x : Int)) = false := decide_eq_false (by omega)
          have hxy3 : decide (x ≤ y) = false := decide_eq_false (by omega)
          clear p1 p2 p3 hb
          go_wp2_with fail
          have hdec : decide ((x : Int) ≥ (y : Int)) = true := decide_eq_true (by omega)
          go_quiet (fail)
          have Hj2 : Hid (ChAt w (wr.drewN nq) tb mb dep sz (i + 1) (nxt + 1) nxt L3 N3 ∧ Below w9.heap.size w9 (wr.drewN nq)) :=
            ⟨Hj.out.1.below ⟨rfl, rfl, rfl, Nat.le_refl _, fun _ _ => rfl⟩, ⟨Hj.out.2.os, Hj.out.2.tape, Hj.out.2.output, Hj.out.2.size, Hj.out.2.block⟩⟩
          clear r1 r2 r3 hxy1 hxy2 hxy3 hdec Hj
          go_wp2_with fail
          go_roundw
          case rel => exact ⟨j + 1, (by first | rfl | simp), Hj2⟩
          case measure => simp [intOf]; omega
        · have hji : ¬ (j : Int) + 1 < (dc : Int) := by omega
          have Hjj := Lib.hid Hj.out.1
          have Hin := Lib.hid Hni.out
          have hi198 : (i : Int) ≤ 198 := by have := Hni.out.2.1; omega
          clear Hj hj
          go_wp2_with fail
          go_roundw
          case rel => exact ⟨i + 1, nxt + 1, nxt, L3, N3, rfl, (by first | rfl | simp), Hjj⟩
          case measure => have := Hit.out; simp [intOf]; omega
    case neg =>
      have hde : deepL L1 top = dep := by omega
      have htop0 : top ≠ 0 := by
        have q1 := look_mem HL.out.2.2.1
        have := HL.out.1.lo _ q1.1
        omega
      have Hmm := Lib.hid fun W (hW : TabG W tb mb dep nxt (rowG L1) (N + 2)) => make_many (sz := (sz : Int)) (a := 0) hW HL.out.1 (by have := Hni.out; omega) ⟨hs2, hs1⟩ (by omega) HL.out.2.2.2.1 htop0 HL.out.2.2.1 HL.out.2.2.2.2.1 (by omega)
      have Hdp := Lib.hid fun W (hW : TabG W tb mb dep nxt (rowG L1) (N + 2)) => deep_any hW HL.out.1 (by have := Hni.out; omega) HL.out.2.2.2.1
      rw [hde] at Hdp
      have Hal := Lib.hid fun W (hW : TabG W tb mb dep nxt (rowG L1) (N + 2)) => alone_any hW HL.out.1 (by have := Hni.out; omega) (by have := Hni.out; omega) HL.out.2.2.2.1
      rw [haveE_some HL.out.2.2.1] at Hal
      have Hmk := Lib.hid fun W (hW : TabG W tb mb dep nxt (rowG (aloneL L1 top)) (N + 2 + 2)) => make_ok (sz := sz) (a := 0) (t := top) hW (HL.out.1.alone top) (by have := Hni.out; omega) (by have := Hni.out; omega) Hnum2.out.2 (by omega) HL.out.2.2.2.1 (fun _ => rfl) (fun _ => ⟨_, look_alone HL.out.2.2.1, HL.out.2.2.2.2.1⟩) (by rw [deep_alone HL.out.1 HL.out.2.2.1]; have := Hnum2.out.1; omega)
      clear hdp hd1 hde htop0
      go_wp2_with fail
      refine Hfx.out.mono ?_
      rintro e w4 ⟨rfl, h4, k4⟩
      have H4 : Hid (TabG w4 tb mb dep nxt (rowG L1) (N + 2) ∧ Below w.heap.size w w4) := ⟨h4, ChAt.off Hbel.out.1 Hbel.out.2.1 Hbel.out.2.2 k4⟩
      clear h4 k4 Hfx
      go_wp2_with fail
      refine (Hmm.out _ H4.out.1).mono ?_
      rintro e w5 ⟨rfl, b5⟩
      have H5 : Hid (TabG w5 tb mb dep nxt (rowG L1) (N + 2) ∧ Below w.heap.size w w5) := ⟨H4.out.1.below b5, H4.out.2.trans (b5.mono H4.out.2.size)⟩
      clear b5 H4 Hmm
      go_wp2_with fail
      refine (Hdp.out _ H5.out.1).mono ?_
      rintro e w6 ⟨rfl, hq6⟩
      have H6 : Hid (TabG w6 tb mb dep nxt (rowG L1) (N + 2) ∧ Below w.heap.size w w6) := by
        obtain ⟨qq, os, rfl⟩ := hq6
        exact ⟨H5.out.1.grown qq os, H5.out.2.trans ((below_grow w5 qq os).mono H5.out.2.size)⟩
      clear hq6 H5 Hdp
      go_wp2_with fail
      refine (Hal.out _ H6.out.1).mono ?_
      rintro e w7 ⟨rfl, h7, k7⟩
      have H7 : Hid (TabG w7 tb mb dep nxt (rowG (aloneL L1 top)) (N + 2 + 2) ∧ Below w.heap.size w w7) := ⟨h7, ChAt.off H6.out.2 Hbel.out.2.1 Hbel.out.2.2 k7⟩
      clear h7 k7 H6 Hal
      go_wp2_with fail
      refine (Hmk.out _ H7.out.1).mono ?_
      rintro e w8 ⟨rfl, h8, k8⟩
      have H8 : Hid (ChAt w w8 tb mb dep sz (i + 1) (nxt + 1) nxt (mkL (aloneL L1 top) nxt top 0 sz) (N + 2 + 2 + 2)) := by
        have hn := Hni.out
        have hnu := Hnum2.out
        exact ⟨h8, (HL.out.1.alone top).mk' (.inr ⟨_, look_alone HL.out.2.2.1, HL.out.2.2.2.2.1⟩) (by rw [deep_alone HL.out.1 HL.out.2.2.1]; omega) hnu.2.1 hnu.2.2 (by omega), (HL.out.2.1.alone top).mk' _ _, ⟨_, by rw [look_mk (HL.out.1.alone top), if_pos rfl]⟩, by omega, by omega, ChAt.off H7.out.2 Hbel.out.2.1 Hbel.out.2.2 k8, Hbel.out.2.1, Hbel.out.2.2, by omega⟩
      clear h8 k8 H7 Hmk
      generalize mkL (aloneL L1 top) nxt top 0 sz = L3 at *
      generalize N + 2 + 2 + 2 = N3 at *
      go_wp2_with fail
      have Hch := Lib.hid (chain_any H8.out.tab H8.out.ok (by have := H8.out.hn; have := H8.out.hi; omega) (n := nxt) (by have := H8.out.hn; have := H8.out.hi; unfold T64; omega) ((sz : Int) - 1))
      have Hdd := Lib.hid fun W (hW : TabG W tb mb dep (nxt + 1) (rowG L3) N3) => deep_any hW H8.out.ok (by have := H8.out.hn; have := H8.out.hi; omega) (n := nxt) (by have := H8.out.hn; have := H8.out.hi; unfold T64; omega)
      refine Hch.out.mono ?_
      rintro e w9 ⟨v, rfl, ov, b9⟩
      have H9 := Lib.hid (H8.out.below b9)
      have hC : ∃ C, chainL L3 nxt ((sz : Int) - 1) = C ∧ C.length = deepL L3 nxt ∧ (∀ (k : Nat) (p : Nat × Nat), C[k]? = some p → p.2 = sz - 1 ∧ p.1 ≤ nxt) ∧ ∀ (k : Nat) (p q : Nat × Nat), C[k]? = some p → C[k + 1]? = some q → q.1 < p.1 := by
        have z : (sz : Int) - 1 = ((sz - 1 : Nat) : Int) := by have := Hnum2.out.2; omega
        refine ⟨_, rfl, ?_⟩
        rw [z, chainL_nat]
        exact chain_flat H8.out.ok.down H8.out.ok.look_zero H8.out.flat (by have := Hnum2.out.2; omega) nxt
      obtain ⟨C, hC, hl, hp2, hq2'⟩ := hC
      rw [hC] at ov
      obtain ⟨A, cp, rfl, hcp, hA0, hrd⟩ := ov.rd
      obtain ⟨dc, hdc⟩ : ∃ dc, dc = deepL L3 nxt := ⟨_, rfl⟩
      have hdle : (dc : Int) ≤ (dep : Int) := by rw [hdc]; have := deepL_le H8.out.ok nxt; omega
      rw [← hdc] at Hdd hl
      rw [hl] at hcp ⊢
      have Hcp := Lib.hid hcp
      have Hc : Hid (∀ k, k + 1 < dc → ∃ (b x y : Nat), A = some ⟨b, 0, none⟩ ∧ b < w9.heap.size ∧ y < x ∧ w9.cell? ⟨b, k * 2, none⟩ = some (.int .u64 (x : Int)) ∧ w9.cell? ⟨b, (k + 1) * 2, none⟩ = some (.int .u64 (y : Int)) ∧ w9.cell? ⟨b, (k + 1) * 2 + 1, none⟩ = some (.int .i64 ((sz : Int) - 1))) := by
        intro k hk
        have g1 : C[k]? = some C[k] := List.getElem?_eq_getElem (by omega)
        have g2 : C[k + 1]? = some C[k + 1] := List.getElem?_eq_getElem (by omega)
        obtain ⟨b, e1, -, hb, p1, p2⟩ := hrd k _ g1
        obtain ⟨b', e2, -, -, p3, p4⟩ := hrd (k + 1) _ g2
        rw [e1] at e2
        injection e2 with e2
        injection e2 with e2
        subst e2
        have z : (((C[k + 1]).2 : Nat) : Int) = (sz : Int) - 1 := by rw [(hp2 _ _ g2).1]; have := Hnum2.out.2; omega
        rw [z] at p4
        exact ⟨b, _, _, e1, hb, hq2' k _ _ g1 g2, p1, p3, p4⟩
      have hdc0 : dc ≤ 64 := by have := Hnum2.out.1.2; omega
      have e5 : decide ((dep : Int) < (dc : Int)) = false := decide_eq_false (by omega)
      have e6 : decide (dep < dc) = false := decide_eq_false (by omega)
      clear b9 H8 ov hrd hC hl hp2 hq2' hdc Hch hcp hA0
      go_wp2_with fail
      refine (Hdd.out _ H9.out.tab).mono ?_
      rintro e w10 ⟨rfl, hq10⟩
      have H10 : Hid (ChAt w w10 tb mb dep sz (i + 1) (nxt + 1) nxt L3 N3 ∧ Below w9.heap.size w9 w10) := by
        obtain ⟨qq, os, rfl⟩ := hq10
        exact ⟨H9.out.below (below_grow w9 qq os), below_grow w9 qq os⟩
      clear hq10 H9 Hdd
      go_wp2_with fail
      clear Hbel e5 e6 hdle
      have Hit := Lib.hid hlt
      have Hq2 := Lib.hid hq2
      clear hlt hq2
      go_loopw [14] (fun kv wr => ∃ j : Nat, kv = .int .i64 ((j : Int) + 1) ∧ Hid (ChAt w wr tb mb dep sz (i + 1) (nxt + 1) nxt L3 N3 ∧ Below w9.heap.size w9 wr)) (fun kv _ => dc - (intOf kv).toNat)
      case atStart => exact ⟨0, rfl, H10⟩
      case round =>
        obtain ⟨j, rfl, Hj⟩ := hrel
        by_cases hj : j + 1 < dc
        · obtain ⟨b, x, y, rfl, hb, hxy, p1, p2, p3⟩ := Hc.out j hj
          have r1 := (Hj.out.2.cell (p := ⟨b, j * 2, none⟩) hb).trans p1
          have r2 := (Hj.out.2.cell (p := ⟨b, (j + 1) * 2, none⟩) hb).trans p2
          have r3 := (Hj.out.2.cell (p := ⟨b, (j + 1) * 2 + 1, none⟩) hb).trans p3
          have hji : (j : Int) + 1 < (dc : Int) := by omega
          have hxy1 : ¬ (x : Int) ≤ (y : Int) := by omega
          have hxy2 : decide ((y : Int) ≥ (x : Int)) = false := decide_eq_false (by omega)
          have hxy3 : decide (x ≤ y) = false := decide_eq_false (by omega)
          clear p1 p2 p3 hb
          go_wp2_with fail
          have hdec : decide ((x : Int) ≥ (y : Int)) = true := decide_eq_true (by omega)
          go_quiet (fail)
          have Hj2 : Hid (ChAt w (wr.drewN nq) tb mb dep sz (i + 1) (nxt + 1) nxt L3 N3 ∧ Below w9.heap.size w9 (wr.drewN nq)) :=
            ⟨Hj.out.1.below ⟨rfl, rfl, rfl, Nat.le_refl _, fun _ _ => rfl⟩, ⟨Hj.out.2.os, Hj.out.2.tape, Hj.out.2.output, Hj.out.2.size, Hj.out.2.block⟩⟩
          clear r1 r2 r3 hxy1 hxy2 hxy3 hdec Hj
          go_wp2_with fail
          go_roundw
          case rel => exact ⟨j + 1, (by first | rfl | simp), Hj2⟩
          case measure => simp [intOf]; omega
        · have hji : ¬ (j : Int) + 1 < (dc : Int) := by omega
          have Hjj := Lib.hid Hj.out.1
          have Hin := Lib.hid Hni.out
          have hi198 : (i : Int) ≤ 198 := by have := Hni.out.2.1; omega
          clear Hj hj
          go_wp2_with fail
          go_roundw
          case rel => exact ⟨i + 1, nxt + 1, nxt, L3, N3, rfl, (by first | rfl | simp), Hjj⟩
          case measure => have := Hit.out; simp [intOf]; omega
end
end Go.Proofs.Ytiodkmclpjckcaa
