/-
  slices' partitionEqualOrdered at numbers of 64 bits.
-/
import Derived.Test.YtejimgjonhaocaaMeS5
namespace Go.Proofs.Ytejimgjonhaocaa
open Go.RowKit Go.Maps Go.Shelf Go.Lib Go.Sort

theorem scanUp_step (p : Int → Bool) (d : Array Int) (j i : Nat) : scanUp p d j i = if (decide (i ≤ j) && p d[i]!) = true then scanUp p d j (i + 1) else i := by rw [scanUp]
section
set_option maxRecDepth 100000
set_option maxHeartbeats 4000000
variable {w0 W : World} {g off z cap : Nat} {d0 : Array Int}
theorem parteq_any (R : Row1 eU w0 g off d0) (hz : d0.size = z) (hz1 : z ≤ 1000000) (d : Array Int) (a b p : Nat) (hap : a ≤ p) (hpb : p < b) (hb : b ≤ z) (S : SR w0 g off z d W) :
    Calls Try.prog 56 #[.slice (some ⟨g, off, none⟩) z cap, .int .i64 (a : Int), .int .i64 (b : Int), .int .i64 (p : Int)] W fun e w' => e = .returned (.int .i64 ((partitionEqual ltInt d a b p).1 : Nat)) ∧ SR w0 g off z (partitionEqual ltInt d a b p).2 w' := by
  have mixed : Try.prog.follows Departure.mixedOrders = true := by kernel_rfl
  have Rh := Lib.hid R
  have Hz := Lib.hid hz
  have HS := Lib.hid S
  have hz2 : (z : Int) ≤ 1000000 := by omega
  have haz : (a : Int) < (z : Int) := by omega
  have hpz : (p : Int) < (z : Int) := by omega
  have hbz : (b : Int) ≤ (z : Int) := by omega
  obtain ⟨c, hc⟩ : ∃ c, b = c + 1 := ⟨b - 1, by omega⟩
  have hbc : (b : Int) - 1 = (c : Int) := by omega
  have hca : a ≤ c := by omega
  have hcz : c < z := by omega
  obtain ⟨T, hT⟩ : ∃ T, T = partitionEqual ltInt d a b p := ⟨_, rfl⟩
  have hT2 : partEqLoop ltInt a (a + 1) c (swp d a p) = T := by rw [hT]; unfold partitionEqual; rw [hc, Nat.add_sub_cancel]
  rw [← hT]
  have HT := Lib.hid hT2
  clear R hz S hT hT2 hc hb hpb
  go_enter Try.func56, Try.ntmps56
  obtain ⟨d1, hd1⟩ : ∃ dn, dn = swp d (a) (p) := ⟨_, rfl⟩
  have Hd1 := Lib.hid hd1
  clear hd1
  go_upto_region 1 with fail
  go_cut [18] (fun v wx => Hid (SR w0 g off z d1 wx))
  case first =>
    have p0 := HS.out.cell Rh.out Hz.out (i := a) (by omega)
    have p1 := HS.out.cell Rh.out Hz.out (i := p) (by omega)
    have f0 := HS.out.frozen Rh.out Hz.out (i := a) (by omega)
    have f1 := HS.out.frozen Rh.out Hz.out (i := p) (by omega)
    have hsw := HS.out.swap Rh.out (i := a) (j := p) (by omega) (by omega)
    obtain ⟨u, p2⟩ := HS.out.second Rh.out Hz.out (i := a) (j := p) (by omega) (by omega) (.int .u64 d[p]!)
    obtain ⟨d1', hdn⟩ : ∃ dn, dn = swp d (a) (p) := ⟨_, rfl⟩
    rw [← hdn] at hsw
    have Hdn := Lib.hid hdn
    obtain ⟨x, hx⟩ : ∃ x, x = d[a]! := ⟨_, rfl⟩
    obtain ⟨y, hy⟩ : ∃ y, y = d[p]! := ⟨_, rfl⟩
    rw [← hx] at p0 hsw
    rw [← hy] at p1 hsw p2
    have Hsw := Lib.hid hsw
    clear hsw hx hy hdn
    go_wp2_with fail
    go_big_region_o
    clear p0 p1 f0 f1 p2
    generalize ((W.setCell ⟨g, off + (a), none⟩ (.int .u64 y)).setCell ⟨g, off + (p), none⟩ (.int .u64 x)).drew = w9 at Hsw ⊢
    go_wp2_with fail
    go_meet
    exact (by rw [Hd1.out, ← Hdn.out]; exact Hsw)
  case rest =>
  have Hcut := hcut
  clear HS hcut
  have HS := Hcut
  clear Hcut
  generalize wc = w1 at *
  rw [← Hd1.out] at HT
  clear Hd1
  go_wp2_with fail
  have H0 : Hid (SR w0 g off z d1 w1 ∧ partEqLoop ltInt a (a + 1) c d1 = T) := ⟨HS.out, HT.out⟩
  clear HS HT
  go_loopw [9, 10] (fun iv jv wr => ∃ (i j : Nat) (dk : Array Int), iv = .int .i64 (i : Int) ∧ jv = .int .i64 (j : Int) ∧ a + 1 ≤ i ∧ i ≤ j + 1 ∧ j ≤ c ∧ Hid (SR w0 g off z dk wr ∧ partEqLoop ltInt a i j dk = T)) (fun iv jv _ => (intOf jv).toNat + 1 - (intOf iv).toNat)
  case atStart => exact ⟨a + 1, c, d1, (by first | rfl | simp), (by first | rfl | simp), by omega, by omega, Nat.le_refl _, H0⟩
  case round =>
    obtain ⟨i0, j0, dk, rfl, rfl, hi0, hij0, hj0, Hs⟩ := hrel
    have HS := Lib.hid Hs.out.1
    have HT := Lib.hid Hs.out.2
    clear Hs H0
    generalize wr = w2 at *
    obtain ⟨I, hI⟩ : ∃ k, k = scanUp (fun x => !ltInt dk[a]! x) dk (j0) (i0) := ⟨_, rfl⟩
    have HI := Lib.hid hI
    clear hI
    go_upto_block 2 with fail
    go_cut [9] (fun v wx => v = .int .i64 (I : Int) ∧ Hid (SR w0 g off z dk wx))
    case first =>
      go_wp2_with fail
      have Hst0 : Hid (SR w0 g off z dk w2 ∧ scanUp (fun x => !ltInt dk[a]! x) dk (j0) (i0) = I) := ⟨HS.out, HI.out.symm⟩
      go_loopw [9] (fun iv wr => ∃ i : Nat, iv = .int .i64 (i : Int) ∧ 1 ≤ i ∧ i ≤ z ∧ Hid (SR w0 g off z dk wr ∧ scanUp (fun x => !ltInt dk[a]! x) dk (j0) i = I)) (fun iv _ => I - (intOf iv).toNat)
      case atStart => exact ⟨i0, (by first | rfl | simp), by omega, by omega, Hst0⟩
      case round =>
        obtain ⟨i, rfl, hi0, hiz, Hs⟩ := hrel
        have hst := scanUp_step (fun x => !ltInt dk[a]! x) dk (j0) i
        by_cases hij : i ≤ j0
        case neg =>
          rw [decide_eq_false hij, Bool.false_and, if_neg (by decide)] at hst
          have HE := Lib.hid (hst.symm.trans Hs.out.2)
          have HSi := Lib.hid Hs.out.1
          have hij2 : ¬ (i : Int) ≤ ((j0 : Nat) : Int) := by omega
          have hij3 : decide ((i : Int) ≤ ((j0 : Nat) : Int)) = false := decide_eq_false hij2
          have hij4 : decide (i ≤ j0) = false := decide_eq_false hij
          clear hst Hs
          go_wp2_with fail
          go_quiet (fail)
          have HSj : Hid (SR w0 g off z dk (wr.drewN nq)) := HSi.out.drewN nq
          clear HSi
          go_wp2_with fail
          go_meet
          exact ⟨by rw [← HE.out], HSj⟩
        have hij2 : (i : Int) ≤ ((j0 : Nat) : Int) := by omega
        have hij3 : decide ((i : Int) ≤ ((j0 : Nat) : Int)) = true := decide_eq_true hij2
        have hij4 : decide (i ≤ j0) = true := decide_eq_true hij
        have hizz : (i : Int) < (z : Int) := by omega
        have q0 := Hs.out.1.cell Rh.out Hz.out (i := i) (by omega)
        have q1 := Hs.out.1.cell Rh.out Hz.out (i := a) (by omega)
        rw [decide_eq_true hij, Bool.true_and] at hst
        try dsimp only at hst
        obtain ⟨x, hx⟩ : ∃ x, x = dk[i]! := ⟨_, rfl⟩
        obtain ⟨y, hy⟩ : ∃ y, y = dk[a]! := ⟨_, rfl⟩
        have hst1 : scanUp (fun x => !ltInt dk[a]! x) dk (j0) i = if (!ltInt y x) = true then scanUp (fun x => !ltInt dk[a]! x) dk (j0) (i + 1) else i := by rw [hx, hy]; exact hst
        rw [← hx] at q0
        rw [← hy] at q1
        clear hx hy hst
        have hst := hst1
        clear hst1
        cases hl : ltInt y x with
        | true =>
          have HLc := Lib.hid fun w => less_any y x w
          rw [hl] at HLc
          rw [hl, if_neg (by decide)] at hst
          have HE := Lib.hid (hst.symm.trans Hs.out.2)
          have HSi := Lib.hid Hs.out.1
          clear hl hst Hs
          go_wp2_with fail
          go_quiet ((go_at_call 55; exact Calls.quiet_of_same (HLc.out _)))
          have HSj : Hid (SR w0 g off z dk (wr.drewN nq)) := HSi.out.drewN nq
          clear q0 q1 HSi
          go_wp2_with fail
          go_meet
          exact ⟨by rw [← HE.out], HSj⟩
        | false =>
          have HLc := Lib.hid fun w => less_any y x w
          rw [hl] at HLc
          rw [hl, if_pos (by rfl)] at hst
          have HE := Lib.hid (hst.symm.trans Hs.out.2)
          have HSi := Lib.hid Hs.out.1
          clear hl hst Hs
          go_wp2_with fail
          go_quiet ((go_at_call 55; exact Calls.quiet_of_same (HLc.out _)))
          have HSj : Hid (SR w0 g off z dk (wr.drewN nq)) := HSi.out.drewN nq
          clear q0 q1 HSi
          go_wp2_with fail
          go_roundw
          case rel => exact ⟨i + 1, (by first | rfl | simp), by omega, by omega, Lib.hid ⟨HSj.out, HE.out⟩⟩
          case measure => have := scanUp_ge (fun x => !ltInt dk[a]! x) dk (j0) (i + 1); have := HE.out; simp [intOf]; omega
    case rest =>
    obtain ⟨rfl, Hcut⟩ := hcut
    clear HS
    have HS := Hcut
    clear Hcut
    generalize wc = w3 at *
    have hI1 : i0 ≤ I := by rw [HI.out]; exact scanUp_ge _ _ _ _
    have hI2 : I ≤ j0 + 1 := by rw [HI.out]; exact (scanUp_spec _ dk j0 _ i0 rfl).2.1 hij0
    obtain ⟨J, hJ⟩ : ∃ k, k = scanDown (fun x => ltInt dk[a]! x) dk (I) (j0) := ⟨_, rfl⟩
    have HJ := Lib.hid hJ
    clear hJ
    go_upto_block 4 with fail
    go_cut [10] (fun v wx => v = .int .i64 (J : Int) ∧ Hid (SR w0 g off z dk wx))
    case first =>
      go_wp2_with fail
      have Hst0 : Hid (SR w0 g off z dk w3 ∧ scanDown (fun x => ltInt dk[a]! x) dk (I) (j0) = J) := ⟨HS.out, HJ.out.symm⟩
      go_loopw [10] (fun iv wr => ∃ i : Nat, iv = .int .i64 (i : Int) ∧ i < z ∧ Hid (SR w0 g off z dk wr ∧ scanDown (fun x => ltInt dk[a]! x) dk (I) i = J)) (fun iv _ => (intOf iv).toNat)
      case atStart => exact ⟨j0, (by first | rfl | simp), by omega, Hst0⟩
      case round =>
        obtain ⟨i, rfl, hiz, Hs⟩ := hrel
        by_cases hij : I ≤ i
        case neg =>
          have hst : scanDown (fun x => ltInt dk[a]! x) dk (I) i = i := by
            cases i with
            | zero => rfl
            | succ i => rw [scanDown, decide_eq_false hij, Bool.false_and, if_neg (by decide)]
          have HE := Lib.hid (hst.symm.trans Hs.out.2)
          have HSi := Lib.hid Hs.out.1
          have hij2 : ¬ ((I : Nat) : Int) ≤ (i : Int) := by omega
          have hij3 : decide (((I : Nat) : Int) ≤ (i : Int)) = false := decide_eq_false hij2
          have hij4 : decide (I ≤ i) = false := decide_eq_false hij
          clear hst Hs
          go_wp2_with fail
          go_quiet (fail)
          have HSj : Hid (SR w0 g off z dk (wr.drewN nq)) := HSi.out.drewN nq
          clear HSi
          go_wp2_with fail
          go_meet
          exact ⟨by rw [← HE.out], HSj⟩
        obtain ⟨i, rfl⟩ : ∃ k, i = k + 1 := ⟨i - 1, by omega⟩
        have hst : scanDown (fun x => ltInt dk[a]! x) dk (I) (i + 1) = if (decide (I ≤ i + 1) && ((fun x => ltInt dk[a]! x) dk[i + 1]!)) = true then scanDown (fun x => ltInt dk[a]! x) dk (I) i else i + 1 := rfl
        have hij2 : ((I : Nat) : Int) ≤ (i : Int) + 1 := by omega
        have hij3 : decide (((I : Nat) : Int) ≤ (i : Int) + 1) = true := decide_eq_true hij2
        have hij4 : decide (I ≤ i + 1) = true := decide_eq_true hij
        have hizz : (i : Int) + 1 < (z : Int) := by omega
        have q0 := Hs.out.1.cell Rh.out Hz.out (i := i + 1) (by omega)
        have q1 := Hs.out.1.cell Rh.out Hz.out (i := a) (by omega)
        rw [decide_eq_true hij, Bool.true_and] at hst
        try dsimp only at hst
        obtain ⟨x, hx⟩ : ∃ x, x = dk[i + 1]! := ⟨_, rfl⟩
        obtain ⟨y, hy⟩ : ∃ y, y = dk[a]! := ⟨_, rfl⟩
        have hst1 : scanDown (fun x => ltInt dk[a]! x) dk (I) (i + 1) = if (ltInt y x) = true then scanDown (fun x => ltInt dk[a]! x) dk (I) i else i + 1 := by rw [hx, hy]; exact hst
        rw [← hx] at q0
        rw [← hy] at q1
        clear hx hy hst
        have hst := hst1
        clear hst1
        cases hl : ltInt y x with
        | true =>
          have HLc := Lib.hid fun w => less_any y x w
          rw [hl] at HLc
          rw [hl, if_pos (by rfl)] at hst
          have HE := Lib.hid (hst.symm.trans Hs.out.2)
          have HSi := Lib.hid Hs.out.1
          clear hl hst Hs
          go_wp2_with fail
          go_quiet ((go_at_call 55; exact Calls.quiet_of_same (HLc.out _)))
          have HSj : Hid (SR w0 g off z dk (wr.drewN nq)) := HSi.out.drewN nq
          clear q0 q1 HSi
          go_wp2_with fail
          go_roundw
          case rel => exact ⟨i, (by first | rfl | simp), by omega, Lib.hid ⟨HSj.out, HE.out⟩⟩
          case measure => simp [intOf]
        | false =>
          have HLc := Lib.hid fun w => less_any y x w
          rw [hl] at HLc
          rw [hl, if_neg (by decide)] at hst
          have HE := Lib.hid (hst.symm.trans Hs.out.2)
          have HSi := Lib.hid Hs.out.1
          clear hl hst Hs
          go_wp2_with fail
          go_quiet ((go_at_call 55; exact Calls.quiet_of_same (HLc.out _)))
          have HSj : Hid (SR w0 g off z dk (wr.drewN nq)) := HSi.out.drewN nq
          clear q0 q1 HSi
          go_wp2_with fail
          go_meet
          exact ⟨by rw [← HE.out], HSj⟩
    case rest =>
    obtain ⟨rfl, Hcut⟩ := hcut
    clear HS
    have HS := Hcut
    clear Hcut
    generalize wc = w4 at *
    have hJ1 : J ≤ j0 := by rw [HJ.out]; exact scanDown_le _ _ _ _
    have hJ2 : I ≤ J + 1 := by rw [HJ.out]; exact (scanDown_spec _ dk I j0).2.1 hI2
    have HT2 := HT.out
    rw [partEqLoop_eq, ← HI.out, ← HJ.out] at HT2
    by_cases hgt : I > J
    case pos =>
      rw [if_pos hgt] at HT2
      have hgt2 : (J : Int) < (I : Int) := by omega
      have Hf : Hid (T.1 = I ∧ SR w0 g off z T.2 w4) := by rw [← HT2]; exact ⟨rfl, HS.out⟩
      clear HT2 HT HS HI HJ
      go_wp2_with fail
      go_ret
      exact ⟨by rw [Hf.out.1]; rfl, Hf.out.2⟩
    case neg =>
      rw [if_neg hgt] at HT2
      have HT3 := Lib.hid HT2
      have hgt2 : ¬ (J : Int) < (I : Int) := by omega
      have hIJ : I < J := by
        have x1 : I ≤ j0 → (!ltInt dk[a]! dk[I]!) = false := fun h => by
          have q := (scanUp_spec (fun x => !ltInt dk[a]! x) dk j0 _ i0 rfl).2.2.2
          rw [← HI.out] at q
          exact q h
        have x2 : I ≤ J → 0 < J → ltInt dk[a]! dk[J]! = false := fun h h' => by
          have q := (scanDown_spec (fun x => ltInt dk[a]! x) dk I j0).2.2.2
          rw [← HJ.out] at q
          exact q h h'
        rcases Nat.lt_or_ge I J with q | q
        · exact q
        · have e : J = I := by omega
          have y1 := x1 (by omega)
          have y2 := x2 (by omega) (by omega)
          rw [e] at y2
          rw [y2] at y1
          cases y1
      have hJz : (J : Int) < (z : Int) := by omega
      have hIz : (I : Int) < (z : Int) := by omega
      clear HT2 HT HI HJ
      obtain ⟨d2, hd2⟩ : ∃ dn, dn = swp dk (I) (J) := ⟨_, rfl⟩
      have Hd2 := Lib.hid hd2
      clear hd2
      go_upto_region 8 with fail
      go_cut [72] (fun v wx => Hid (SR w0 g off z d2 wx))
      case first =>
        have p0 := HS.out.cell Rh.out Hz.out (i := I) (by omega)
        have p1 := HS.out.cell Rh.out Hz.out (i := J) (by omega)
        have f0 := HS.out.frozen Rh.out Hz.out (i := I) (by omega)
        have f1 := HS.out.frozen Rh.out Hz.out (i := J) (by omega)
        have hsw := HS.out.swap Rh.out (i := I) (j := J) (by omega) (by omega)
        obtain ⟨u, p2⟩ := HS.out.second Rh.out Hz.out (i := I) (j := J) (by omega) (by omega) (.int .u64 dk[J]!)
        obtain ⟨d2', hdn⟩ : ∃ dn, dn = swp dk (I) (J) := ⟨_, rfl⟩
        rw [← hdn] at hsw
        have Hdn := Lib.hid hdn
        obtain ⟨x, hx⟩ : ∃ x, x = dk[I]! := ⟨_, rfl⟩
        obtain ⟨y, hy⟩ : ∃ y, y = dk[J]! := ⟨_, rfl⟩
        rw [← hx] at p0 hsw
        rw [← hy] at p1 hsw p2
        have Hsw := Lib.hid hsw
        clear hsw hx hy hdn
        go_wp2_with fail
        go_big_region_o
        clear p0 p1 f0 f1 p2
        generalize ((w4.setCell ⟨g, off + (I), none⟩ (.int .u64 y)).setCell ⟨g, off + (J), none⟩ (.int .u64 x)).drew = w9 at Hsw ⊢
        go_wp2_with fail
        go_meet
        exact (by rw [Hd2.out, ← Hdn.out]; exact Hsw)
      case rest =>
      have Hcut := hcut
      clear HS hcut
      have HS := Hcut
      clear Hcut
      generalize wc = w5 at *
      rw [← Hd2.out] at HT3
      clear Hd2
      have hJ3 : 1 ≤ (J : Int) := by omega
      have hJe : wrap64 ((J : Int) - 1) = ((J - 1 : Nat) : Int) := by rw [wrap_small (by omega)]; omega
      obtain ⟨J', hJ'⟩ : ∃ k, J = k + 1 := ⟨J - 1, by omega⟩
      subst hJ'
      rw [Nat.add_sub_cancel] at HT3
      clear hJe hJ3
      go_wp2_with fail
      go_roundw
      case rel => exact ⟨I + 1, J', d2, (by first | rfl | simp), (by first | rfl | simp), by omega, by omega, by omega, Lib.hid ⟨HS.out, HT3.out⟩⟩
      case measure => simp [intOf]; omega
end
end Go.Proofs.Ytejimgjonhaocaa
