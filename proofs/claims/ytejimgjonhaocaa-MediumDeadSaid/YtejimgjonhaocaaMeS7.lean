/-
  slices' partitionOrdered at numbers of 64 bits.
-/
import Derived.Test.YtejimgjonhaocaaMeS6
namespace Go.Proofs.Ytejimgjonhaocaa
open Go.RowKit Go.Maps Go.Shelf Go.Lib Go.Sort

section
set_option maxRecDepth 100000
set_option maxHeartbeats 4000000
variable {w0 W : World} {g off z cap : Nat} {d0 : Array Int}
theorem part_any (R : Row1 eU w0 g off d0) (hz : d0.size = z) (hz1 : z ≤ 1000000) (d : Array Int) (a b p : Nat) (hap : a ≤ p) (hpb : p < b) (hb : b ≤ z) (S : SR w0 g off z d W) :
    Calls Try.prog 57 #[.slice (some ⟨g, off, none⟩) z cap, .int .i64 (a : Int), .int .i64 (b : Int), .int .i64 (p : Int)] W fun e w' => e = .returned (.tuple #[.int .i64 ((partition ltInt d a b p).1 : Nat), .bool (partition ltInt d a b p).2.1]) ∧ SR w0 g off z (partition ltInt d a b p).2.2 w' := by
  have mixed : Try.prog.follows Departure.mixedOrders = true := by kernel_rfl
  have Rh := Lib.hid R
  have Hz := Lib.hid hz
  have HS := Lib.hid S
  have hz2 : (z : Int) ≤ 1000000 := by omega
  have haz : (a : Int) < (z : Int) := by omega
  have hpz : (p : Int) < (z : Int) := by omega
  have hbz : (b : Int) ≤ (z : Int) := by omega
  obtain ⟨c, hc⟩ : ∃ c, b = c + 1 := ⟨b - 1, by omega⟩
  have hbc : (b : Int) - 1 = (c : Int) := by omega
  have hca : a ≤ c := by omega
  have hcz : c < z := by omega
  obtain ⟨T, hT⟩ : ∃ T, T = partition ltInt d a b p := ⟨_, rfl⟩
  have hT2 : T = if scanUp (fun x => ltInt x (swp d a p)[a]!) (swp d a p) c (a + 1) > scanDown (fun x => !ltInt x (swp d a p)[a]!) (swp d a p) (scanUp (fun x => ltInt x (swp d a p)[a]!) (swp d a p) c (a + 1)) c
      then (scanDown (fun x => !ltInt x (swp d a p)[a]!) (swp d a p) (scanUp (fun x => ltInt x (swp d a p)[a]!) (swp d a p) c (a + 1)) c, true, swp (swp d a p) (scanDown (fun x => !ltInt x (swp d a p)[a]!) (swp d a p) (scanUp (fun x => ltInt x (swp d a p)[a]!) (swp d a p) c (a + 1)) c) a)
      else ((partLoop ltInt a (scanUp (fun x => ltInt x (swp d a p)[a]!) (swp d a p) c (a + 1) + 1) (scanDown (fun x => !ltInt x (swp d a p)[a]!) (swp d a p) (scanUp (fun x => ltInt x (swp d a p)[a]!) (swp d a p) c (a + 1)) c - 1) (swp (swp d a p) (scanUp (fun x => ltInt x (swp d a p)[a]!) (swp d a p) c (a + 1)) (scanDown (fun x => !ltInt x (swp d a p)[a]!) (swp d a p) (scanUp (fun x => ltInt x (swp d a p)[a]!) (swp d a p) c (a + 1)) c))).1, false,
        swp (partLoop ltInt a (scanUp (fun x => ltInt x (swp d a p)[a]!) (swp d a p) c (a + 1) + 1) (scanDown (fun x => !ltInt x (swp d a p)[a]!) (swp d a p) (scanUp (fun x => ltInt x (swp d a p)[a]!) (swp d a p) c (a + 1)) c - 1) (swp (swp d a p) (scanUp (fun x => ltInt x (swp d a p)[a]!) (swp d a p) c (a + 1)) (scanDown (fun x => !ltInt x (swp d a p)[a]!) (swp d a p) (scanUp (fun x => ltInt x (swp d a p)[a]!) (swp d a p) c (a + 1)) c))).2
          (partLoop ltInt a (scanUp (fun x => ltInt x (swp d a p)[a]!) (swp d a p) c (a + 1) + 1) (scanDown (fun x => !ltInt x (swp d a p)[a]!) (swp d a p) (scanUp (fun x => ltInt x (swp d a p)[a]!) (swp d a p) c (a + 1)) c - 1) (swp (swp d a p) (scanUp (fun x => ltInt x (swp d a p)[a]!) (swp d a p) c (a + 1)) (scanDown (fun x => !ltInt x (swp d a p)[a]!) (swp d a p) (scanUp (fun x => ltInt x (swp d a p)[a]!) (swp d a p) c (a + 1)) c))).1 a) := by
    rw [hT]; unfold partition; rw [hc, Nat.add_sub_cancel]
  rw [← hT]
  have HT := Lib.hid hT2
  clear R hz S hT hT2 hc hb hpb
  go_enter Try.func57, Try.ntmps57
  obtain ⟨d1, hd1⟩ : ∃ dn, dn = swp d (a) (p) := ⟨_, rfl⟩
  have Hd1 := Lib.hid hd1
  clear hd1
  go_upto_region 1 with fail
  go_cut [19] (fun v wx => Hid (SR w0 g off z d1 wx))
  case first =>
    have p0 := HS.out.cell Rh.out Hz.out (i := a) (by omega)
    have p1 := HS.out.cell Rh.out Hz.out (i := p) (by omega)
    have f0 := HS.out.frozen Rh.out Hz.out (i := a) (by omega)
    have f1 := HS.out.frozen Rh.out Hz.out (i := p) (by omega)
    have hsw := HS.out.swap Rh.out (i := a) (j := p) (by omega) (by omega)
    obtain ⟨u, p2⟩ := HS.out.second Rh.out Hz.out (i := a) (j := p) (by omega) (by omega) (.int .u64 d[p]!)
    obtain ⟨d1', hdn⟩ : ∃ dn, dn = swp d (a) (p) := ⟨_, rfl⟩
    rw [← hdn] at hsw
    have Hdn := Lib.hid hdn
    obtain ⟨x, hx⟩ : ∃ x, x = d[a]! := ⟨_, rfl⟩
    obtain ⟨y, hy⟩ : ∃ y, y = d[p]! := ⟨_, rfl⟩
    rw [← hx] at p0 hsw
    rw [← hy] at p1 hsw p2
    have Hsw := Lib.hid hsw
    clear hsw hx hy hdn
    go_wp2_with fail
    go_big_region_o
    clear p0 p1 f0 f1 p2
    generalize ((W.setCell ⟨g, off + (a), none⟩ (.int .u64 y)).setCell ⟨g, off + (p), none⟩ (.int .u64 x)).drew = w9 at Hsw ⊢
    go_wp2_with fail
    go_meet
    exact (by rw [Hd1.out, ← Hdn.out]; exact Hsw)
  case rest =>
  have Hcut := hcut
  clear HS hcut
  have HS := Hcut
  clear Hcut
  generalize wc = w1 at *
  rw [← Hd1.out] at HT
  clear Hd1
  obtain ⟨I, hI⟩ : ∃ k, k = scanUp (fun x => ltInt x d1[a]!) d1 (c) (a + 1) := ⟨_, rfl⟩
  have HI := Lib.hid hI
  clear hI
  go_upto_block 0 with fail
  go_cut [10] (fun v wx => v = .int .i64 (I : Int) ∧ Hid (SR w0 g off z d1 wx))
  case first =>
    go_wp2_with fail
    have Hst0 : Hid (SR w0 g off z d1 w1 ∧ scanUp (fun x => ltInt x d1[a]!) d1 (c) (a + 1) = I) := ⟨HS.out, HI.out.symm⟩
    go_loopw [10] (fun iv wr => ∃ i : Nat, iv = .int .i64 (i : Int) ∧ 1 ≤ i ∧ i ≤ z ∧ Hid (SR w0 g off z d1 wr ∧ scanUp (fun x => ltInt x d1[a]!) d1 (c) i = I)) (fun iv _ => I - (intOf iv).toNat)
    case atStart => exact ⟨a + 1, (by first | rfl | simp), by omega, by omega, Hst0⟩
    case round =>
      obtain ⟨i, rfl, hi0, hiz, Hs⟩ := hrel
      have hst := scanUp_step (fun x => ltInt x d1[a]!) d1 (c) i
      by_cases hij : i ≤ c
      case neg =>
        rw [decide_eq_false hij, Bool.false_and, if_neg (by decide)] at hst
        have HE := Lib.hid (hst.symm.trans Hs.out.2)
        have HSi := Lib.hid Hs.out.1
        have hij2 : ¬ (i : Int) ≤ ((c : Nat) : Int) := by omega
        have hij3 : decide ((i : Int) ≤ ((c : Nat) : Int)) = false := decide_eq_false hij2
        have hij4 : decide (i ≤ c) = false := decide_eq_false hij
        clear hst Hs
        go_wp2_with fail
        go_quiet (fail)
        have HSj : Hid (SR w0 g off z d1 (wr.drewN nq)) := HSi.out.drewN nq
        clear HSi
        go_wp2_with fail
        go_meet
        exact ⟨by rw [← HE.out], HSj⟩
      have hij2 : (i : Int) ≤ ((c : Nat) : Int) := by omega
      have hij3 : decide ((i : Int) ≤ ((c : Nat) : Int)) = true := decide_eq_true hij2
      have hij4 : decide (i ≤ c) = true := decide_eq_true hij
      have hizz : (i : Int) < (z : Int) := by omega
      have q0 := Hs.out.1.cell Rh.out Hz.out (i := i) (by omega)
      have q1 := Hs.out.1.cell Rh.out Hz.out (i := a) (by omega)
      rw [decide_eq_true hij, Bool.true_and] at hst
      try dsimp only at hst
      obtain ⟨x, hx⟩ : ∃ x, x = d1[i]! := ⟨_, rfl⟩
      obtain ⟨y, hy⟩ : ∃ y, y = d1[a]! := ⟨_, rfl⟩
      have hst1 : scanUp (fun x => ltInt x d1[a]!) d1 (c) i = if (ltInt x y) = true then scanUp (fun x => ltInt x d1[a]!) d1 (c) (i + 1) else i := by rw [hx, hy]; exact hst
      rw [← hx] at q0
      rw [← hy] at q1
      clear hx hy hst
      have hst := hst1
      clear hst1
      cases hl : ltInt x y with
      | true =>
        have HLc := Lib.hid fun w => less_any x y w
        rw [hl] at HLc
        rw [hl, if_pos (by rfl)] at hst
        have HE := Lib.hid (hst.symm.trans Hs.out.2)
        have HSi := Lib.hid Hs.out.1
        clear hl hst Hs
        go_wp2_with fail
        go_quiet ((go_at_call 55; exact Calls.quiet_of_same (HLc.out _)))
        have HSj : Hid (SR w0 g off z d1 (wr.drewN nq)) := HSi.out.drewN nq
        clear q0 q1 HSi
        go_wp2_with fail
        go_roundw
        case rel => exact ⟨i + 1, (by first | rfl | simp), by omega, by omega, Lib.hid ⟨HSj.out, HE.out⟩⟩
        case measure => have := scanUp_ge (fun x => ltInt x d1[a]!) d1 (c) (i + 1); have := HE.out; simp [intOf]; omega
      | false =>
        have HLc := Lib.hid fun w => less_any x y w
        rw [hl] at HLc
        rw [hl, if_neg (by decide)] at hst
        have HE := Lib.hid (hst.symm.trans Hs.out.2)
        have HSi := Lib.hid Hs.out.1
        clear hl hst Hs
        go_wp2_with fail
        go_quiet ((go_at_call 55; exact Calls.quiet_of_same (HLc.out _)))
        have HSj : Hid (SR w0 g off z d1 (wr.drewN nq)) := HSi.out.drewN nq
        clear q0 q1 HSi
        go_wp2_with fail
        go_meet
        exact ⟨by rw [← HE.out], HSj⟩
  case rest =>
  obtain ⟨rfl, Hcut⟩ := hcut
  clear HS
  have HS := Hcut
  clear Hcut
  generalize wc = w2 at *
  have hI1 : a + 1 ≤ I := by rw [HI.out]; exact scanUp_ge _ _ _ _
  have hI2 : I ≤ c + 1 := by rw [HI.out]; exact (scanUp_spec _ d1 c _ (a + 1) rfl).2.1 (by omega)
  obtain ⟨J, hJ⟩ : ∃ k, k = scanDown (fun x => !ltInt x d1[a]!) d1 (I) (c) := ⟨_, rfl⟩
  have HJ := Lib.hid hJ
  clear hJ
  go_upto_block 2 with fail
  go_cut [11] (fun v wx => v = .int .i64 (J : Int) ∧ Hid (SR w0 g off z d1 wx))
  case first =>
    go_wp2_with fail
    have Hst0 : Hid (SR w0 g off z d1 w2 ∧ scanDown (fun x => !ltInt x d1[a]!) d1 (I) (c) = J) := ⟨HS.out, HJ.out.symm⟩
    go_loopw [11] (fun iv wr => ∃ i : Nat, iv = .int .i64 (i : Int) ∧ i < z ∧ Hid (SR w0 g off z d1 wr ∧ scanDown (fun x => !ltInt x d1[a]!) d1 (I) i = J)) (fun iv _ => (intOf iv).toNat)
    case atStart => exact ⟨c, (by first | rfl | simp), by omega, Hst0⟩
    case round =>
      obtain ⟨i, rfl, hiz, Hs⟩ := hrel
      by_cases hij : I ≤ i
      case neg =>
        have hst : scanDown (fun x => !ltInt x d1[a]!) d1 (I) i = i := by
          cases i with
          | zero => rfl
          | succ i => rw [scanDown, decide_eq_false hij, Bool.false_and, if_neg (by decide)]
        have HE := Lib.hid (hst.symm.trans Hs.out.2)
        have HSi := Lib.hid Hs.out.1
        have hij2 : ¬ ((I : Nat) : Int) ≤ (i : Int) := by omega
        have hij3 : decide (((I : Nat) : Int) ≤ (i : Int)) = false := decide_eq_false hij2
        have hij4 : decide (I ≤ i) = false := decide_eq_false hij
        clear hst Hs
        go_wp2_with fail
        go_quiet (fail)
        have HSj : Hid (SR w0 g off z d1 (wr.drewN nq)) := HSi.out.drewN nq
        clear HSi
        go_wp2_with fail
        go_meet
        exact ⟨by rw [← HE.out], HSj⟩
      obtain ⟨i, rfl⟩ : ∃ k, i = k + 1 := ⟨i - 1, by omega⟩
      have hst : scanDown (fun x => !ltInt x d1[a]!) d1 (I) (i + 1) = if (decide (I ≤ i + 1) && ((fun x => !ltInt x d1[a]!) d1[i + 1]!)) = true then scanDown (fun x => !ltInt x d1[a]!) d1 (I) i else i + 1 := rfl
      have hij2 : ((I : Nat) : Int) ≤ (i : Int) + 1 := by omega
      have hij3 : decide (((I : Nat) : Int) ≤ (i : Int) + 1) = true := decide_eq_true hij2
      have hij4 : decide (I ≤ i + 1) = true := decide_eq_true hij
      have hizz : (i : Int) + 1 < (z : Int) := by omega
      have q0 := Hs.out.1.cell Rh.out Hz.out (i := i + 1) (by omega)
      have q1 := Hs.out.1.cell Rh.out Hz.out (i := a) (by omega)
      rw [decide_eq_true hij, Bool.true_and] at hst
      try dsimp only at hst
      obtain ⟨x, hx⟩ : ∃ x, x = d1[i + 1]! := ⟨_, rfl⟩
      obtain ⟨y, hy⟩ : ∃ y, y = d1[a]! := ⟨_, rfl⟩
      have hst1 : scanDown (fun x => !ltInt x d1[a]!) d1 (I) (i + 1) = if (!ltInt x y) = true then scanDown (fun x => !ltInt x d1[a]!) d1 (I) i else i + 1 := by rw [hx, hy]; exact hst
      rw [← hx] at q0
      rw [← hy] at q1
      clear hx hy hst
      have hst := hst1
      clear hst1
      cases hl : ltInt x y with
      | true =>
        have HLc := Lib.hid fun w => less_any x y w
        rw [hl] at HLc
        rw [hl, if_neg (by decide)] at hst
        have HE := Lib.hid (hst.symm.trans Hs.out.2)
        have HSi := Lib.hid Hs.out.1
        clear hl hst Hs
        go_wp2_with fail
        go_quiet ((go_at_call 55; exact Calls.quiet_of_same (HLc.out _)))
        have HSj : Hid (SR w0 g off z d1 (wr.drewN nq)) := HSi.out.drewN nq
        clear q0 q1 HSi
        go_wp2_with fail
        go_meet
        exact ⟨by rw [← HE.out], HSj⟩
      | false =>
        have HLc := Lib.hid fun w => less_any x y w
        rw [hl] at HLc
        rw [hl, if_pos (by rfl)] at hst
        have HE := Lib.hid (hst.symm.trans Hs.out.2)
        have HSi := Lib.hid Hs.out.1
        clear hl hst Hs
        go_wp2_with fail
        go_quiet ((go_at_call 55; exact Calls.quiet_of_same (HLc.out _)))
        have HSj : Hid (SR w0 g off z d1 (wr.drewN nq)) := HSi.out.drewN nq
        clear q0 q1 HSi
        go_wp2_with fail
        go_roundw
        case rel => exact ⟨i, (by first | rfl | simp), by omega, Lib.hid ⟨HSj.out, HE.out⟩⟩
        case measure => simp [intOf]
  case rest =>
  obtain ⟨rfl, Hcut⟩ := hcut
  clear HS
  have HS := Hcut
  clear Hcut
  generalize wc = w3 at *
  have hJ1 : J ≤ c := by rw [HJ.out]; exact scanDown_le _ _ _ _
  have hJ2 : I ≤ J + 1 := by rw [HJ.out]; exact (scanDown_spec _ d1 I c).2.1 hI2
  rw [← HI.out, ← HJ.out] at HT
  by_cases hgt : I > J
  case pos =>
    rw [if_pos hgt] at HT
    have hgt2 : (J : Int) < (I : Int) := by omega
    have hJz : (J : Int) < (z : Int) := by omega
    clear HI HJ
    obtain ⟨d2, hd2⟩ : ∃ dn, dn = swp d1 (J) (a) := ⟨_, rfl⟩
    have Hd2 := Lib.hid hd2
    clear hd2
    go_upto_region 8 with fail
    go_cut [73] (fun v wx => Hid (SR w0 g off z d2 wx))
    case first =>
      have p0 := HS.out.cell Rh.out Hz.out (i := J) (by omega)
      have p1 := HS.out.cell Rh.out Hz.out (i := a) (by omega)
      have f0 := HS.out.frozen Rh.out Hz.out (i := J) (by omega)
      have f1 := HS.out.frozen Rh.out Hz.out (i := a) (by omega)
      have hsw := HS.out.swap Rh.out (i := J) (j := a) (by omega) (by omega)
      obtain ⟨u, p2⟩ := HS.out.second Rh.out Hz.out (i := J) (j := a) (by omega) (by omega) (.int .u64 d1[a]!)
      obtain ⟨d2', hdn⟩ : ∃ dn, dn = swp d1 (J) (a) := ⟨_, rfl⟩
      rw [← hdn] at hsw
      have Hdn := Lib.hid hdn
      obtain ⟨x, hx⟩ : ∃ x, x = d1[J]! := ⟨_, rfl⟩
      obtain ⟨y, hy⟩ : ∃ y, y = d1[a]! := ⟨_, rfl⟩
      rw [← hx] at p0 hsw
      rw [← hy] at p1 hsw p2
      have Hsw := Lib.hid hsw
      clear hsw hx hy hdn
      go_wp2_with fail
      go_big_region_o
      clear p0 p1 f0 f1 p2
      generalize ((w3.setCell ⟨g, off + (J), none⟩ (.int .u64 y)).setCell ⟨g, off + (a), none⟩ (.int .u64 x)).drew = w9 at Hsw ⊢
      go_wp2_with fail
      go_meet
      exact (by rw [Hd2.out, ← Hdn.out]; exact Hsw)
    case rest =>
    have Hcut := hcut
    clear HS hcut
    have HS := Hcut
    clear Hcut
    generalize wc = w4 at *
    have Hf : Hid (T = (J, true, d2)) := Lib.hid (by rw [HT.out, Hd2.out])
    clear HT Hd2
    go_wp2_with fail
    go_ret2
    exact ⟨by rw [Hf.out]; rfl, by rw [Hf.out]; exact HS.out⟩
  case neg =>
  rw [if_neg hgt] at HT
  have hgt2 : ¬ (J : Int) < (I : Int) := by omega
  have hIJ : I < J := by
    have x1 : I ≤ c → ltInt d1[I]! d1[a]! = false := fun h => by
      have q := (scanUp_spec (fun x => ltInt x d1[a]!) d1 c _ (a + 1) rfl).2.2.2
      rw [← HI.out] at q
      exact q h
    have x2 : I ≤ J → 0 < J → (!ltInt d1[J]! d1[a]!) = false := fun h h' => by
      have q := (scanDown_spec (fun x => !ltInt x d1[a]!) d1 I c).2.2.2
      rw [← HJ.out] at q
      exact q h h'
    rcases Nat.lt_or_ge I J with q | q
    · exact q
    · have e : J = I := by omega
      have y1 := x1 (by omega)
      have y2 := x2 (by omega) (by omega)
      rw [e, y1] at y2
      cases y2
  have hJz : (J : Int) < (z : Int) := by omega
  have hIz : (I : Int) < (z : Int) := by omega
  clear HI HJ
  obtain ⟨d2, hd2⟩ : ∃ dn, dn = swp d1 (I) (J) := ⟨_, rfl⟩
  have Hd2 := Lib.hid hd2
  clear hd2
  go_upto_region 10 with fail
  go_cut [88] (fun v wx => Hid (SR w0 g off z d2 wx))
  case first =>
    have p0 := HS.out.cell Rh.out Hz.out (i := I) (by omega)
    have p1 := HS.out.cell Rh.out Hz.out (i := J) (by omega)
    have f0 := HS.out.frozen Rh.out Hz.out (i := I) (by omega)
    have f1 := HS.out.frozen Rh.out Hz.out (i := J) (by omega)
    have hsw := HS.out.swap Rh.out (i := I) (j := J) (by omega) (by omega)
    obtain ⟨u, p2⟩ := HS.out.second Rh.out Hz.out (i := I) (j := J) (by omega) (by omega) (.int .u64 d1[J]!)
    obtain ⟨d2', hdn⟩ : ∃ dn, dn = swp d1 (I) (J) := ⟨_, rfl⟩
    rw [← hdn] at hsw
    have Hdn := Lib.hid hdn
    obtain ⟨x, hx⟩ : ∃ x, x = d1[I]! := ⟨_, rfl⟩
    obtain ⟨y, hy⟩ : ∃ y, y = d1[J]! := ⟨_, rfl⟩
    rw [← hx] at p0 hsw
    rw [← hy] at p1 hsw p2
    have Hsw := Lib.hid hsw
    clear hsw hx hy hdn
    go_wp2_with fail
    go_big_region_o
    clear p0 p1 f0 f1 p2
    generalize ((w3.setCell ⟨g, off + (I), none⟩ (.int .u64 y)).setCell ⟨g, off + (J), none⟩ (.int .u64 x)).drew = w9 at Hsw ⊢
    go_wp2_with fail
    go_meet
    exact (by rw [Hd2.out, ← Hdn.out]; exact Hsw)
  case rest =>
  have Hcut := hcut
  clear HS hcut
  have HS := Hcut
  clear Hcut
  generalize wc = w4 at *
  rw [← Hd2.out] at HT
  clear Hd2
  obtain ⟨J', hJ'⟩ : ∃ k, J = k + 1 := ⟨J - 1, by omega⟩
  subst hJ'
  rw [Nat.add_sub_cancel] at HT
  obtain ⟨R, hR⟩ : ∃ R, R = partLoop ltInt a (I + 1) J' d2 := ⟨_, rfl⟩
  rw [← hR] at HT
  have H0 : Hid (SR w0 g off z d2 w4 ∧ partLoop ltInt a (I + 1) J' d2 = R) := ⟨HS.out, hR.symm⟩
  clear HS hR
  go_wp2_with fail
  go_loopw [10, 11] (fun iv jv wr => ∃ (i j : Nat) (dk : Array Int), iv = .int .i64 (i : Int) ∧ jv = .int .i64 (j : Int) ∧ a + 1 ≤ i ∧ i ≤ j + 1 ∧ j ≤ c ∧ Hid (SR w0 g off z dk wr ∧ partLoop ltInt a i j dk = R)) (fun iv jv _ => (intOf jv).toNat + 1 - (intOf iv).toNat)
  case atStart => exact ⟨I + 1, J', d2, (by first | rfl | simp), (by first | rfl | simp), by omega, by omega, by omega, H0⟩
  case round =>
    clear hI1 hI2 hJ1 hJ2 hgt hgt2 hIJ hJz hIz
    obtain ⟨i0, j0, dk, rfl, rfl, hi0, hij0, hj0, Hs⟩ := hrel
    have HS := Lib.hid Hs.out.1
    have HU := Lib.hid Hs.out.2
    clear Hs H0
    generalize wr = w5 at *
    obtain ⟨K, hK⟩ : ∃ k, k = scanUp (fun x => ltInt x dk[a]!) dk (j0) (i0) := ⟨_, rfl⟩
    have HK := Lib.hid hK
    clear hK
    go_upto_block 6 with fail
    go_cut [10] (fun v wx => v = .int .i64 (K : Int) ∧ Hid (SR w0 g off z dk wx))
    case first =>
      go_wp2_with fail
      have Hst0 : Hid (SR w0 g off z dk w5 ∧ scanUp (fun x => ltInt x dk[a]!) dk (j0) (i0) = K) := ⟨HS.out, HK.out.symm⟩
      go_loopw [10] (fun iv wr => ∃ i : Nat, iv = .int .i64 (i : Int) ∧ 1 ≤ i ∧ i ≤ z ∧ Hid (SR w0 g off z dk wr ∧ scanUp (fun x => ltInt x dk[a]!) dk (j0) i = K)) (fun iv _ => K - (intOf iv).toNat)
      case atStart => exact ⟨i0, (by first | rfl | simp), by omega, by omega, Hst0⟩
      case round =>
        obtain ⟨i, rfl, hi0, hiz, Hs⟩ := hrel
        have hst := scanUp_step (fun x => ltInt x dk[a]!) dk (j0) i
        by_cases hij : i ≤ j0
        case neg =>
          rw [decide_eq_false hij, Bool.false_and, if_neg (by decide)] at hst
          have HE := Lib.hid (hst.symm.trans Hs.out.2)
          have HSi := Lib.hid Hs.out.1
          have hij2 : ¬ (i : Int) ≤ ((j0 : Nat) : Int) := by omega
          have hij3 : decide ((i : Int) ≤ ((j0 : Nat) : Int)) = false := decide_eq_false hij2
          have hij4 : decide (i ≤ j0) = false := decide_eq_false hij
          clear hst Hs
          go_wp2_with fail
          go_quiet (fail)
          have HSj : Hid (SR w0 g off z dk (wr.drewN nq)) := HSi.out.drewN nq
          clear HSi
          go_wp2_with fail
          go_meet
          exact ⟨by rw [← HE.out], HSj⟩
        have hij2 : (i : Int) ≤ ((j0 : Nat) : Int) := by omega
        have hij3 : decide ((i : Int) ≤ ((j0 : Nat) : Int)) = true := decide_eq_true hij2
        have hij4 : decide (i ≤ j0) = true := decide_eq_true hij
        have hizz : (i : Int) < (z : Int) := by omega
        have q0 := Hs.out.1.cell Rh.out Hz.out (i := i) (by omega)
        have q1 := Hs.out.1.cell Rh.out Hz.out (i := a) (by omega)
        rw [decide_eq_true hij, Bool.true_and] at hst
        try dsimp only at hst
        obtain ⟨x, hx⟩ : ∃ x, x = dk[i]! := ⟨_, rfl⟩
        obtain ⟨y, hy⟩ : ∃ y, y = dk[a]! := ⟨_, rfl⟩
        have hst1 : scanUp (fun x => ltInt x dk[a]!) dk (j0) i = if (ltInt x y) = true then scanUp (fun x => ltInt x dk[a]!) dk (j0) (i + 1) else i := by rw [hx, hy]; exact hst
        rw [← hx] at q0
        rw [← hy] at q1
        clear hx hy hst
        have hst := hst1
        clear hst1
        cases hl : ltInt x y with
        | true =>
          have HLc := Lib.hid fun w => less_any x y w
          rw [hl] at HLc
          rw [hl, if_pos (by rfl)] at hst
          have HE := Lib.hid (hst.symm.trans Hs.out.2)
          have HSi := Lib.hid Hs.out.1
          clear hl hst Hs
          go_wp2_with fail
          go_quiet ((go_at_call 55; exact Calls.quiet_of_same (HLc.out _)))
          have HSj : Hid (SR w0 g off z dk (wr.drewN nq)) := HSi.out.drewN nq
          clear q0 q1 HSi
          go_wp2_with fail
          go_roundw
          case rel => exact ⟨i + 1, (by first | rfl | simp), by omega, by omega, Lib.hid ⟨HSj.out, HE.out⟩⟩
          case measure => have := scanUp_ge (fun x => ltInt x dk[a]!) dk (j0) (i + 1); have := HE.out; simp [intOf]; omega
        | false =>
          have HLc := Lib.hid fun w => less_any x y w
          rw [hl] at HLc
          rw [hl, if_neg (by decide)] at hst
          have HE := Lib.hid (hst.symm.trans Hs.out.2)
          have HSi := Lib.hid Hs.out.1
          clear hl hst Hs
          go_wp2_with fail
          go_quiet ((go_at_call 55; exact Calls.quiet_of_same (HLc.out _)))
          have HSj : Hid (SR w0 g off z dk (wr.drewN nq)) := HSi.out.drewN nq
          clear q0 q1 HSi
          go_wp2_with fail
          go_meet
          exact ⟨by rw [← HE.out], HSj⟩
    case rest =>
    obtain ⟨rfl, Hcut⟩ := hcut
    clear HS
    have HS := Hcut
    clear Hcut
    generalize wc = w6 at *
    have hI1 : i0 ≤ K := by rw [HK.out]; exact scanUp_ge _ _ _ _
    have hI2 : K ≤ j0 + 1 := by rw [HK.out]; exact (scanUp_spec _ dk j0 _ i0 rfl).2.1 hij0
    obtain ⟨M, hM⟩ : ∃ k, k = scanDown (fun x => !ltInt x dk[a]!) dk (K) (j0) := ⟨_, rfl⟩
    have HM := Lib.hid hM
    clear hM
    go_upto_block 8 with fail
    go_cut [11] (fun v wx => v = .int .i64 (M : Int) ∧ Hid (SR w0 g off z dk wx))
    case first =>
      go_wp2_with fail
      have Hst0 : Hid (SR w0 g off z dk w6 ∧ scanDown (fun x => !ltInt x dk[a]!) dk (K) (j0) = M) := ⟨HS.out, HM.out.symm⟩
      go_loopw [11] (fun iv wr => ∃ i : Nat, iv = .int .i64 (i : Int) ∧ i < z ∧ Hid (SR w0 g off z dk wr ∧ scanDown (fun x => !ltInt x dk[a]!) dk (K) i = M)) (fun iv _ => (intOf iv).toNat)
      case atStart => exact ⟨j0, (by first | rfl | simp), by omega, Hst0⟩
      case round =>
        obtain ⟨i, rfl, hiz, Hs⟩ := hrel
        by_cases hij : K ≤ i
        case neg =>
          have hst : scanDown (fun x => !ltInt x dk[a]!) dk (K) i = i := by
            cases i with
            | zero => rfl
            | succ i => rw [scanDown, decide_eq_false hij, Bool.false_and, if_neg (by decide)]
          have HE := Lib.hid (hst.symm.trans Hs.out.2)
          have HSi := Lib.hid Hs.out.1
          have hij2 : ¬ ((K : Nat) : Int) ≤ (i : Int) := by omega
          have hij3 : decide (((K : Nat) : Int) ≤ (i : Int)) = false := decide_eq_false hij2
          have hij4 : decide (K ≤ i) = false := decide_eq_false hij
          clear hst Hs
          go_wp2_with fail
          go_quiet (fail)
          have HSj : Hid (SR w0 g off z dk (wr.drewN nq)) := HSi.out.drewN nq
          clear HSi
          go_wp2_with fail
          go_meet
          exact ⟨by rw [← HE.out], HSj⟩
        obtain ⟨i, rfl⟩ : ∃ k, i = k + 1 := ⟨i - 1, by omega⟩
        have hst : scanDown (fun x => !ltInt x dk[a]!) dk (K) (i + 1) = if (decide (K ≤ i + 1) && ((fun x => !ltInt x dk[a]!) dk[i + 1]!)) = true then scanDown (fun x => !ltInt x dk[a]!) dk (K) i else i + 1 := rfl
        have hij2 : ((K : Nat) : Int) ≤ (i : Int) + 1 := by omega
        have hij3 : decide (((K : Nat) : Int) ≤ (i : Int) + 1) = true := decide_eq_true hij2
        have hij4 : decide (K ≤ i + 1) = true := decide_eq_true hij
        have hizz : (i : Int) + 1 < (z : Int) := by omega
        have q0 := Hs.out.1.cell Rh.out Hz.out (i := i + 1) (by omega)
        have q1 := Hs.out.1.cell Rh.out Hz.out (i := a) (by omega)
        rw [decide_eq_true hij, Bool.true_and] at hst
        try dsimp only at hst
        obtain ⟨x, hx⟩ : ∃ x, x = dk[i + 1]! := ⟨_, rfl⟩
        obtain ⟨y, hy⟩ : ∃ y, y = dk[a]! := ⟨_, rfl⟩
        have hst1 : scanDown (fun x => !ltInt x dk[a]!) dk (K) (i + 1) = if (!ltInt x y) = true then scanDown (fun x => !ltInt x dk[a]!) dk (K) i else i + 1 := by rw [hx, hy]; exact hst
        rw [← hx] at q0
        rw [← hy] at q1
        clear hx hy hst
        have hst := hst1
        clear hst1
        cases hl : ltInt x y with
        | true =>
          have HLc := Lib.hid fun w => less_any x y w
          rw [hl] at HLc
          rw [hl, if_neg (by decide)] at hst
          have HE := Lib.hid (hst.symm.trans Hs.out.2)
          have HSi := Lib.hid Hs.out.1
          clear hl hst Hs
          go_wp2_with fail
          go_quiet ((go_at_call 55; exact Calls.quiet_of_same (HLc.out _)))
          have HSj : Hid (SR w0 g off z dk (wr.drewN nq)) := HSi.out.drewN nq
          clear q0 q1 HSi
          go_wp2_with fail
          go_meet
          exact ⟨by rw [← HE.out], HSj⟩
        | false =>
          have HLc := Lib.hid fun w => less_any x y w
          rw [hl] at HLc
          rw [hl, if_pos (by rfl)] at hst
          have HE := Lib.hid (hst.symm.trans Hs.out.2)
          have HSi := Lib.hid Hs.out.1
          clear hl hst Hs
          go_wp2_with fail
          go_quiet ((go_at_call 55; exact Calls.quiet_of_same (HLc.out _)))
          have HSj : Hid (SR w0 g off z dk (wr.drewN nq)) := HSi.out.drewN nq
          clear q0 q1 HSi
          go_wp2_with fail
          go_roundw
          case rel => exact ⟨i, (by first | rfl | simp), by omega, Lib.hid ⟨HSj.out, HE.out⟩⟩
          case measure => simp [intOf]
    case rest =>
    obtain ⟨rfl, Hcut⟩ := hcut
    clear HS
    have HS := Hcut
    clear Hcut
    generalize wc = w7 at *
    have hJ1 : M ≤ j0 := by rw [HM.out]; exact scanDown_le _ _ _ _
    have hJ2 : K ≤ M + 1 := by rw [HM.out]; exact (scanDown_spec _ dk K j0).2.1 hI2
    have HT2 := HU.out
    rw [partLoop_eq, ← HK.out, ← HM.out] at HT2
    by_cases hgt : K > M
    case pos =>
      rw [if_pos hgt] at HT2
      have hgt2 : (M : Int) < (K : Int) := by omega
      have hJz : (M : Int) < (z : Int) := by omega
      have Hr := Lib.hid HT2
      clear HT2 HU HK HM
      obtain ⟨d3, hd3⟩ : ∃ dn, dn = swp dk (M) (a) := ⟨_, rfl⟩
      have Hd3 := Lib.hid hd3
      clear hd3
      go_upto_region 21 with fail
      go_cut [160] (fun v wx => Hid (SR w0 g off z d3 wx))
      case first =>
        have p0 := HS.out.cell Rh.out Hz.out (i := M) (by omega)
        have p1 := HS.out.cell Rh.out Hz.out (i := a) (by omega)
        have f0 := HS.out.frozen Rh.out Hz.out (i := M) (by omega)
        have f1 := HS.out.frozen Rh.out Hz.out (i := a) (by omega)
        have hsw := HS.out.swap Rh.out (i := M) (j := a) (by omega) (by omega)
        obtain ⟨u, p2⟩ := HS.out.second Rh.out Hz.out (i := M) (j := a) (by omega) (by omega) (.int .u64 dk[a]!)
        obtain ⟨d3', hdn⟩ : ∃ dn, dn = swp dk (M) (a) := ⟨_, rfl⟩
        rw [← hdn] at hsw
        have Hdn := Lib.hid hdn
        obtain ⟨x, hx⟩ : ∃ x, x = dk[M]! := ⟨_, rfl⟩
        obtain ⟨y, hy⟩ : ∃ y, y = dk[a]! := ⟨_, rfl⟩
        rw [← hx] at p0 hsw
        rw [← hy] at p1 hsw p2
        have Hsw := Lib.hid hsw
        clear hsw hx hy hdn
        go_wp2_with fail
        go_big_region_o
        clear p0 p1 f0 f1 p2
        generalize ((w7.setCell ⟨g, off + (M), none⟩ (.int .u64 y)).setCell ⟨g, off + (a), none⟩ (.int .u64 x)).drew = w9 at Hsw ⊢
        go_wp2_with fail
        go_meet
        exact (by rw [Hd3.out, ← Hdn.out]; exact Hsw)
      case rest =>
      have Hcut := hcut
      clear HS hcut
      have HS := Hcut
      clear Hcut
      generalize wc = w8 at *
      have Hf : Hid (T = (M, false, d3)) := Lib.hid (by rw [HT.out, ← Hr.out, Hd3.out])
      clear HT Hd3 Hr
      go_wp2_with fail
      go_ret2
      exact ⟨by rw [Hf.out]; rfl, by rw [Hf.out]; exact HS.out⟩
    case neg =>
      rw [if_neg hgt] at HT2
      have HT3 := Lib.hid HT2
      have hgt2 : ¬ (M : Int) < (K : Int) := by omega
      have hIJ : K < M := by
        have x1 : K ≤ j0 → ltInt dk[K]! dk[a]! = false := fun h => by
          have q := (scanUp_spec (fun x => ltInt x dk[a]!) dk j0 _ (i0) rfl).2.2.2
          rw [← HK.out] at q
          exact q h
        have x2 : K ≤ M → 0 < M → (!ltInt dk[M]! dk[a]!) = false := fun h h' => by
          have q := (scanDown_spec (fun x => !ltInt x dk[a]!) dk K j0).2.2.2
          rw [← HM.out] at q
          exact q h h'
        rcases Nat.lt_or_ge K M with q | q
        · exact q
        · have e : M = K := by omega
          have y1 := x1 (by omega)
          have y2 := x2 (by omega) (by omega)
          rw [e, y1] at y2
          cases y2
      have hJz : (M : Int) < (z : Int) := by omega
      have hIz : (K : Int) < (z : Int) := by omega
      clear HT2 HU HK HM
      obtain ⟨d3, hd3⟩ : ∃ dn, dn = swp dk (K) (M) := ⟨_, rfl⟩
      have Hd3 := Lib.hid hd3
      clear hd3
      go_upto_region 18 with fail
      go_cut [142] (fun v wx => Hid (SR w0 g off z d3 wx))
      case first =>
        have p0 := HS.out.cell Rh.out Hz.out (i := K) (by omega)
        have p1 := HS.out.cell Rh.out Hz.out (i := M) (by omega)
        have f0 := HS.out.frozen Rh.out Hz.out (i := K) (by omega)
        have f1 := HS.out.frozen Rh.out Hz.out (i := M) (by omega)
        have hsw := HS.out.swap Rh.out (i := K) (j := M) (by omega) (by omega)
        obtain ⟨u, p2⟩ := HS.out.second Rh.out Hz.out (i := K) (j := M) (by omega) (by omega) (.int .u64 dk[M]!)
        obtain ⟨d3', hdn⟩ : ∃ dn, dn = swp dk (K) (M) := ⟨_, rfl⟩
        rw [← hdn] at hsw
        have Hdn := Lib.hid hdn
        obtain ⟨x, hx⟩ : ∃ x, x = dk[K]! := ⟨_, rfl⟩
        obtain ⟨y, hy⟩ : ∃ y, y = dk[M]! := ⟨_, rfl⟩
        rw [← hx] at p0 hsw
        rw [← hy] at p1 hsw p2
        have Hsw := Lib.hid hsw
        clear hsw hx hy hdn
        go_wp2_with fail
        go_big_region_o
        clear p0 p1 f0 f1 p2
        generalize ((w7.setCell ⟨g, off + (K), none⟩ (.int .u64 y)).setCell ⟨g, off + (M), none⟩ (.int .u64 x)).drew = w9 at Hsw ⊢
        go_wp2_with fail
        go_meet
        exact (by rw [Hd3.out, ← Hdn.out]; exact Hsw)
      case rest =>
      have Hcut := hcut
      clear HS hcut
      have HS := Hcut
      clear Hcut
      generalize wc = w8 at *
      rw [← Hd3.out] at HT3
      clear Hd3
      obtain ⟨M', hM'⟩ : ∃ k, M = k + 1 := ⟨M - 1, by omega⟩
      subst hM'
      rw [Nat.add_sub_cancel] at HT3
      go_wp2_with fail
      go_roundw
      case rel => exact ⟨K + 1, M', d3, (by first | rfl | simp), (by first | rfl | simp), by omega, by omega, by omega, Lib.hid ⟨HS.out, HT3.out⟩⟩
      case measure => simp [intOf]; omega
end
end Go.Proofs.Ytejimgjonhaocaa
