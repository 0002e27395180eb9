/-
  slices' partialInsertionSortOrdered at numbers of 64 bits.
-/
import Derived.Test.YtejimgjonhaocaaMeS7
namespace Go.Proofs.Ytejimgjonhaocaa
open Go.RowKit Go.Maps Go.Shelf Go.Lib Go.Sort

theorem scanSorted_step (d : Array Int) (b i : Nat) : scanSorted ltInt d b i = if (decide (i < b) && !ltInt d[i]! d[i - 1]!) = true then scanSorted ltInt d b (i + 1) else i := by rw [scanSorted]
theorem scanSorted_ge (d : Array Int) (b : Nat) : ∀ n i : Nat, b - i = n → i ≤ scanSorted ltInt d b i ∧ (i ≤ b → scanSorted ltInt d b i ≤ b) := by
  intro n
  induction n with
  | zero => intro i hi; rw [scanSorted_step, decide_eq_false (by omega), Bool.false_and, if_neg (by decide)]; exact ⟨Nat.le_refl _, fun h => h⟩
  | succ n ih =>
    intro i hi
    rw [scanSorted_step]
    split
    · have := ih (i + 1) (by omega); exact ⟨by omega, fun _ => this.2 (by omega)⟩
    · exact ⟨Nat.le_refl _, fun h => h⟩
theorem shiftUp_step (b j : Nat) (d : Array Int) : shiftUp ltInt b j d = if j < b then (if (!ltInt d[j]! d[j - 1]!) = true then d else shiftUp ltInt b (j + 1) (swp d j (j - 1))) else d := by rw [shiftUp]
theorem partialIns_step (a b s i : Nat) (d : Array Int) : partialIns ltInt a b (s + 1) i d = if scanSorted ltInt d b i = b then (d, true) else if b - a < 50 then (d, false) else
    partialIns ltInt a b s (scanSorted ltInt d b i) (if b - scanSorted ltInt d b i ≥ 2 then shiftUp ltInt b (scanSorted ltInt d b i + 1) (if scanSorted ltInt d b i - a ≥ 2 then shiftDown ltInt (scanSorted ltInt d b i - 1) (swp d (scanSorted ltInt d b i) (scanSorted ltInt d b i - 1)) else swp d (scanSorted ltInt d b i) (scanSorted ltInt d b i - 1)) else (if scanSorted ltInt d b i - a ≥ 2 then shiftDown ltInt (scanSorted ltInt d b i - 1) (swp d (scanSorted ltInt d b i) (scanSorted ltInt d b i - 1)) else swp d (scanSorted ltInt d b i) (scanSorted ltInt d b i - 1))) := rfl
section
set_option maxRecDepth 100000
set_option maxHeartbeats 4000000
variable {w0 W : World} {g off z cap : Nat} {d0 : Array Int}
theorem partialins_any (R : Row1 eU w0 g off d0) (hz : d0.size = z) (hz1 : z ≤ 1000000) (d : Array Int) (a b : Nat) (hab : a < b) (hb : b ≤ z) (S : SR w0 g off z d W) :
    Calls Try.prog 54 #[.slice (some ⟨g, off, none⟩) z cap, .int .i64 (a : Int), .int .i64 (b : Int)] W fun e w' => e = .returned (.bool (partialInsertionSort ltInt d a b).2) ∧ SR w0 g off z (partialInsertionSort ltInt d a b).1 w' := by
  have mixed : Try.prog.follows Departure.mixedOrders = true := by kernel_rfl
  have Rh := Lib.hid R
  have Hz := Lib.hid hz
  have hz2 : (z : Int) ≤ 1000000 := by omega
  have hbz : (b : Int) ≤ (z : Int) := by omega
  have habi : (a : Int) < (b : Int) := by omega
  obtain ⟨T, hT⟩ : ∃ T, T = partialInsertionSort ltInt d a b := ⟨_, rfl⟩
  rw [← hT]
  have H0 : Hid (SR w0 g off z d W ∧ partialIns ltInt a b (5 - 0) (a + 1) d = T) := ⟨S, hT.symm⟩
  clear R hz S hT
  go_enter Try.func54, Try.ntmps54
  go_wp2_with fail
  go_loopw [7, 8] (fun iv kv wr => ∃ (i k : Nat) (dk : Array Int), iv = .int .i64 (i : Int) ∧ kv = .int .i64 (k : Int) ∧ a + 1 ≤ i ∧ i ≤ b ∧ k ≤ 5 ∧ Hid (SR w0 g off z dk wr ∧ partialIns ltInt a b (5 - k) i dk = T)) (fun _ kv _ => 5 - (intOf kv).toNat)
  case atStart => exact ⟨a + 1, 0, d, (by first | rfl | simp), rfl, Nat.le_refl _, by omega, by omega, H0⟩
  case round =>
    obtain ⟨i0, k, dk, rfl, rfl, hi0, hib, hk, Hs⟩ := hrel
    by_cases hk5 : k < 5
    case neg =>
      have hT2 := Hs.out.2
      rw [show 5 - k = 0 by omega] at hT2
      have Hf : Hid (T = (dk, false)) := Lib.hid (by rw [← hT2]; rfl)
      have HS := Lib.hid Hs.out.1
      have hk5i : ¬ (k : Int) < 5 := by omega
      clear Hs hT2
      go_wp2_with fail
      go_ret
      exact ⟨by rw [Hf.out]; rfl, by rw [Hf.out]; exact HS.out⟩
    have hk5i : (k : Int) < 5 := by omega
    have HS := Lib.hid Hs.out.1
    have hT2 := Hs.out.2
    rw [show 5 - k = (5 - (k + 1)) + 1 by omega, partialIns_step] at hT2
    have HT := Lib.hid hT2
    clear Hs hT2 H0
    generalize wr = w1 at *
    obtain ⟨I, hI⟩ : ∃ I, I = scanSorted ltInt dk b i0 := ⟨_, rfl⟩
    have HI := Lib.hid hI
    have hIb := scanSorted_ge dk b _ i0 rfl
    rw [← hI] at hIb HT
    clear hI
    go_upto_block 2 with fail
    go_cut [7] (fun v wx => v = .int .i64 (I : Int) ∧ Hid (SR w0 g off z dk wx))
    case first =>
      go_wp2_with fail
      have Hst0 : Hid (SR w0 g off z dk w1 ∧ scanSorted ltInt dk b i0 = I) := ⟨HS.out, HI.out.symm⟩
      go_loopw [7] (fun iv wr => ∃ i : Nat, iv = .int .i64 (i : Int) ∧ a + 1 ≤ i ∧ i ≤ b ∧ Hid (SR w0 g off z dk wr ∧ scanSorted ltInt dk b i = I)) (fun iv _ => b - (intOf iv).toNat)
      case atStart => exact ⟨i0, rfl, hi0, hib, Hst0⟩
      case round =>
        obtain ⟨i, rfl, hi1, hib1, Hs⟩ := hrel
        have hst := scanSorted_step dk b i
        by_cases hij : i < b
        case neg =>
          rw [decide_eq_false hij, Bool.false_and, if_neg (by decide)] at hst
          have HE := Lib.hid (hst.symm.trans Hs.out.2)
          have HSi := Lib.hid Hs.out.1
          have hij2 : ¬ (i : Int) < (b : Int) := by omega
          have hij3 : decide ((i : Int) < (b : Int)) = false := decide_eq_false hij2
          have hij4 : decide (i < b) = false := decide_eq_false hij
          clear hst Hs
          go_wp2_with fail
          go_quiet (fail)
          have HSj : Hid (SR w0 g off z dk (wr.drewN nq)) := HSi.out.drewN nq
          clear HSi
          go_wp2_with fail
          go_meet
          exact ⟨by rw [← HE.out], HSj⟩
        obtain ⟨i, rfl⟩ : ∃ k, i = k + 1 := ⟨i - 1, by omega⟩
        have hij2 : (i : Int) + 1 < (b : Int) := by omega
        have hij3 : decide ((i : Int) + 1 < (b : Int)) = true := decide_eq_true hij2
        have hij4 : decide (i + 1 < b) = true := decide_eq_true hij
        have q0 := Hs.out.1.cell Rh.out Hz.out (i := i + 1) (by omega)
        have q1 := Hs.out.1.cell Rh.out Hz.out (i := i) (by omega)
        rw [decide_eq_true hij, Bool.true_and, Nat.add_sub_cancel] at hst
        obtain ⟨x, hx⟩ : ∃ x, x = dk[i + 1]! := ⟨_, rfl⟩
        obtain ⟨y, hy⟩ : ∃ y, y = dk[i]! := ⟨_, rfl⟩
        rw [← hx] at q0 hst
        rw [← hy] at q1 hst
        clear hx hy
        have hizz : (i : Int) + 1 < (z : Int) := by omega
        have HLc := Lib.hid fun w => less_any x y w
        cases hl : ltInt x y with
        | true =>
          rw [hl] at HLc
          rw [hl, if_neg (by decide)] at hst
          have HE := Lib.hid (hst.symm.trans Hs.out.2)
          have HSi := Lib.hid Hs.out.1
          clear hl hst Hs
          go_wp2_with fail
          go_quiet ((go_at_call 55; exact Calls.quiet_of_same (HLc.out _)))
          have HSj : Hid (SR w0 g off z dk (wr.drewN nq)) := HSi.out.drewN nq
          clear q0 q1 HSi
          go_wp2_with fail
          go_meet
          exact ⟨by rw [← HE.out], HSj⟩
        | false =>
          rw [hl] at HLc
          rw [hl, if_pos (by rfl)] at hst
          have HE := Lib.hid (hst.symm.trans Hs.out.2)
          have HSi := Lib.hid Hs.out.1
          clear hl hst Hs
          go_wp2_with fail
          go_quiet ((go_at_call 55; exact Calls.quiet_of_same (HLc.out _)))
          have HSj : Hid (SR w0 g off z dk (wr.drewN nq)) := HSi.out.drewN nq
          clear q0 q1 HSi
          go_wp2_with fail
          go_roundw
          case rel => exact ⟨i + 1 + 1, (by first | rfl | simp), by omega, by omega, Lib.hid ⟨HSj.out, HE.out⟩⟩
          case measure => simp [intOf]; omega
    case rest =>
    obtain ⟨rfl, Hcut⟩ := hcut
    clear HS HI
    have HS := Hcut
    clear Hcut
    generalize wc = w2 at *
    have hI1 := hIb.1
    have hI2 := hIb.2 hib
    by_cases hIb2 : I = b
    case pos =>
      have hT3 := HT.out
      rw [if_pos hIb2] at hT3
      have Hf : Hid (T = (dk, true)) := Lib.hid hT3.symm
      clear HT hT3 hIb
      subst hIb2
      go_wp2_with fail
      go_ret
      exact ⟨by rw [Hf.out]; rfl, by rw [Hf.out]; exact HS.out⟩
    have hT3 := HT.out
    rw [if_neg hIb2] at hT3
    have hne1 : ¬ (I : Int) = (b : Int) := by omega
    have hne2 : ((I : Int) == (b : Int)) = false := by simpa using hne1
    by_cases h50 : b - a < 50
    case pos =>
      rw [if_pos h50] at hT3
      have Hf : Hid (T = (dk, false)) := Lib.hid hT3.symm
      have h50i : (b : Int) - (a : Int) < 50 := by omega
      clear HT hT3 hIb
      go_wp2_with fail
      go_ret
      exact ⟨by rw [Hf.out]; rfl, by rw [Hf.out]; exact HS.out⟩
    rw [if_neg h50] at hT3
    have h50i : ¬ (b : Int) - (a : Int) < 50 := by omega
    have HU := Lib.hid hT3
    clear HT hT3 hIb
    obtain ⟨I', hI'⟩ : ∃ k, I = k + 1 := ⟨I - 1, by omega⟩
    subst hI'
    rw [Nat.add_sub_cancel] at HU
    have hIbi : (I' : Int) + 1 < (b : Int) := by omega
    have hIz : (I' : Int) + 1 < (z : Int) := by omega
    obtain ⟨d1, hd1⟩ : ∃ dn, dn = swp dk (I' + 1) (I') := ⟨_, rfl⟩
    have Hd1 := Lib.hid hd1
    clear hd1
    go_upto_region 11 with fail
    go_cut [51] (fun v wx => Hid (SR w0 g off z d1 wx))
    case first =>
      have p0 := HS.out.cell Rh.out Hz.out (i := I' + 1) (by omega)
      have p1 := HS.out.cell Rh.out Hz.out (i := I') (by omega)
      have f0 := HS.out.frozen Rh.out Hz.out (i := I' + 1) (by omega)
      have f1 := HS.out.frozen Rh.out Hz.out (i := I') (by omega)
      have hsw := HS.out.swap Rh.out (i := I' + 1) (j := I') (by omega) (by omega)
      obtain ⟨u, p2⟩ := HS.out.second Rh.out Hz.out (i := I' + 1) (j := I') (by omega) (by omega) (.int .u64 dk[I']!)
      obtain ⟨d1', hdn⟩ : ∃ dn, dn = swp dk (I' + 1) (I') := ⟨_, rfl⟩
      rw [← hdn] at hsw
      have Hdn := Lib.hid hdn
      obtain ⟨x, hx⟩ : ∃ x, x = dk[I' + 1]! := ⟨_, rfl⟩
      obtain ⟨y, hy⟩ : ∃ y, y = dk[I']! := ⟨_, rfl⟩
      rw [← hx] at p0 hsw
      rw [← hy] at p1 hsw p2
      have Hsw := Lib.hid hsw
      clear hsw hx hy hdn
      go_wp2_with fail
      go_big_region_o
      clear p0 p1 f0 f1 p2
      generalize ((w2.setCell ⟨g, off + (I' + 1), none⟩ (.int .u64 y)).setCell ⟨g, off + (I'), none⟩ (.int .u64 x)).drew = w9 at Hsw ⊢
      go_wp2_with fail
      go_meet
      exact (by rw [Hd1.out, ← Hdn.out]; exact Hsw)
    case rest =>
    have Hcut := hcut
    clear HS hcut
    have HS := Hcut
    clear Hcut
    generalize wc = w3 at *
    rw [← Hd1.out] at HU
    clear Hd1
    obtain ⟨d2, hd2⟩ : ∃ d2, d2 = if I' + 1 - a ≥ 2 then shiftDown ltInt I' d1 else d1 := ⟨_, rfl⟩
    rw [← hd2] at HU
    have Hd2 := Lib.hid hd2
    clear hd2
    go_upto_if 61 with fail
    go_cut [] (fun wx => Hid (SR w0 g off z d2 wx))
    case first => as_aux_lemma =>
      by_cases q : I' + 1 - a ≥ 2
      case neg =>
        have q2 : ¬ 2 ≤ (I' : Int) + 1 - (a : Int) := by omega
        have HF : Hid (SR w0 g off z d2 w3) := by rw [Hd2.out, if_neg q]; exact HS.out
        clear HS HU q
        go_wp2_with fail
        go_meet
        exact HF
      have q2 : 2 ≤ (I' : Int) + 1 - (a : Int) := by omega
      have H1 : Hid (SR w0 g off z d1 w3 ∧ shiftDown ltInt I' d1 = d2) := ⟨HS.out, by rw [Hd2.out, if_pos q]⟩
      clear HS HU q Hd2
      go_wp2_with fail
      go_loopw [9] (fun jv wr => ∃ (j : Nat) (dj : Array Int), jv = .int .i64 (j : Int) ∧ j ≤ I' ∧ Hid (SR w0 g off z dj wr ∧ shiftDown ltInt j dj = d2)) (fun jv _ => (intOf jv).toNat)
      case atStart => exact ⟨I', d1, (by first | rfl | simp), Nat.le_refl _, H1⟩
      case round =>
        obtain ⟨j, dj, rfl, hj, Hj⟩ := hrel
        cases j with
        | zero =>
          have HF : Hid (SR w0 g off z d2 wr) := by have := Hj.out.2; rw [← this]; exact Hj.out.1
          clear Hj
          go_wp2_with fail
          go_meet
          exact HF
        | succ j =>
          have hst : shiftDown ltInt (j + 1) dj = if (!ltInt dj[j + 1]! dj[j]!) = true then dj else shiftDown ltInt j (swp dj (j + 1) j) := rfl
          have HS := Lib.hid Hj.out.1
          have hE := hst.symm.trans Hj.out.2
          have q0 := HS.out.cell Rh.out Hz.out (i := j + 1) (by omega)
          have q1 := HS.out.cell Rh.out Hz.out (i := j) (by omega)
          obtain ⟨x, hx⟩ : ∃ x, x = dj[j + 1]! := ⟨_, rfl⟩
          obtain ⟨y, hy⟩ : ∃ y, y = dj[j]! := ⟨_, rfl⟩
          rw [← hx] at q0 hE
          rw [← hy] at q1 hE
          have hj1 : (1 : Int) ≤ (j : Int) + 1 := by omega
          have hjz : (j : Int) + 1 < (z : Int) := by omega
          have HLc := Lib.hid fun w => less_any x y w
          clear hst Hj hx hy
          cases hl : ltInt x y with
          | false =>
            rw [hl] at HLc
            rw [hl, if_pos (by rfl)] at hE
            have HF : Hid (SR w0 g off z d2 wr) := by rw [← hE]; exact HS.out
            clear hE HS hl
            go_wp2_with fail
            go_quiet ((go_at_call 55; exact Calls.quiet_of_same (HLc.out _)))
            have HF2 : Hid (SR w0 g off z d2 (wr.drewN nq)) := HF.out.drewN nq
            go_wp2_with fail
            go_meet
            exact HF2
          | true =>
            rw [hl] at HLc
            rw [hl, if_neg (by decide)] at hE
            have HE := Lib.hid hE
            clear hE hl
            go_wp2_with fail
            go_quiet ((go_at_call 55; exact Calls.quiet_of_same (HLc.out _)))
            have HS2 : Hid (SR w0 g off z dj (wr.drewN nq)) := HS.out.drewN nq
            clear q0 q1 HS
            generalize wr.drewN nq = w7 at *
            have p0 := HS2.out.cell Rh.out Hz.out (i := j + 1) (by omega)
            have p1 := HS2.out.cell Rh.out Hz.out (i := j) (by omega)
            have f0 := HS2.out.frozen Rh.out Hz.out (i := j + 1) (by omega)
            have f1 := HS2.out.frozen Rh.out Hz.out (i := j) (by omega)
            have hsw := HS2.out.swap Rh.out (i := j + 1) (j := j) (by omega) (by omega)
            obtain ⟨u, p2⟩ := HS2.out.second Rh.out Hz.out (i := j + 1) (j := j) (by omega) (by omega) (.int .u64 dj[j]!)
            obtain ⟨dn, hdn⟩ : ∃ dn, dn = swp dj (j + 1) (j) := ⟨_, rfl⟩
            rw [← hdn] at hsw
            have Hdn := Lib.hid hdn
            obtain ⟨x2, hx⟩ : ∃ x, x = dj[j + 1]! := ⟨_, rfl⟩
            obtain ⟨y2, hy⟩ : ∃ y, y = dj[j]! := ⟨_, rfl⟩
            rw [← hx] at p0 hsw
            rw [← hy] at p1 hsw p2
            have Hsw := Lib.hid hsw
            clear hsw hx hy hdn
            go_wp2_with fail
            go_big_region_o
            clear p0 p1 f0 f1 p2
            generalize ((w7.setCell ⟨g, off + (j + 1), none⟩ (.int .u64 y2)).setCell ⟨g, off + (j), none⟩ (.int .u64 x2)).drew = w8 at Hsw ⊢
            clear HS2
            go_wp2_with fail
            go_roundw
            case rel => exact ⟨j, dn, (by first | rfl | simp), by omega, Lib.hid ⟨Hsw.out, by rw [Hdn.out]; exact HE.out⟩⟩
            case measure => simp [intOf]
    case rest =>
    have Hcut := hcut
    clear HS hcut Hd2
    have HS := Hcut
    clear Hcut
    generalize wc = w4 at *
    obtain ⟨d3, hd3⟩ : ∃ d3, d3 = if b - (I' + 1) ≥ 2 then shiftUp ltInt b (I' + 1 + 1) d2 else d2 := ⟨_, rfl⟩
    rw [← hd3] at HU
    have Hd3 := Lib.hid hd3
    clear hd3
    by_cases q : b - (I' + 1) ≥ 2
    case neg =>
      have q2 : ¬ 2 ≤ (b : Int) - ((I' : Int) + 1) := by omega
      have HF : Hid (SR w0 g off z d3 w4) := by rw [Hd3.out, if_neg q]; exact HS.out
      clear HS q
      go_wp2_with fail
      go_roundw
      case rel => exact ⟨I' + 1, k + 1, d3, (by first | rfl | simp), (by first | rfl | simp), by omega, by omega, by omega, Lib.hid ⟨HF.out, HU.out⟩⟩
      case measure => simp [intOf]; omega
    have q2 : 2 ≤ (b : Int) - ((I' : Int) + 1) := by omega
    have H1 : Hid (SR w0 g off z d2 w4 ∧ shiftUp ltInt b (I' + 1 + 1) d2 = d3) := ⟨HS.out, by rw [Hd3.out, if_pos q]⟩
    clear HS q Hd3
    go_wp2_with fail
    generalize w4 = w4' at *
    go_loopw [10] (fun jv wr => ∃ (j : Nat) (dj : Array Int), jv = .int .i64 (j : Int) ∧ 1 ≤ j ∧ j ≤ b ∧ Hid (SR w0 g off z dj wr ∧ shiftUp ltInt b j dj = d3)) (fun jv _ => b - (intOf jv).toNat)
    case atStart => exact ⟨I' + 1 + 1, d2, (by first | rfl | simp), by omega, by omega, H1⟩
    case round =>
      obtain ⟨j, dj, rfl, hj1, hj, Hj⟩ := hrel
      have hst := shiftUp_step b j dj
      by_cases hjb : j < b
      case neg =>
        rw [if_neg hjb] at hst
        have HF : Hid (SR w0 g off z d3 wr) := by have := hst.symm.trans Hj.out.2; rw [← this]; exact Hj.out.1
        have hjb2 : ¬ (j : Int) < (b : Int) := by omega
        clear Hj hst
        go_wp2_with fail
        go_roundw
        case rel => exact ⟨I' + 1, k + 1, d3, (by first | rfl | simp), (by first | rfl | simp), by omega, by omega, by omega, Lib.hid ⟨HF.out, HU.out⟩⟩
        case measure => simp [intOf]; omega
      rw [if_pos hjb] at hst
      obtain ⟨j, rfl⟩ : ∃ k, j = k + 1 := ⟨j - 1, by omega⟩
      rw [Nat.add_sub_cancel] at hst
      have HS := Lib.hid Hj.out.1
      have hE := hst.symm.trans Hj.out.2
      have q0 := HS.out.cell Rh.out Hz.out (i := j + 1) (by omega)
      have q1 := HS.out.cell Rh.out Hz.out (i := j) (by omega)
      obtain ⟨x, hx⟩ : ∃ x, x = dj[j + 1]! := ⟨_, rfl⟩
      obtain ⟨y, hy⟩ : ∃ y, y = dj[j]! := ⟨_, rfl⟩
      rw [← hx] at q0 hE
      rw [← hy] at q1 hE
      have hjb2 : (j : Int) + 1 < (b : Int) := by omega
      have hjz : (j : Int) + 1 < (z : Int) := by omega
      have HLc := Lib.hid fun w => less_any x y w
      clear hst Hj hx hy
      cases hl : ltInt x y with
      | false =>
        rw [hl] at HLc
        rw [hl, if_pos (by rfl)] at hE
        have HF : Hid (SR w0 g off z d3 wr) := by rw [← hE]; exact HS.out
        clear hE HS hl
        go_wp2_with fail
        go_quiet ((go_at_call 55; exact Calls.quiet_of_same (HLc.out _)))
        have HF2 : Hid (SR w0 g off z d3 (wr.drewN nq)) := HF.out.drewN nq
        go_wp2_with fail
        go_roundw
        case rel => exact ⟨I' + 1, k + 1, d3, (by first | rfl | simp), (by first | rfl | simp), by omega, by omega, by omega, Lib.hid ⟨HF2.out, HU.out⟩⟩
        case measure => simp [intOf]; omega
      | true =>
        rw [hl] at HLc
        rw [hl, if_neg (by decide)] at hE
        have HE := Lib.hid hE
        clear hE hl
        go_wp2_with fail
        go_quiet ((go_at_call 55; exact Calls.quiet_of_same (HLc.out _)))
        have HS2 : Hid (SR w0 g off z dj (wr.drewN nq)) := HS.out.drewN nq
        clear q0 q1 HS
        generalize wr.drewN nq = w7 at *
        have p0 := HS2.out.cell Rh.out Hz.out (i := j + 1) (by omega)
        have p1 := HS2.out.cell Rh.out Hz.out (i := j) (by omega)
        have f0 := HS2.out.frozen Rh.out Hz.out (i := j + 1) (by omega)
        have f1 := HS2.out.frozen Rh.out Hz.out (i := j) (by omega)
        have hsw := HS2.out.swap Rh.out (i := j + 1) (j := j) (by omega) (by omega)
        obtain ⟨u, p2⟩ := HS2.out.second Rh.out Hz.out (i := j + 1) (j := j) (by omega) (by omega) (.int .u64 dj[j]!)
        obtain ⟨dn, hdn⟩ : ∃ dn, dn = swp dj (j + 1) (j) := ⟨_, rfl⟩
        rw [← hdn] at hsw
        have Hdn := Lib.hid hdn
        obtain ⟨x2, hx⟩ : ∃ x, x = dj[j + 1]! := ⟨_, rfl⟩
        obtain ⟨y2, hy⟩ : ∃ y, y = dj[j]! := ⟨_, rfl⟩
        rw [← hx] at p0 hsw
        rw [← hy] at p1 hsw p2
        have Hsw := Lib.hid hsw
        clear hsw hx hy hdn
        go_wp2_with fail
        go_big_region_o
        clear p0 p1 f0 f1 p2
        generalize ((w7.setCell ⟨g, off + (j + 1), none⟩ (.int .u64 y2)).setCell ⟨g, off + (j), none⟩ (.int .u64 x2)).drew = w8 at Hsw ⊢
        clear HS2
        go_wp2_with fail
        go_roundw
        case rel => exact ⟨j + 1 + 1, dn, (by first | rfl | simp), by omega, by omega, Lib.hid ⟨Hsw.out, by rw [Hdn.out]; exact HE.out⟩⟩
        case measure => simp [intOf]; omega
end
end Go.Proofs.Ytejimgjonhaocaa
