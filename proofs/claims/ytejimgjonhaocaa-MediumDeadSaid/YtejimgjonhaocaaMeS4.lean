/-
  slices' siftDownOrdered, heapSortOrdered at numbers of 64 bits.
-/
import Derived.Test.YtejimgjonhaocaaMeS3
namespace Go.Proofs.Ytejimgjonhaocaa
open Go.RowKit Go.Maps Go.Shelf Go.Lib Go.Sort

/-- the child that is looked at -/
def childS (hi first root : Nat) (d : Array Int) : Nat := if (decide (2 * root + 1 + 1 < hi) && ltInt d[first + (2 * root + 1)]! d[first + (2 * root + 1) + 1]!) = true then 2 * root + 2 else 2 * root + 1
theorem sift_stop (hi first root : Nat) (d : Array Int) (h : 2 * root + 1 ≥ hi) : siftDown ltInt hi first root d = d := by rw [siftDown, dif_pos h]
theorem sift_step (hi first root : Nat) (d : Array Int) (h : ¬ 2 * root + 1 ≥ hi) : siftDown ltInt hi first root d = if (!ltInt d[first + root]! d[first + childS hi first root d]!) = true then d else siftDown ltInt hi first (childS hi first root d) (swp d (first + root) (first + childS hi first root d)) := by
  rw [siftDown, dif_neg h]
  unfold childS
  by_cases q : (decide (2 * root + 1 + 1 < hi) && ltInt d[first + (2 * root + 1)]! d[first + (2 * root + 1) + 1]!) = true
  · rw [if_pos q, if_pos q]
    have q2 : 2 * root + 2 < hi := by
      simp only [Bool.and_eq_true, decide_eq_true_eq] at q; omega
    rw [dif_pos q2]
  · rw [if_neg q, if_neg q]
theorem childS_lt {hi first root : Nat} {d : Array Int} (h : ¬ 2 * root + 1 ≥ hi) : childS hi first root d < hi ∧ root < childS hi first root d := by
  unfold childS
  split
  · rename_i q
    simp only [Bool.and_eq_true, decide_eq_true_eq] at q; omega
  · omega
section
set_option maxRecDepth 100000
set_option maxHeartbeats 4000000
variable {w0 W : World} {g off z cap : Nat} {d0 : Array Int}
theorem sift_any (R : Row1 eU w0 g off d0) (hz : d0.size = z) (hz1 : z ≤ 1000000) (d : Array Int) (lo hi first : Nat) (hb : first + hi ≤ z) (hl : lo ≤ z) (S : SR w0 g off z d W) :
    Calls Try.prog 60 #[.slice (some ⟨g, off, none⟩) z cap, .int .i64 (lo : Int), .int .i64 (hi : Int), .int .i64 (first : Int)] W fun e w' => e = .returned (.tuple #[]) ∧ SR w0 g off z (siftDown ltInt hi first lo d) w' := by
  have mixed : Try.prog.follows Departure.mixedOrders = true := by kernel_rfl
  have Rh := Lib.hid R
  have Hz := Lib.hid hz
  obtain ⟨T, hT⟩ : ∃ T, T = siftDown ltInt hi first lo d := ⟨_, rfl⟩
  rw [← hT]
  have H0 : Hid (SR w0 g off z d W ∧ siftDown ltInt hi first lo d = T) := ⟨S, hT.symm⟩
  have hz2 : (z : Int) ≤ 1000000 := by omega
  clear R hz S hT
  go_enter Try.func60, Try.ntmps60
  go_wp2_with fail
  go_loopw [8] (fun rv wr => ∃ (r : Nat) (dk : Array Int), rv = .int .i64 (r : Int) ∧ r ≤ z ∧ Hid (SR w0 g off z dk wr ∧ siftDown ltInt hi first r dk = T)) (fun rv _ => z - (intOf rv).toNat)
  case atStart => exact ⟨lo, d, rfl, hl, H0⟩
  case round =>
    obtain ⟨r, dk, rfl, hr, Hs⟩ := hrel
    have hw2 : wrap64 (2 * (r : Int)) = 2 * (r : Int) := wrap_small (by omega)
    by_cases hlt : 2 * r + 1 ≥ hi
    case pos =>
      have hT2 := Hs.out.2
      rw [sift_stop _ _ _ _ hlt] at hT2
      have Hf : Hid (SR w0 g off z T wr) := by rw [← hT2]; exact Hs.out.1
      have hlt2 : (hi : Int) ≤ 2 * (r : Int) + 1 := by omega
      clear Hs hT2
      go_wp2_with fail
      go_end0
      exact ⟨rfl, Hf.out⟩
    have hT2 := Hs.out.2
    rw [sift_step _ _ _ _ hlt] at hT2
    have HT2 := Lib.hid hT2
    have HS := Lib.hid Hs.out.1
    have hch := childS_lt (first := first) (d := dk) hlt
    have hlt2 : ¬ (hi : Int) ≤ 2 * (r : Int) + 1 := by omega
    have Hcd : Hid (childS hi first r dk = if (decide (2 * r + 1 + 1 < hi) && ltInt dk[first + (2 * r + 1)]! dk[first + (2 * r + 1) + 1]!) = true then 2 * r + 1 + 1 else 2 * r + 1) := Lib.hid rfl
    clear Hs hT2
    have hcH : 2 * (r : Int) + 1 < (hi : Int) := by omega
    have hcz : (first : Int) + (hi : Int) ≤ (z : Int) := by omega
    have q0 := HS.out.cell Rh.out Hz.out (i := first + (2 * r + 1)) (by omega)
    obtain ⟨vl, hvl⟩ : ∃ v, v = dk[first + (2 * r + 1)]! := ⟨_, rfl⟩
    rw [← hvl] at q0 Hcd
    by_cases hr2 : 2 * r + 1 + 1 < hi
    case pos =>
      have q1 := HS.out.cell Rh.out Hz.out (i := first + (2 * r + 1) + 1) (by omega)
      obtain ⟨vr, hvr⟩ : ∃ v, v = dk[first + (2 * r + 1) + 1]! := ⟨_, rfl⟩
      rw [← hvr] at q1 Hcd
      have hr3 : 2 * (r : Int) + 1 + 1 < (hi : Int) := by omega
      rw [decide_eq_true hr2, Bool.true_and] at Hcd
      have HLc := Lib.hid fun w => less_any vl vr w
      clear hvl hvr
      cases hlr : ltInt vl vr with
      | true =>
        rw [hlr] at HLc
        rw [hlr, if_pos rfl] at Hcd
        go_wp2_with fail
        go_quiet ((go_at_call 55; exact Calls.quiet_of_same (HLc.out _)))
        clear q1
        have HT3 := HT2.out
        rw [Hcd.out] at HT3
        have hcl := hch.1
        rw [Hcd.out] at hcl
        have HS2 : Hid (SR w0 g off z dk (wr.drewN nq)) := HS.out.drewN nq
        clear q0 HS
        generalize wr.drewN nq = w3 at *
        have q2 := HS2.out.cell Rh.out Hz.out (i := first + r) (by omega)
        have q3 := HS2.out.cell Rh.out Hz.out (i := first + (2 * r + 1 + 1)) (by omega)
        obtain ⟨va, hva⟩ : ∃ v, v = dk[first + r]! := ⟨_, rfl⟩
        obtain ⟨vb, hvb⟩ : ∃ v, v = dk[first + (2 * r + 1 + 1)]! := ⟨_, rfl⟩
        rw [← hva] at q2 HT3
        rw [← hvb] at q3 HT3
        have HLd := Lib.hid fun w => less_any va vb w
        have Hv : Hid (va = dk[first + r]! ∧ vb = dk[first + (2 * r + 1 + 1)]!) := ⟨hva, hvb⟩
        clear hva hvb
        have hrz : (first : Int) + (r : Int) < (z : Int) := by omega
        cases hab : ltInt va vb with
        | false =>
          rw [hab] at HLd
          rw [hab, if_pos (show (!false) = true from rfl)] at HT3
          have Hf : Hid (SR w0 g off z T w3) := by rw [← HT3]; exact HS2.out
          clear HS2 HT3 HT2 hab
          go_wp2_with fail
          go_quiet ((go_at_call 55; exact Calls.quiet_of_same (HLd.out _)))
          have Hf2 : Hid (SR w0 g off z T (w3.drewN nq)) := Hf.out.drewN nq
          go_wp2_with fail
          (try simp only [Exit.inBlock, Exit.then])
          refine bodyPost_ret (results_none rfl _ _ _) rfl ?_
          exact ⟨rfl, Hf2.out⟩
        | true =>
          rw [hab] at HLd
          rw [hab, if_neg (by decide)] at HT3
          have HT4 := Lib.hid HT3
          clear HT3 HT2 hab
          go_wp2_with fail
          go_quiet ((go_at_call 55; exact Calls.quiet_of_same (HLd.out _)))
          have HS3 : Hid (SR w0 g off z dk (w3.drewN nq)) := HS2.out.drewN nq
          clear q2 q3 HS2
          generalize w3.drewN nq = w5 at *
          have p0 := HS3.out.cell Rh.out Hz.out (i := first + r) (by omega)
          have p1 := HS3.out.cell Rh.out Hz.out (i := first + (2 * r + 1 + 1)) (by omega)
          have f0 := HS3.out.frozen Rh.out Hz.out (i := first + r) (by omega)
          have f1 := HS3.out.frozen Rh.out Hz.out (i := first + (2 * r + 1 + 1)) (by omega)
          have hsw := HS3.out.swap Rh.out (i := first + r) (j := first + (2 * r + 1 + 1)) (by omega) (by omega)
          obtain ⟨u, p2⟩ := HS3.out.second Rh.out Hz.out (i := first + r) (j := first + (2 * r + 1 + 1)) (by omega) (by omega) (.int .u64 dk[first + (2 * r + 1 + 1)]!)
          obtain ⟨dn, hdn⟩ : ∃ dn, dn = swp dk (first + r) (first + (2 * r + 1 + 1)) := ⟨_, rfl⟩
          rw [← hdn] at hsw
          have Hdn := Lib.hid hdn
          obtain ⟨x, hx⟩ : ∃ x, x = dk[first + r]! := ⟨_, rfl⟩
          obtain ⟨y, hy⟩ : ∃ y, y = dk[first + (2 * r + 1 + 1)]! := ⟨_, rfl⟩
          rw [← hx] at p0 hsw
          rw [← hy] at p1 hsw p2
          have Hsw := Lib.hid hsw
          clear hsw hx hy hdn
          go_wp2_with fail
          go_big_region_o
          clear p0 p1 f0 f1 p2
          generalize ((w5.setCell ⟨g, off + (first + r), none⟩ (.int .u64 y)).setCell ⟨g, off + (first + (2 * r + 1 + 1)), none⟩ (.int .u64 x)).drew = w6 at Hsw ⊢
          clear HS3
          go_wp2_with fail
          go_roundw
          case rel => exact ⟨2 * r + 1 + 1, dn, (by first | rfl | simp), by omega, Lib.hid ⟨Hsw.out, by rw [Hdn.out]; exact HT4.out⟩⟩
          case measure => simp [intOf]; omega
      | false =>
        rw [hlr] at HLc
        rw [hlr, if_neg (by decide)] at Hcd
        go_wp2_with fail
        go_quiet ((go_at_call 55; exact Calls.quiet_of_same (HLc.out _)))
        clear q1
        have HT3 := HT2.out
        rw [Hcd.out] at HT3
        have hcl := hch.1
        rw [Hcd.out] at hcl
        have HS2 : Hid (SR w0 g off z dk (wr.drewN nq)) := HS.out.drewN nq
        clear q0 HS
        generalize wr.drewN nq = w3 at *
        have q2 := HS2.out.cell Rh.out Hz.out (i := first + r) (by omega)
        have q3 := HS2.out.cell Rh.out Hz.out (i := first + (2 * r + 1)) (by omega)
        obtain ⟨va, hva⟩ : ∃ v, v = dk[first + r]! := ⟨_, rfl⟩
        obtain ⟨vb, hvb⟩ : ∃ v, v = dk[first + (2 * r + 1)]! := ⟨_, rfl⟩
        rw [← hva] at q2 HT3
        rw [← hvb] at q3 HT3
        have HLd := Lib.hid fun w => less_any va vb w
        have Hv : Hid (va = dk[first + r]! ∧ vb = dk[first + (2 * r + 1)]!) := ⟨hva, hvb⟩
        clear hva hvb
        have hrz : (first : Int) + (r : Int) < (z : Int) := by omega
        cases hab : ltInt va vb with
        | false =>
          rw [hab] at HLd
          rw [hab, if_pos (show (!false) = true from rfl)] at HT3
          have Hf : Hid (SR w0 g off z T w3) := by rw [← HT3]; exact HS2.out
          clear HS2 HT3 HT2 hab
          go_wp2_with fail
          go_quiet ((go_at_call 55; exact Calls.quiet_of_same (HLd.out _)))
          have Hf2 : Hid (SR w0 g off z T (w3.drewN nq)) := Hf.out.drewN nq
          go_wp2_with fail
          (try simp only [Exit.inBlock, Exit.then])
          refine bodyPost_ret (results_none rfl _ _ _) rfl ?_
          exact ⟨rfl, Hf2.out⟩
        | true =>
          rw [hab] at HLd
          rw [hab, if_neg (by decide)] at HT3
          have HT4 := Lib.hid HT3
          clear HT3 HT2 hab
          go_wp2_with fail
          go_quiet ((go_at_call 55; exact Calls.quiet_of_same (HLd.out _)))
          have HS3 : Hid (SR w0 g off z dk (w3.drewN nq)) := HS2.out.drewN nq
          clear q2 q3 HS2
          generalize w3.drewN nq = w5 at *
          have p0 := HS3.out.cell Rh.out Hz.out (i := first + r) (by omega)
          have p1 := HS3.out.cell Rh.out Hz.out (i := first + (2 * r + 1)) (by omega)
          have f0 := HS3.out.frozen Rh.out Hz.out (i := first + r) (by omega)
          have f1 := HS3.out.frozen Rh.out Hz.out (i := first + (2 * r + 1)) (by omega)
          have hsw := HS3.out.swap Rh.out (i := first + r) (j := first + (2 * r + 1)) (by omega) (by omega)
          obtain ⟨u, p2⟩ := HS3.out.second Rh.out Hz.out (i := first + r) (j := first + (2 * r + 1)) (by omega) (by omega) (.int .u64 dk[first + (2 * r + 1)]!)
          obtain ⟨dn, hdn⟩ : ∃ dn, dn = swp dk (first + r) (first + (2 * r + 1)) := ⟨_, rfl⟩
          rw [← hdn] at hsw
          have Hdn := Lib.hid hdn
          obtain ⟨x, hx⟩ : ∃ x, x = dk[first + r]! := ⟨_, rfl⟩
          obtain ⟨y, hy⟩ : ∃ y, y = dk[first + (2 * r + 1)]! := ⟨_, rfl⟩
          rw [← hx] at p0 hsw
          rw [← hy] at p1 hsw p2
          have Hsw := Lib.hid hsw
          clear hsw hx hy hdn
          go_wp2_with fail
          go_big_region_o
          clear p0 p1 f0 f1 p2
          generalize ((w5.setCell ⟨g, off + (first + r), none⟩ (.int .u64 y)).setCell ⟨g, off + (first + (2 * r + 1)), none⟩ (.int .u64 x)).drew = w6 at Hsw ⊢
          clear HS3
          go_wp2_with fail
          go_roundw
          case rel => exact ⟨2 * r + 1, dn, (by first | rfl | simp), by omega, Lib.hid ⟨Hsw.out, by rw [Hdn.out]; exact HT4.out⟩⟩
          case measure => simp [intOf]; omega
    case neg =>
      have hr3 : ¬ 2 * (r : Int) + 1 + 1 < (hi : Int) := by omega
      rw [decide_eq_false hr2, Bool.false_and, if_neg (by decide)] at Hcd
      have hr4 : decide (2 * (r : Int) + 1 + 1 < (hi : Int)) = false := decide_eq_false hr3
      have hr5 : decide (2 * r + 1 + 1 < hi) = false := decide_eq_false hr2
      clear hvl
      go_wp2_with fail
      go_quiet (fail)
      have HT3 := HT2.out
      rw [Hcd.out] at HT3
      have hcl := hch.1
      rw [Hcd.out] at hcl
      have HS2 : Hid (SR w0 g off z dk (wr.drewN nq)) := HS.out.drewN nq
      clear q0 HS
      generalize wr.drewN nq = w3 at *
      have q2 := HS2.out.cell Rh.out Hz.out (i := first + r) (by omega)
      have q3 := HS2.out.cell Rh.out Hz.out (i := first + (2 * r + 1)) (by omega)
      obtain ⟨va, hva⟩ : ∃ v, v = dk[first + r]! := ⟨_, rfl⟩
      obtain ⟨vb, hvb⟩ : ∃ v, v = dk[first + (2 * r + 1)]! := ⟨_, rfl⟩
      rw [← hva] at q2 HT3
      rw [← hvb] at q3 HT3
      have HLd := Lib.hid fun w => less_any va vb w
      have Hv : Hid (va = dk[first + r]! ∧ vb = dk[first + (2 * r + 1)]!) := ⟨hva, hvb⟩
      clear hva hvb
      have hrz : (first : Int) + (r : Int) < (z : Int) := by omega
      cases hab : ltInt va vb with
      | false =>
        rw [hab] at HLd
        rw [hab, if_pos (show (!false) = true from rfl)] at HT3
        have Hf : Hid (SR w0 g off z T w3) := by rw [← HT3]; exact HS2.out
        clear HS2 HT3 HT2 hab
        go_wp2_with fail
        go_quiet ((go_at_call 55; exact Calls.quiet_of_same (HLd.out _)))
        have Hf2 : Hid (SR w0 g off z T (w3.drewN nq)) := Hf.out.drewN nq
        go_wp2_with fail
        (try simp only [Exit.inBlock, Exit.then])
        refine bodyPost_ret (results_none rfl _ _ _) rfl ?_
        exact ⟨rfl, Hf2.out⟩
      | true =>
        rw [hab] at HLd
        rw [hab, if_neg (by decide)] at HT3
        have HT4 := Lib.hid HT3
        clear HT3 HT2 hab
        go_wp2_with fail
        go_quiet ((go_at_call 55; exact Calls.quiet_of_same (HLd.out _)))
        have HS3 : Hid (SR w0 g off z dk (w3.drewN nq)) := HS2.out.drewN nq
        clear q2 q3 HS2
        generalize w3.drewN nq = w5 at *
        have p0 := HS3.out.cell Rh.out Hz.out (i := first + r) (by omega)
        have p1 := HS3.out.cell Rh.out Hz.out (i := first + (2 * r + 1)) (by omega)
        have f0 := HS3.out.frozen Rh.out Hz.out (i := first + r) (by omega)
        have f1 := HS3.out.frozen Rh.out Hz.out (i := first + (2 * r + 1)) (by omega)
        have hsw := HS3.out.swap Rh.out (i := first + r) (j := first + (2 * r + 1)) (by omega) (by omega)
        obtain ⟨u, p2⟩ := HS3.out.second Rh.out Hz.out (i := first + r) (j := first + (2 * r + 1)) (by omega) (by omega) (.int .u64 dk[first + (2 * r + 1)]!)
        obtain ⟨dn, hdn⟩ : ∃ dn, dn = swp dk (first + r) (first + (2 * r + 1)) := ⟨_, rfl⟩
        rw [← hdn] at hsw
        have Hdn := Lib.hid hdn
        obtain ⟨x, hx⟩ : ∃ x, x = dk[first + r]! := ⟨_, rfl⟩
        obtain ⟨y, hy⟩ : ∃ y, y = dk[first + (2 * r + 1)]! := ⟨_, rfl⟩
        rw [← hx] at p0 hsw
        rw [← hy] at p1 hsw p2
        have Hsw := Lib.hid hsw
        clear hsw hx hy hdn
        go_wp2_with fail
        go_big_region_o
        clear p0 p1 f0 f1 p2
        generalize ((w5.setCell ⟨g, off + (first + r), none⟩ (.int .u64 y)).setCell ⟨g, off + (first + (2 * r + 1)), none⟩ (.int .u64 x)).drew = w6 at Hsw ⊢
        clear HS3
        go_wp2_with fail
        go_roundw
        case rel => exact ⟨2 * r + 1, dn, (by first | rfl | simp), by omega, Lib.hid ⟨Hsw.out, by rw [Hdn.out]; exact HT4.out⟩⟩
        case measure => simp [intOf]; omega
end
end Go.Proofs.Ytejimgjonhaocaa
