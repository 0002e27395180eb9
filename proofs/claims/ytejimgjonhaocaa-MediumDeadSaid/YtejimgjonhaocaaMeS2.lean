/-
  slices' insertionSortOrdered at numbers of 64 bits.
-/
import Derived.Test.YtejimgjonhaocaaMeS1
namespace Go.Proofs.Ytejimgjonhaocaa
open Go.RowKit Go.Maps Go.Shelf Go.Lib Go.Sort

theorem insOuter_step (a b i : Nat) (d : Array Int) : insOuter ltInt a b i d = if i < b then insOuter ltInt a b (i + 1) (insInner ltInt a i d) else d := by rw [insOuter]
section
set_option maxRecDepth 100000
set_option maxHeartbeats 4000000
variable {w0 W : World} {g off z cap : Nat} {d0 : Array Int}
theorem insertion_any (R : Row1 eU w0 g off d0) (hz : d0.size = z) (hz1 : z ≤ 1000000) (d : Array Int) (a b : Nat) (hab : a ≤ b) (hb : b ≤ z) (S : SR w0 g off z d W) :
    Calls Try.prog 49 #[.slice (some ⟨g, off, none⟩) z cap, .int .i64 (a : Int), .int .i64 (b : Int)] W fun e w' => e = .returned (.tuple #[]) ∧ SR w0 g off z (insertionSort ltInt d a b) w' := by
  have mixed : Try.prog.follows Departure.mixedOrders = true := by kernel_rfl
  have HL := Lib.hid fun x y w => less_any x y w
  have Rh := Lib.hid R
  have Hz := Lib.hid hz
  obtain ⟨T, hT⟩ : ∃ T, T = insertionSort ltInt d a b := ⟨_, rfl⟩
  rw [← hT]
  have H0 : Hid (SR w0 g off z d W ∧ insOuter ltInt a b (a + 1) d = T) := ⟨S, by rw [hT]; rfl⟩
  have hz2 : (z : Int) ≤ 1000000 := by omega
  clear R hz S hT
  go_enter Try.func49, Try.ntmps49
  go_wp2_with fail
  go_loopw [6] (fun iv wr => ∃ (i : Nat) (dk : Array Int), iv = .int .i64 (i : Int) ∧ a + 1 ≤ i ∧ i ≤ z + 1 ∧ Hid (SR w0 g off z dk wr ∧ insOuter ltInt a b i dk = T)) (fun iv _ => z + 1 - (intOf iv).toNat)
  case atStart => exact ⟨a + 1, d, (by first | rfl | simp), by omega, by omega, H0⟩
  case round =>
    obtain ⟨i, dk, rfl, hi, hiz, Hs⟩ := hrel
    by_cases hlt : i < b
    case neg =>
      have hT2 := Hs.out.2
      rw [insOuter_step, if_neg hlt] at hT2
      have Hf : Hid (SR w0 g off z T wr) := by rw [← hT2]; exact Hs.out.1
      have hlt2 : ¬ (i : Int) < (b : Int) := by omega
      clear Hs hT2
      go_wp2_with fail
      go_end0
      exact ⟨rfl, Hf.out⟩
    have hT2 := Hs.out.2
    rw [insOuter_step, if_pos hlt] at hT2
    have hlt2 : (i : Int) < (b : Int) := by omega
    have Hin := Lib.hid Hs.out.1
    have HT2 := Lib.hid hT2
    clear Hs hT2
    go_wp2_with fail
    generalize wr = wr1 at *
    go_loopw [7] (fun jv wr => ∃ (j : Nat) (dj : Array Int), jv = .int .i64 (j : Int) ∧ a ≤ j ∧ j ≤ i ∧ Hid (SR w0 g off z dj wr ∧ insInner ltInt a j dj = insInner ltInt a i dk)) (fun jv _ => (intOf jv).toNat)
    case atStart => exact ⟨i, dk, rfl, by omega, Nat.le_refl _, Lib.hid ⟨Hin.out, rfl⟩⟩
    case round =>
      obtain ⟨j, dj, rfl, hj, hji, Hj⟩ := hrel
      by_cases hja : a < j
      case neg =>
        obtain rfl : j = a := by omega
        have hje : insInner ltInt j j dj = dj := by
          cases j with
          | zero => rfl
          | succ j => unfold insInner; rw [if_neg (by simp)]
        have Hn : Hid (SR w0 g off z (insInner ltInt j i dk) wr) := by rw [← Hj.out.2, hje]; exact Hj.out.1
        clear hje Hj
        go_wp2_with fail
        go_quiet (fail)
        have Hn2 : Hid (SR w0 g off z (insInner ltInt j i dk) (wr.drewN nq)) := Hn.out.drewN nq
        go_wp2_with fail
        go_roundw
        case rel => exact ⟨i + 1, _, (by first | rfl | simp), by omega, by omega, Hn2.out, HT2.out⟩
        case measure => simp [intOf]; omega
      obtain ⟨j, rfl⟩ : ∃ k, j = k + 1 := ⟨j - 1, by omega⟩
      have p0 := Hj.out.1.cell Rh.out Hz.out (i := j + 1) (by omega)
      have p1 := Hj.out.1.cell Rh.out Hz.out (i := j) (by omega)
      have hjn : insInner ltInt a (j + 1) dj = if (decide (j + 1 > a) && ltInt dj[j + 1]! dj[j]!) = true then insInner ltInt a j (swp dj (j + 1) j) else dj := rfl
      rw [decide_eq_true (show j + 1 > a from hja), Bool.true_and] at hjn
      have f0 := Hj.out.1.frozen Rh.out Hz.out (i := j + 1) (by omega)
      have f1 := Hj.out.1.frozen Rh.out Hz.out (i := j) (by omega)
      have hsw := Hj.out.1.swap Rh.out (i := j + 1) (j := j) (by omega) (by omega)
      obtain ⟨u, p2⟩ := Hj.out.1.second Rh.out Hz.out (i := j + 1) (j := j) (by omega) (by omega) (.int .u64 dj[j]!)
      obtain ⟨dn, hdn⟩ : ∃ dn, dn = swp dj (j + 1) j := ⟨_, rfl⟩
      rw [← hdn] at hsw hjn
      obtain ⟨x, hx⟩ : ∃ x, x = dj[j + 1]! := ⟨_, rfl⟩
      obtain ⟨y, hy⟩ : ∃ y, y = dj[j]! := ⟨_, rfl⟩
      rw [← hx] at p0 hsw hjn
      rw [← hy] at p1 hsw p2 hjn
      have hji2 : (j : Int) + 1 < (z : Int) := by omega
      have hja2 : (a : Int) < (j : Int) + 1 := by omega
      have hjE := Hj.out.2
      have Hsw := Lib.hid hsw
      cases hl : ltInt x y with
      | false =>
        rw [hl, if_neg (by decide)] at hjn
        have Hn : Hid (SR w0 g off z (insInner ltInt a i dk) wr) := by rw [← hjE, hjn]; exact Hj.out.1
        have HLc := Lib.hid fun w => less_any x y w
        rw [hl] at HLc
        clear hjn hjE Hj hsw hx hy hdn f0 f1 p2 Hsw hl
        go_wp2_with fail
        go_quiet ((go_at_call 55; exact Calls.quiet_of_same (HLc.out _)))
        have Hn2 : Hid (SR w0 g off z (insInner ltInt a i dk) (wr.drewN nq)) := Hn.out.drewN nq
        clear p0 p1
        go_wp2_with fail
        go_roundw
        case rel => exact ⟨i + 1, _, (by first | rfl | simp), by omega, by omega, Hn2.out, HT2.out⟩
        case measure => simp [intOf]; omega
      | true =>
        rw [hl, if_pos rfl] at hjn
        have HLc := Lib.hid fun w => less_any x y w
        rw [hl] at HLc
        have HjE := Lib.hid (hjn.symm.trans hjE)
        have HSj := Lib.hid Hj.out.1
        have Hxy : Hid (x = dj[j + 1]! ∧ y = dj[j]! ∧ dn = swp dj (j + 1) j) := ⟨hx, hy, hdn⟩
        clear hjn hjE Hj hsw hx hy hdn hl f0 f1 p2 Hsw
        go_wp2_with fail
        go_quiet ((go_at_call 55; exact Calls.quiet_of_same (HLc.out _)))
        have HS2 : Hid (SR w0 g off z dj (wr.drewN nq)) := HSj.out.drewN nq
        clear p0 p1 HSj
        generalize wr.drewN nq = w3 at *
        have p0 := HS2.out.cell Rh.out Hz.out (i := j + 1) (by omega)
        have p1 := HS2.out.cell Rh.out Hz.out (i := j) (by omega)
        have f0 := HS2.out.frozen Rh.out Hz.out (i := j + 1) (by omega)
        have f1 := HS2.out.frozen Rh.out Hz.out (i := j) (by omega)
        have hsw := HS2.out.swap Rh.out (i := j + 1) (j := j) (by omega) (by omega)
        obtain ⟨u, p2⟩ := HS2.out.second Rh.out Hz.out (i := j + 1) (j := j) (by omega) (by omega) (.int .u64 dj[j]!)
        rw [← Hxy.out.2.2] at hsw
        rw [← Hxy.out.1] at p0 hsw
        rw [← Hxy.out.2.1] at p1 hsw p2
        have Hsw := Lib.hid hsw
        clear hsw HS2
        go_wp2_with fail
        go_big_region_o
        clear p0 p1 f0 f1 p2
        generalize ((w3.setCell ⟨g, off + (j + 1), none⟩ (.int .u64 y)).setCell ⟨g, off + j, none⟩ (.int .u64 x)).drew = w4 at Hsw ⊢
        go_wp2_with fail
        go_roundw
        case rel => exact ⟨j, dn, (by first | rfl | simp), by omega, by omega, Lib.hid ⟨Hsw.out, HjE.out⟩⟩
        case measure => simp [intOf]
end
end Go.Proofs.Ytejimgjonhaocaa
