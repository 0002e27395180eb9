/-
  slices' reverseRangeOrdered at numbers of 64 bits.
-/
import Derived.Test.YtejimgjonhaocaaMeS2
namespace Go.Proofs.Ytejimgjonhaocaa
open Go.RowKit Go.Maps Go.Shelf Go.Lib Go.Sort

theorem reverse_step (i j : Nat) (d : Array Int) : reverseLoop i j d = if i < j then reverseLoop (i + 1) (j - 1) (swp d i j) else d := by rw [reverseLoop]
section
set_option maxRecDepth 100000
set_option maxHeartbeats 4000000
variable {w0 W : World} {g off z cap : Nat} {d0 : Array Int}
theorem reverse_any (R : Row1 eU w0 g off d0) (hz : d0.size = z) (hz1 : z ≤ 1000000) (d : Array Int) (a b : Nat) (hab : a < b) (hb : b ≤ z) (S : SR w0 g off z d W) :
    Calls Try.prog 53 #[.slice (some ⟨g, off, none⟩) z cap, .int .i64 (a : Int), .int .i64 (b : Int)] W fun e w' => e = .returned (.tuple #[]) ∧ SR w0 g off z (reverseRange d a b) w' := by
  have mixed : Try.prog.follows Departure.mixedOrders = true := by kernel_rfl
  have Rh := Lib.hid R
  have Hz := Lib.hid hz
  obtain ⟨T, hT⟩ : ∃ T, T = reverseRange d a b := ⟨_, rfl⟩
  rw [← hT]
  have H0 : Hid (SR w0 g off z d W ∧ reverseLoop a (b - 1) d = T) := ⟨S, by rw [hT]; rfl⟩
  have hz2 : (z : Int) ≤ 1000000 := by omega
  have e1 : (b : Int) - 1 = ((b - 1 : Nat) : Int) := by omega
  obtain ⟨b', rfl⟩ : ∃ k, b = k + 1 := ⟨b - 1, by omega⟩
  clear R hz S hT e1
  go_enter Try.func53, Try.ntmps53
  go_wp2_with fail
  go_loopw [6, 7] (fun iv jv wr => ∃ (i j : Nat) (dk : Array Int), iv = .int .i64 (i : Int) ∧ jv = .int .i64 (j : Int) ∧ i ≤ z ∧ j < z ∧ Hid (SR w0 g off z dk wr ∧ reverseLoop i j dk = T)) (fun _ jv _ => (intOf jv).toNat)
  case atStart => exact ⟨a, b', d, (by first | rfl | simp), (by first | rfl | simp), by omega, by omega, H0⟩
  case round =>
    obtain ⟨i, j, dk, rfl, rfl, hi, hj, Hs⟩ := hrel
    by_cases hlt : i < j
    case neg =>
      have hT2 := Hs.out.2
      rw [reverse_step, if_neg hlt] at hT2
      have Hf : Hid (SR w0 g off z T wr) := by rw [← hT2]; exact Hs.out.1
      have hlt2 : ¬ (i : Int) < (j : Int) := by omega
      clear Hs hT2
      go_wp2_with fail
      go_end0
      exact ⟨rfl, Hf.out⟩
    have hT2 := Hs.out.2
    rw [reverse_step, if_pos hlt] at hT2
    have HT2 := Lib.hid hT2
    have HS := Lib.hid Hs.out.1
    have hlt2 : (i : Int) < (j : Int) := by omega
    have hj2 : (j : Int) < (z : Int) := by omega
    have hi2 : (i : Int) < (z : Int) := by omega
    clear Hs hT2
    have p0 := HS.out.cell Rh.out Hz.out (i := i) (by omega)
    have p1 := HS.out.cell Rh.out Hz.out (i := j) (by omega)
    have f0 := HS.out.frozen Rh.out Hz.out (i := i) (by omega)
    have f1 := HS.out.frozen Rh.out Hz.out (i := j) (by omega)
    have hsw := HS.out.swap Rh.out (i := i) (j := j) (by omega) (by omega)
    obtain ⟨u, p2⟩ := HS.out.second Rh.out Hz.out (i := i) (j := j) (by omega) (by omega) (.int .u64 dk[j]!)
    obtain ⟨dn, hdn⟩ : ∃ dn, dn = swp dk (i) (j) := ⟨_, rfl⟩
    rw [← hdn] at hsw
    have Hdn := Lib.hid hdn
    obtain ⟨x, hx⟩ : ∃ x, x = dk[i]! := ⟨_, rfl⟩
    obtain ⟨y, hy⟩ : ∃ y, y = dk[j]! := ⟨_, rfl⟩
    rw [← hx] at p0 hsw
    rw [← hy] at p1 hsw p2
    have Hsw := Lib.hid hsw
    clear hsw hx hy hdn
    go_wp2_with fail
    go_big_region_o
    clear p0 p1 f0 f1 p2
    generalize ((wr.setCell ⟨g, off + (i), none⟩ (.int .u64 y)).setCell ⟨g, off + (j), none⟩ (.int .u64 x)).drew = w4 at Hsw ⊢
    clear HS
    obtain ⟨j, rfl⟩ : ∃ k, j = k + 1 := ⟨j - 1, by omega⟩
    go_wp2_with fail
    go_roundw
    case rel => exact ⟨i + 1, j, dn, (by first | rfl | simp), (by first | rfl | simp), by omega, by omega, Lib.hid ⟨Hsw.out, by rw [Hdn.out]; exact HT2.out⟩⟩
    case measure => simp [intOf]
end
end Go.Proofs.Ytejimgjonhaocaa
