/-
  slices' heapSortOrdered at numbers of 64 bits.
-/
import Derived.Test.YtejimgjonhaocaaMeS4
namespace Go.Proofs.Ytejimgjonhaocaa
open Go.RowKit Go.Maps Go.Shelf Go.Lib Go.Sort

section
set_option maxRecDepth 100000
set_option maxHeartbeats 4000000
variable {w0 W : World} {g off z cap : Nat} {d0 : Array Int}
theorem heap_any (R : Row1 eU w0 g off d0) (hz : d0.size = z) (hz1 : z ≤ 1000000) (d : Array Int) (a b : Nat) (hab : a < b) (hb : b ≤ z) (S : SR w0 g off z d W) :
    Calls Try.prog 50 #[.slice (some ⟨g, off, none⟩) z cap, .int .i64 (a : Int), .int .i64 (b : Int)] W fun e w' => e = .returned (.tuple #[]) ∧ SR w0 g off z (heapSort ltInt d a b) w' := by
  have mixed : Try.prog.follows Departure.mixedOrders = true := by kernel_rfl
  have Rh := Lib.hid R
  have Hz := Lib.hid hz
  obtain ⟨h, hbe⟩ : ∃ h, b = a + (h + 1) := ⟨b - a - 1, by omega⟩
  obtain ⟨T, hT⟩ : ∃ T, T = heapSort ltInt d a b := ⟨_, rfl⟩
  rw [← hT]
  obtain ⟨B, hB⟩ : ∃ B, B = heapBuild ltInt (h + 1) a (h / 2 + 1) d := ⟨_, rfl⟩
  have hT2 : heapPop ltInt a (h + 1) B = T := by
    rw [hT, hB]; unfold heapSort
    rw [show b - a = h + 1 by omega, show h + 1 - 1 = h by omega]
  have H0 : Hid (SR w0 g off z d W ∧ heapBuild ltInt (h + 1) a (h / 2 + 1) d = B) := ⟨S, hB.symm⟩
  have HT := Lib.hid hT2
  have Hsf := Lib.hid fun W dk (lo hi : Nat) (hb : a + hi ≤ z) (hl : lo ≤ z) (S : SR w0 g off z dk W) => sift_any (cap := cap) R hz hz1 dk lo hi a hb hl S
  have hz2 : (z : Int) ≤ 1000000 := by omega
  have hbz : (a : Int) + ((h : Int) + 1) ≤ (z : Int) := by omega
  have hbz2 : a + (h + 1) ≤ z := by omega
  have e0 : (b : Int) - (a : Int) = (h : Int) + 1 := by omega
  have hbb : (b : Int) ≤ 1000000 ∧ (a : Int) ≤ (b : Int) := by omega
  clear R hz S hT hB hT2 hbe hb hab
  go_enter Try.func50, Try.ntmps50
  go_wp2_with fail
  go_loopw [9] (fun iv wr => ∃ (k : Nat) (x : Int) (dk : Array Int), iv = .int .i64 x ∧ x = (k : Int) - 1 ∧ k ≤ h + 1 ∧ Hid (SR w0 g off z dk wr ∧ heapBuild ltInt (h + 1) a k dk = B)) (fun iv _ => (intOf iv + 1).toNat)
  case atStart => exact ⟨h / 2 + 1, _, d, rfl, by omega, by omega, H0⟩
  case round =>
    obtain ⟨k, x, dk, rfl, hx, hk, Hs⟩ := hrel
    cases k with
    | succ k =>
      obtain rfl : x = (k : Int) := by omega
      have HcS := Lib.hid (Hsf.out wr dk k (h + 1) (by omega) (by omega) Hs.out.1)
      have HcS2 : Hid (Calls Try.prog 60 #[.slice (some ⟨g, off, none⟩) z cap, .int .i64 (k : Int), .int .i64 ((h : Int) + 1), .int .i64 (a : Int)] wr fun e w' => e = .returned (.tuple #[]) ∧ SR w0 g off z (siftDown ltInt (h + 1) a k dk) w') := HcS.out
      have HE := Lib.hid Hs.out.2
      have hk0 : (0 : Int) ≤ (k : Int) := by omega
      clear hx Hs HcS
      go_wp2_with fail
      refine HcS2.out.mono ?_
      rintro e w3 ⟨rfl, h3⟩
      have H3 := Lib.hid h3
      clear h3 HcS2
      go_wp2_with fail
      go_roundw
      case rel => exact ⟨k, _, _, rfl, by first | rfl | omega, by omega, Lib.hid ⟨H3.out, HE.out⟩⟩
      case measure => simp [intOf] <;> omega
    | zero =>
      obtain rfl : x = -1 := by omega
      have H4 : Hid (SR w0 g off z B wr) := by have := Hs.out.2; rw [← this]; exact Hs.out.1
      clear hx Hs H0 hk
      go_wp2_with fail
      generalize wr = wr1 at *
      go_loopw [10] (fun iv wr => ∃ (k : Nat) (x : Int) (dk : Array Int), iv = .int .i64 x ∧ x = (k : Int) - 1 ∧ k ≤ h + 1 ∧ Hid (SR w0 g off z dk wr ∧ heapPop ltInt a k dk = T)) (fun iv _ => (intOf iv + 1).toNat)
      case atStart => exact ⟨h + 1, _, B, rfl, by first | rfl | omega, Nat.le_refl _, Lib.hid ⟨H4.out, HT.out⟩⟩
      case round =>
        obtain ⟨k, x, dk, rfl, hx, hk, Hs⟩ := hrel
        cases k with
        | zero =>
          obtain rfl : x = -1 := by omega
          have H5 : Hid (SR w0 g off z T wr) := by have := Hs.out.2; rw [← this]; exact Hs.out.1
          clear hx Hs
          go_wp2_with fail
          go_end0
          exact ⟨rfl, H5.out⟩
        | succ k =>
          obtain rfl : x = (k : Int) := by omega
          have HE := Lib.hid Hs.out.2
          have HS := Lib.hid Hs.out.1
          have hk0 : (0 : Int) ≤ (k : Int) := by omega
          have hkh : (k : Int) ≤ (h : Int) := by omega
          clear hx Hs
          have p0 := HS.out.cell Rh.out Hz.out (i := a) (by omega)
          have p1 := HS.out.cell Rh.out Hz.out (i := a + k) (by omega)
          have f0 := HS.out.frozen Rh.out Hz.out (i := a) (by omega)
          have f1 := HS.out.frozen Rh.out Hz.out (i := a + k) (by omega)
          have hsw := HS.out.swap Rh.out (i := a) (j := a + k) (by omega) (by omega)
          obtain ⟨u, p2⟩ := HS.out.second Rh.out Hz.out (i := a) (j := a + k) (by omega) (by omega) (.int .u64 dk[a + k]!)
          obtain ⟨dn, hdn⟩ : ∃ dn, dn = swp dk (a) (a + k) := ⟨_, rfl⟩
          rw [← hdn] at hsw
          have Hdn := Lib.hid hdn
          obtain ⟨x, hx⟩ : ∃ x, x = dk[a]! := ⟨_, rfl⟩
          obtain ⟨y, hy⟩ : ∃ y, y = dk[a + k]! := ⟨_, rfl⟩
          rw [← hx] at p0 hsw
          rw [← hy] at p1 hsw p2
          have Hsw := Lib.hid hsw
          clear hsw hx hy hdn
          go_wp2_with fail
          go_big_region_o
          clear p0 p1 f0 f1 p2
          generalize ((wr.setCell ⟨g, off + (a), none⟩ (.int .u64 y)).setCell ⟨g, off + (a + k), none⟩ (.int .u64 x)).drew = w4 at Hsw ⊢
          clear HS
          have HcS := Lib.hid (Hsf.out w4 dn 0 k (by omega) (by omega) Hsw.out)
          have HcS2 : Hid (Calls Try.prog 60 #[.slice (some ⟨g, off, none⟩) z cap, .int .i64 0, .int .i64 (k : Int), .int .i64 (a : Int)] w4 fun e w' => e = .returned (.tuple #[]) ∧ SR w0 g off z (siftDown ltInt k a 0 dn) w') := HcS.out
          have HE2 : Hid (heapPop ltInt a k (siftDown ltInt k a 0 dn) = T) := by rw [Hdn.out]; exact HE.out
          clear HcS HE
          go_wp2_with fail
          refine HcS2.out.mono ?_
          rintro e w5 ⟨rfl, h5⟩
          have H5 := Lib.hid h5
          clear h5 HcS2
          go_wp2_with fail
          go_roundw
          case rel => exact ⟨k, _, _, rfl, by first | rfl | omega, by omega, Lib.hid ⟨H5.out, HE2.out⟩⟩
          case measure => simp [intOf] <;> omega
end
end Go.Proofs.Ytejimgjonhaocaa
