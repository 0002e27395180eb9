/-
  slices' breakPatternsOrdered at numbers of 64 bits: the row's part is turned about, no more.
-/
import Derived.Test.YtejimgjonhaocaaMeS11
namespace Go.Proofs.Ytejimgjonhaocaa
open Go.RowKit Go.Maps Go.Shelf Go.Lib Go.Sort

/-- the generator's state in a block of its own -/
structure RdAt (w0 W : World) (sb X : Nat) : Prop where
  hb : w0.heap.size ≤ sb
  c : W.cell? ⟨sb, 0, none⟩ = some (.int .u64 (X : Int))
  f : W.frozen? ⟨sb, 0, none⟩ = false
  lt : X < 18446744073709551616
section
set_option maxRecDepth 100000
set_option maxHeartbeats 4000000
variable {w0 W : World} {g off z cap : Nat} {d0 : Array Int}
theorem break_any (R : Row1 eU w0 g off d0) (hz : d0.size = z) (hz1 : z ≤ 255) (d : Array Int) (a b : Nat) (hab : a + 8 ≤ b) (hb : b ≤ z) (S : SR w0 g off z d W) :
    Calls Try.prog 51 #[.slice (some ⟨g, off, none⟩) z cap, .int .i64 (a : Int), .int .i64 (b : Int)] W fun e w' => e = .returned (.tuple #[]) ∧ ∃ d', PermIn a b d d' ∧ SR w0 g off z d' w' := by
  have mixed : Try.prog.follows Departure.mixedOrders = true := by kernel_rfl
  have Rh := Lib.hid R
  have Hz := Lib.hid hz
  obtain ⟨l, hl⟩ : ∃ l, b = a + l := ⟨b - a, by omega⟩
  obtain ⟨q, hq⟩ : ∃ q, q = l / 4 := ⟨_, rfl⟩
  have e0 : (b : Int) - (a : Int) = (l : Int) := by omega
  have e1 : (l : Int) / 4 = (q : Int) := by omega
  have hl8 : 8 ≤ l := by omega
  have hl8i : (8 : Int) ≤ (l : Int) := by omega
  have hl255 : l ≤ 255 := by omega
  have hq4 : 4 * q ≤ l ∧ 2 ≤ q := by omega
  have hai : (a : Int) ≤ 1000000 ∧ (b : Int) ≤ 1000000 ∧ (l : Int) ≤ 1000000 ∧ (q : Int) ≤ 1000000 ∧ (z : Int) ≤ 1000000 := by omega
  have Hbl := Lib.hid (And.intro hl hb)
  obtain ⟨M, hM⟩ : ∃ M : Nat, M = 1 <<< bitsLen l := ⟨_, rfl⟩
  have hM1 : 1 ≤ M := by rw [hM, Nat.one_shiftLeft]; exact Nat.two_pow_pos _
  have hM2 : M ≤ 2 * l := by rw [hM, Nat.one_shiftLeft]; exact two_pow_bitsLen_le (by omega)
  have HP := Lib.hid fun w => power_any l (by omega) w
  rw [← hM] at HP
  have hMi : (1 : Int) ≤ (M : Int) ∧ (M : Int) ≤ 510 := by omega
  have wl : IntKind.u64.wrap (l : Int) = (l : Int) := by rw [IntKind.wrap_u64]; omega
  obtain ⟨i0, hi0⟩ : ∃ i, i = a + q * 2 - 1 := ⟨_, rfl⟩
  have ei0 : (a : Int) + (q : Int) * 2 - 1 = (i0 : Int) := by omega
  have HS0 : Hid (SR w0 g off z d (W.alloc (.cells #[.int .u64 (l : Int)] 106)) ∧ RdAt w0 (W.alloc (.cells #[.int .u64 (l : Int)] 106)) W.heap.size l) :=
    ⟨⟨S.sw.alloc _, S.sz⟩, S.sw.le, (Cells.new W _ _).cell rfl, (Cells.new W #[.int .u64 (l : Int)] 106).frozen 0, by omega⟩
  have hne : W.heap.size ≠ g := by have := S.sw.lt Rh.out.hblk; omega
  have Hi0 := Lib.hid (And.intro hi0 (And.intro hq4 hM2))
  have hiz : (i0 : Int) ≤ 900 := by omega
  clear R hz S hM hl hq hab hb hz1 hi0 hM2
  go_enter Try.func51, Try.ntmps51
  go_wp2_with (go_at_call 61; refine (HP.out _).mono ?_; rintro e w2 ⟨rfl, rfl⟩)
  have H0 : Hid (PermIn a b d d ∧ SR w0 g off z d (W.alloc (.cells #[.int .u64 (l : Int)] 106)) ∧ ∃ X, RdAt w0 (W.alloc (.cells #[.int .u64 (l : Int)] 106)) W.heap.size X) := ⟨permIn_refl _ _ _, HS0.out.1, l, HS0.out.2⟩
  clear HS0
  generalize W.alloc (.cells #[.int .u64 (l : Int)] 106) = W1 at *
  go_loopw [9] (fun iv wr => ∃ (i : Nat) (dk : Array Int), iv = .int .i64 (i : Int) ∧ i0 ≤ i ∧ i ≤ i0 + 3 ∧ Hid (PermIn a b d dk ∧ SR w0 g off z dk wr ∧ ∃ X, RdAt w0 wr W.heap.size X)) (fun iv _ => i0 + 3 - (intOf iv).toNat)
  case atStart => exact ⟨i0, d, (by first | rfl | simp), Nat.le_refl _, by omega, H0⟩
  case round =>
    obtain ⟨i, dk, rfl, hi, hi3, Hs⟩ := hrel
    clear H0
    have hiz : (i : Int) ≤ 1000 := by omega
    by_cases hlast : i = i0 + 3
    · have hle : ¬ (i : Int) ≤ (a : Int) + (q : Int) * 2 + 1 := by have := Hi0.out; omega
      clear hlast
      go_wp2_with fail
      go_end0
      exact ⟨rfl, dk, Hs.out.1, Hs.out.2.1⟩
    have hle : (i : Int) ≤ (a : Int) + (q : Int) * 2 + 1 := by have := Hi0.out; omega
    obtain ⟨X, hX⟩ := Hs.out.2.2
    obtain ⟨Y, hY⟩ : ∃ Y : Nat, Y = xorNextN X := ⟨_, rfl⟩
    have lY : Y < 18446744073709551616 := by rw [hY]; exact xorNextN_lt X hX.lt
    have hN := next_rand _ _ X hX.lt wr hX.c hX.f
    rw [← hY] at hN
    have HS2 : Hid (PermIn a b d dk ∧ SR w0 g off z dk ((wr.setCell ⟨W.heap.size, 0, none⟩ (.int .u64 (Y : Int))).drewN 3) ∧ RdAt w0 ((wr.setCell ⟨W.heap.size, 0, none⟩ (.int .u64 (Y : Int))).drewN 3) W.heap.size Y) :=
      ⟨Hs.out.1, ⟨(Hs.out.2.1.sw.setCell_new _ _ _ hX.hb).drewN 3, Hs.out.2.1.sz⟩, hX.hb, by rw [World.cell?_drewN]; exact World.cell?_setCell_same _ _ _ hX.c, by rw [World.frozen?_drewN, World.frozen?_setCell]; exact hX.f, lY⟩
    generalize (wr.setCell ⟨W.heap.size, 0, none⟩ (.int .u64 (Y : Int))).drewN 3 = w2 at hN HS2
    have HN := Lib.hid hN
    obtain ⟨O, hO⟩ : ∃ O : Nat, O = Y &&& (M - 1) := ⟨_, rfl⟩
    have lO : O ≤ M - 1 := by rw [hO]; exact Nat.and_le_right
    have eAnd : bits .and .u64 (Y : Int) ((M : Int) - 1) = (O : Int) := by
      rw [show ((M : Int) - 1) = ((M - 1 : Nat) : Int) by omega, bits_and_u64_nat _ _ lY (by omega), hO]
    have hOi : (O : Int) ≤ 510 := by omega
    clear hO hY hX hN Hs lY
    by_cases hLO : l ≤ O
    · have hLOz : (l : Int) ≤ (O : Int) := by omega
      go_upto_region 10 with (go_at_call 62; refine HN.out.mono ?_; rintro e w' ⟨rfl, hw'⟩; obtain rfl : w2 = w' := hw'.symm)
      have hot : (O - l) < l := by have := Hi0.out; omega
      obtain ⟨j, hj⟩ : ∃ j, j = a + (O - l) := ⟨_, rfl⟩
      have ej : (a : Int) + ((O : Int) - (l : Int)) = (j : Int) := by omega
      have ej2 : a + (O - l) = j := hj.symm
      have hjz : j < z := by have := Hbl.out; omega
      have hji : (j : Int) < (z : Int) := by omega
      have hio : i < b := by have := Hbl.out; have := Hi0.out; omega
      have hilz : i < z := by have := Hbl.out; omega
      have hii : (i : Int) < (z : Int) := by omega
      have hjb : a ≤ j ∧ j < b := by have := Hbl.out; omega
      have p0 := HS2.out.2.1.cell Rh.out Hz.out (i := i) (by omega)
      have p1 := HS2.out.2.1.cell Rh.out Hz.out (i := j) (by omega)
      have f0 := HS2.out.2.1.frozen Rh.out Hz.out (i := i) (by omega)
      have f1 := HS2.out.2.1.frozen Rh.out Hz.out (i := j) (by omega)
      have hsw := HS2.out.2.1.swap Rh.out (i := i) (j := j) (by omega) (by omega)
      obtain ⟨u, p2⟩ := HS2.out.2.1.second Rh.out Hz.out (i := i) (j := j) (by omega) (by omega) (.int .u64 dk[j]!)
      obtain ⟨dn, hdn⟩ : ∃ dn, dn = swp dk (i) (j) := ⟨_, rfl⟩
      rw [← hdn] at hsw
      have hperm : PermIn a b d dn := by rw [hdn]; exact permIn_trans _ _ _ _ _ HS2.out.1 (swp_permIn dk a b i j (by omega) hio hjb.1 hjb.2 (by rw [HS2.out.2.1.sz]; exact Hbl.out.2))
      obtain ⟨x, hx⟩ : ∃ x, x = dk[i]! := ⟨_, rfl⟩
      obtain ⟨y, hy⟩ : ∃ y, y = dk[j]! := ⟨_, rfl⟩
      rw [← hx] at p0 hsw
      rw [← hy] at p1 hsw p2
      have Hsw := Lib.hid (And.intro hperm hsw)
      have HR2 := Lib.hid HS2.out.2.2
      clear hsw hx hy hdn HS2 hj hperm hio hjb
      go_wp2_with fail
      go_big_region_o
      clear p0 p1 f0 f1 p2
      have k1 := box_kept_swap1 (W := w2) (blk := g) hne HR2.out.c HR2.out.f (off + (i)) (off + (j)) (.int .u64 y) (.int .u64 x)
      have HR3 : Hid (RdAt w0 (((w2.setCell ⟨g, off + (i), none⟩ (.int .u64 y)).setCell ⟨g, off + (j), none⟩ (.int .u64 x)).drew) W.heap.size Y) := ⟨HR2.out.hb, k1.1, k1.2, HR2.out.lt⟩
      clear k1 HR2
      generalize ((w2.setCell ⟨g, off + (i), none⟩ (.int .u64 y)).setCell ⟨g, off + (j), none⟩ (.int .u64 x)).drew = w4 at Hsw HR3 ⊢
      go_wp2_with fail
      go_roundw
      case rel => exact ⟨i + 1, dn, (by first | rfl | simp), by omega, by have := Hi0.out; omega, Lib.hid ⟨Hsw.out.1, Hsw.out.2, Y, HR3.out⟩⟩
      case measure => simp [intOf] <;> omega
    · have hLOz : ¬ (l : Int) ≤ (O : Int) := by omega
      go_upto_region 10 with (go_at_call 62; refine HN.out.mono ?_; rintro e w' ⟨rfl, hw'⟩; obtain rfl : w2 = w' := hw'.symm)
      have hot : O < l := by have := Hi0.out; omega
      obtain ⟨j, hj⟩ : ∃ j, j = a + O := ⟨_, rfl⟩
      have ej : (a : Int) + (O : Int) = (j : Int) := by omega
      have ej2 : a + O = j := hj.symm
      have hjz : j < z := by have := Hbl.out; omega
      have hji : (j : Int) < (z : Int) := by omega
      have hio : i < b := by have := Hbl.out; have := Hi0.out; omega
      have hilz : i < z := by have := Hbl.out; omega
      have hii : (i : Int) < (z : Int) := by omega
      have hjb : a ≤ j ∧ j < b := by have := Hbl.out; omega
      have p0 := HS2.out.2.1.cell Rh.out Hz.out (i := i) (by omega)
      have p1 := HS2.out.2.1.cell Rh.out Hz.out (i := j) (by omega)
      have f0 := HS2.out.2.1.frozen Rh.out Hz.out (i := i) (by omega)
      have f1 := HS2.out.2.1.frozen Rh.out Hz.out (i := j) (by omega)
      have hsw := HS2.out.2.1.swap Rh.out (i := i) (j := j) (by omega) (by omega)
      obtain ⟨u, p2⟩ := HS2.out.2.1.second Rh.out Hz.out (i := i) (j := j) (by omega) (by omega) (.int .u64 dk[j]!)
      obtain ⟨dn, hdn⟩ : ∃ dn, dn = swp dk (i) (j) := ⟨_, rfl⟩
      rw [← hdn] at hsw
      have hperm : PermIn a b d dn := by rw [hdn]; exact permIn_trans _ _ _ _ _ HS2.out.1 (swp_permIn dk a b i j (by omega) hio hjb.1 hjb.2 (by rw [HS2.out.2.1.sz]; exact Hbl.out.2))
      obtain ⟨x, hx⟩ : ∃ x, x = dk[i]! := ⟨_, rfl⟩
      obtain ⟨y, hy⟩ : ∃ y, y = dk[j]! := ⟨_, rfl⟩
      rw [← hx] at p0 hsw
      rw [← hy] at p1 hsw p2
      have Hsw := Lib.hid (And.intro hperm hsw)
      have HR2 := Lib.hid HS2.out.2.2
      clear hsw hx hy hdn HS2 hj hperm hio hjb
      go_wp2_with fail
      go_big_region_o
      clear p0 p1 f0 f1 p2
      have k1 := box_kept_swap1 (W := w2) (blk := g) hne HR2.out.c HR2.out.f (off + (i)) (off + (j)) (.int .u64 y) (.int .u64 x)
      have HR3 : Hid (RdAt w0 (((w2.setCell ⟨g, off + (i), none⟩ (.int .u64 y)).setCell ⟨g, off + (j), none⟩ (.int .u64 x)).drew) W.heap.size Y) := ⟨HR2.out.hb, k1.1, k1.2, HR2.out.lt⟩
      clear k1 HR2
      generalize ((w2.setCell ⟨g, off + (i), none⟩ (.int .u64 y)).setCell ⟨g, off + (j), none⟩ (.int .u64 x)).drew = w4 at Hsw HR3 ⊢
      go_wp2_with fail
      go_roundw
      case rel => exact ⟨i + 1, dn, (by first | rfl | simp), by omega, by have := Hi0.out; omega, Lib.hid ⟨Hsw.out.1, Hsw.out.2, Y, HR3.out⟩⟩
      case measure => simp [intOf] <;> omega
end
end Go.Proofs.Ytejimgjonhaocaa
