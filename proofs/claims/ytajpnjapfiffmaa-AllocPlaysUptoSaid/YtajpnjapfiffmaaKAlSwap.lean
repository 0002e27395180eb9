/-
  slices' swapRangeCmpFunc at ints: two stretches of one length change places.
-/
import Derived.Test.YtajpnjapfiffmaaKAlRead
import Derived.Shelf.SlSortCmp.Kit1
import Derived.Deep.LoopGhost
namespace Go.Proofs.Ytajpnjapfiffmaa
open Go.RowKit Go.Maps Go.Shelf Go.Lib Go.Sort

abbrev eI : Int → Value := Value.int .i64
theorem eI_one : OneCell eI := fun _ => rfl
theorem get_at (pre post : List Int) (x : Int) : (pre ++ x :: post).toArray[pre.length]! = x := by
  rw [getElem!_pos _ _ (by simp)]
  simp
theorem swp_list (pre mid post : List Int) (x y : Int) : swp (pre ++ x :: (mid ++ y :: post)).toArray pre.length (pre.length + 1 + mid.length) = (pre ++ y :: (mid ++ x :: post)).toArray := by
  have h1 : (pre ++ x :: (mid ++ y :: post)).toArray[pre.length]! = x := get_at _ _ _
  have h2 : (pre ++ x :: (mid ++ y :: post)).toArray[pre.length + 1 + mid.length]! = y := by
    have := get_at (pre ++ x :: mid) post y
    rw [List.append_assoc, List.cons_append, List.length_append, List.length_cons, ← Nat.add_assoc, Nat.add_right_comm] at this
    exact this
  unfold swp
  rw [h1, h2]
  apply Array.ext'
  simp only [List.setIfInBounds_toArray]
  rw [List.set_append_right _ _ (Nat.le_refl _), Nat.sub_self, List.set_cons_zero, List.set_append_right _ _ (by omega), show pre.length + 1 + mid.length - pre.length = mid.length + 1 by omega, List.set_cons_succ, List.set_append_right _ _ (Nat.le_refl _), Nat.sub_self, List.set_cons_zero]

section
set_option maxRecDepth 100000
set_option maxHeartbeats 4000000
theorem swapRange_any (w0 W : World) (blk off cap a b n z : Nat) (d0 : Array Int) (R : Row1 eI w0 blk off d0) (pre X mid Y post : List Int) (fv : Value) (ha : a = pre.length) (hn : n = X.length) (hb : b = pre.length + X.length + mid.length) (hz : z = d0.size) (hXY : Y.length = X.length) (hs : (pre ++ X ++ mid ++ Y ++ post).length = d0.size) (hsz : d0.size ≤ 1000000)
    (S : SW eI w0 blk off (pre ++ X ++ mid ++ Y ++ post).toArray W) :
    Calls Try.prog 92 #[.slice (some ⟨blk, off, none⟩) z cap, .int .i64 (a : Int), .int .i64 (b : Int), .int .i64 (n : Int), fv] W fun e w' => e = .returned (.tuple #[]) ∧ SW eI w0 blk off (pre ++ Y ++ mid ++ X ++ post).toArray w' := by
  have mixed : Try.prog.follows Departure.mixedOrders = true := by kernel_rfl
  have S0 : Hid (SW eI w0 blk off (pre ++ X ++ mid ++ Y ++ post).toArray W) := S
  have Rh := Lib.hid R
  have Hs := Lib.hid hs
  have HXY := Lib.hid hXY
  have hbz : b + n ≤ z := by rw [hz, ← hs, hb, hn]; simp; omega
  have haz : a + n ≤ b := by omega
  have hz1 : (z : Int) ≤ 1000000 := by omega
  have Ha := Lib.hid ha
  have Hn := Lib.hid hn
  have Hb := Lib.hid hb
  have Hz := Lib.hid hz
  clear S R hs hXY ha hn hb hz hsz
  go_enter Try.func92, Try.ntmps92
  go_wp2_with fail
  go_loopw [10] (fun iv wr => ∃ (i : Nat) (X1 X2 Y1 Y2 : List Int), iv = .int .i64 (i : Int) ∧ i ≤ n ∧ Hid (X = X1 ++ X2 ∧ Y = Y1 ++ Y2 ∧ X1.length = i ∧ Y1.length = i) ∧ Hid (SW eI w0 blk off (pre ++ Y1 ++ X2 ++ mid ++ X1 ++ Y2 ++ post).toArray wr)) (fun iv _ => n - (intOf iv).toNat)
  case atStart => exact ⟨0, [], X, [], Y, rfl, Nat.zero_le _, ⟨rfl, rfl, rfl, rfl⟩, (show SW _ _ _ _ _ _ from by simpa using S0.out)⟩
  case round =>
    obtain ⟨i, X1, X2, Y1, Y2, rfl, hi, hl, hS⟩ := hrel
    by_cases hlt : i < n
    · have hlt' : (i : Int) < (n : Int) := by omega
      obtain ⟨x, X3, rfl⟩ : ∃ x X3, X2 = x :: X3 := by
        cases X2 with
        | nil => have h1 := hl.out.1; have h2 := Hn.out; have h3 := hl.out.2.2.1; rw [h1] at h2; simp at h2; omega
        | cons x X3 => exact ⟨x, X3, rfl⟩
      obtain ⟨y, Y3, rfl⟩ : ∃ y Y3, Y2 = y :: Y3 := by
        cases Y2 with
        | nil => have h1 := hl.out.2.1; have h2 := Hn.out; have h3 := hl.out.2.2.2; have h4 := HXY.out; rw [h1] at h4; simp at h4; omega
        | cons y Y3 => exact ⟨y, Y3, rfl⟩
      obtain ⟨L, hL⟩ : ∃ L, L = pre ++ Y1 ++ x :: X3 ++ mid ++ X1 ++ y :: Y3 ++ post := ⟨_, rfl⟩
      have hlen : L.toArray.size = d0.size := by
        have := Hs.out; have h1 := hl.out
        rw [hL, ← this, h1.1, h1.2.1]; simp; omega
      have hLa : L = (pre ++ Y1) ++ x :: ((X3 ++ mid ++ X1) ++ y :: (Y3 ++ post)) := by rw [hL]; simp
      have hp1 : (pre ++ Y1).length = a + i := by simp [hl.out.2.2.2, Ha.out]
      have hp2 : (pre ++ Y1).length + 1 + (X3 ++ mid ++ X1).length = b + i := by
        have h1 := hl.out.1
        have h2 := Hb.out
        have h3 := hl.out.2.2.1
        rw [hp1, h2, Ha.out, h1]; simp; omega
      have hx : L.toArray[a + i]! = x := by rw [hLa, ← hp1]; exact get_at _ _ _
      have hy : L.toArray[b + i]! = y := by
        have := get_at ((pre ++ Y1) ++ x :: (X3 ++ mid ++ X1)) (Y3 ++ post) y
        rw [hLa, ← hp2]
        simpa [Nat.add_assoc, Nat.add_comm 1] using this
      have hSL : SW eI w0 blk off L.toArray wr := hL ▸ hS.out
      obtain ⟨iN, hiN⟩ : ∃ q, q = a + i := ⟨_, rfl⟩
      obtain ⟨jN, hjN⟩ : ∃ q, q = b + i := ⟨_, rfl⟩
      have hiL : iN < L.toArray.size := by rw [hlen, ← Hz.out]; omega
      have hjL : jN < L.toArray.size := by rw [hlen, ← Hz.out]; omega
      rw [← hiN] at hx
      rw [← hjN] at hy
      have S3 : Hid (SW eI w0 blk off (pre ++ (Y1 ++ [y]) ++ X3 ++ mid ++ (X1 ++ [x]) ++ Y3 ++ post).toArray ((wr.setCell ⟨blk, off + iN, none⟩ (eI y)).setCell ⟨blk, off + jN, none⟩ (eI x)).drew) := by
        have h := hSL.swapped Rh.out iN jN hiL hjL
        rw [hx, hy] at h
        have e : swp L.toArray iN jN = (pre ++ (Y1 ++ [y]) ++ X3 ++ mid ++ (X1 ++ [x]) ++ Y3 ++ post).toArray := by
          rw [hiN, hjN, ← hp1, ← hp2, hLa, swp_list]
          simp
        rw [e] at h
        exact h
      have ca := hSL.c1 Rh.out hlen iN hiL
      have cb := hSL.c1 Rh.out hlen jN hjL
      have fa := hSL.f1 Rh.out hlen iN hiL
      have fb := hSL.f1 Rh.out hlen jN hjL
      obtain ⟨u, cc⟩ := hSL.c2 Rh.out hlen iN jN hiL hjL (eI y)
      rw [hx] at ca
      rw [hy] at cb
      have ea : ((a : Int) + (i : Int)).toNat = iN := by omega
      have ra : IntKind.i64.wrap ((a : Int) + (i : Int)) = (a : Int) + (i : Int) := by rw [IntKind.wrap_i64]; omega
      have pa : (0 : Int) ≤ (a : Int) + (i : Int) := by omega
      have ba : (a : Int) + (i : Int) < (z : Int) := by omega
      have ec : ((b : Int) + (i : Int)).toNat = jN := by omega
      have rc : IntKind.i64.wrap ((b : Int) + (i : Int)) = (b : Int) + (i : Int) := by rw [IntKind.wrap_i64]; omega
      have pc : (0 : Int) ≤ (b : Int) + (i : Int) := by omega
      have bc : (b : Int) + (i : Int) < (z : Int) := by omega
      have Hnx : Hid (X = (X1 ++ [x]) ++ X3 ∧ Y = (Y1 ++ [y]) ++ Y3 ∧ (X1 ++ [x]).length = i + 1 ∧ (Y1 ++ [y]).length = i + 1) := by
        have h := hl.out
        exact ⟨by rw [h.1]; simp, by rw [h.2.1]; simp, by simp [h.2.2.1], by simp [h.2.2.2]⟩
      clear hl hS hSL hlen hLa hp1 hp2 hx hy hiN hjN hiL hjL hL
      go_wp2_with fail
      go_big_region_o
      clear ca cb cc fa fb
      generalize ((wr.setCell ⟨blk, off + iN, none⟩ (eI y)).setCell ⟨blk, off + jN, none⟩ (eI x)).drew = w3 at S3 ⊢
      clear ea ec ra rc pa pc ba bc
      go_wp2_with fail
      go_roundw
      case rel => exact ⟨i + 1, _, _, _, _, by go_num, by omega, Hnx.out, S3.out⟩
      case measure => simp [intOf]; omega
    · obtain rfl : i = n := by omega
      have Hfin : Hid (SW eI w0 blk off (pre ++ Y ++ mid ++ X ++ post).toArray wr) := by
        have h := hl.out
        have e1 : X2 = [] := by
          have h2 := Hn.out; rw [h.1] at h2; simp at h2
          exact List.length_eq_zero_iff.1 (by omega)
        have e2 : Y2 = [] := by
          have h2 := Hn.out; have h4 := HXY.out; rw [h.2.1, ← h2] at h4; simp at h4
          exact List.length_eq_zero_iff.1 (by omega)
        have hh := hS.out
        rw [e1, e2] at hh
        rw [h.1, h.2.1, e1, e2]
        exact (show SW _ _ _ _ _ _ from by simpa using hh)
      clear hl hS hlt
      go_wp2_with fail
      go_end0
      exact ⟨rfl, Hfin.out⟩
end
end Go.Proofs.Ytajpnjapfiffmaa

/-
  slices' rotateCmpFunc at ints: two stretches side by side change places.
-/
namespace Go.Proofs.Ytajpnjapfiffmaa
open Go.RowKit Go.Maps Go.Shelf Go.Lib Go.Sort

section
set_option maxRecDepth 100000
set_option maxHeartbeats 4000000
theorem rotate_any (w0 W : World) (blk off cap a m b z : Nat) (d0 : Array Int) (R : Row1 eI w0 blk off d0) (pre X Y post : List Int) (fv : Value) (ha : a = pre.length) (hm : m = a + X.length) (hb : b = m + Y.length) (hz : z = d0.size) (hX : 0 < X.length) (hY : 0 < Y.length) (hs : (pre ++ X ++ Y ++ post).length = d0.size) (hsz : d0.size ≤ 1000000)
    (S : SW eI w0 blk off (pre ++ X ++ Y ++ post).toArray W) :
    Calls Try.prog 89 #[.slice (some ⟨blk, off, none⟩) z cap, .int .i64 (a : Int), .int .i64 (m : Int), .int .i64 (b : Int), fv] W fun e w' => e = .returned (.tuple #[]) ∧ SW eI w0 blk off (pre ++ Y ++ X ++ post).toArray w' := by
  have mixed : Try.prog.follows Departure.mixedOrders = true := by kernel_rfl
  have hz1 : (z : Int) ≤ 1000000 := by omega
  have hbz : b ≤ z := by rw [hz, ← hs]; simp; omega
  have Hsw : Hid (∀ (W' : World) (x y n : Nat) (p P m' Q q : List Int), x = p.length → n = P.length → y = p.length + P.length + m'.length → Q.length = P.length → (p ++ P ++ m' ++ Q ++ q).length = d0.size → SW eI w0 blk off (p ++ P ++ m' ++ Q ++ q).toArray W' →
      Calls Try.prog 92 #[.slice (some ⟨blk, off, none⟩) z cap, .int .i64 (x : Int), .int .i64 (y : Int), .int .i64 (n : Int), fv] W' fun e w' => e = .returned (.tuple #[]) ∧ SW eI w0 blk off (p ++ Q ++ m' ++ P ++ q).toArray w') :=
    fun W' x y n p P m' Q q h1 h2 h3 h4 h5 h6 => swapRange_any w0 W' blk off cap x y n z d0 R p P m' Q q fv h1 h2 h3 hz h4 h5 hsz h6
  have Hst : Hid (∃ p P Q q : List Int, P.length = X.length ∧ Q.length = Y.length ∧ p.length + X.length = m ∧ p ++ Q ++ P ++ q = pre ++ Y ++ X ++ post ∧ SW eI w0 blk off (p ++ P ++ Q ++ q).toArray W) := ⟨pre, X, Y, post, rfl, rfl, by omega, rfl, S⟩
  have Hlen := Lib.hid hs
  obtain ⟨i0, hi0⟩ : ∃ i0, i0 = X.length := ⟨_, rfl⟩
  obtain ⟨j0, hj0⟩ : ∃ j0, j0 = Y.length := ⟨_, rfl⟩
  rw [← hi0] at hm hX
  rw [← hj0] at hb hY
  rw [← hi0, ← hj0] at Hst
  have w1 : (m : Int) - (a : Int) = (i0 : Int) := by omega
  have w2 : (b : Int) - (m : Int) = (j0 : Int) := by omega
  have hia : i0 ≤ m := by omega
  have hjb : m + j0 ≤ z := by omega
  clear hi0 hj0 ha hm hb hz hs hsz S R hbz
  go_enter Try.func89, Try.ntmps89
  go_wp2_with fail
  go_loopw [10, 11] (fun iv jv wr => ∃ (i j : Nat), iv = .int .i64 (i : Int) ∧ jv = .int .i64 (j : Int) ∧ 0 < i ∧ 0 < j ∧ i ≤ m ∧ m + j ≤ z ∧ Hid (∃ p P Q q : List Int, P.length = i ∧ Q.length = j ∧ p.length + i = m ∧ p ++ Q ++ P ++ q = pre ++ Y ++ X ++ post ∧ SW eI w0 blk off (p ++ P ++ Q ++ q).toArray wr)) (fun iv jv _ => (intOf iv).toNat + (intOf jv).toNat)
  case atStart => exact ⟨i0, j0, by first | rfl | rw [w1], by first | rfl | rw [w2], hX, hY, hia, hjb, Hst.out⟩
  case round =>
    clear w1 w2 hia hjb hX hY Hst
    obtain ⟨i, j, rfl, rfl, hi, hj, him, hjz, hS⟩ := hrel
    have hi1 : (i : Int) ≤ (m : Int) := by omega
    have hm1 : (m : Int) + (j : Int) ≤ (z : Int) := by omega
    by_cases heq : i = j
    · subst heq
      have Hc : Hid (∀ x : Nat, x + i = m → Calls Try.prog 92 #[.slice (some ⟨blk, off, none⟩) z cap, .int .i64 (x : Int), .int .i64 (m : Int), .int .i64 (i : Int), fv] wr fun e w' => e = .returned (.tuple #[]) ∧ SW eI w0 blk off (pre ++ Y ++ X ++ post).toArray w') := by
        intro x hx
        obtain ⟨p, P, Q, q, h1, h2, h3, h4, h5⟩ := hS.out
        have hl : (p ++ P ++ [] ++ Q ++ q).length = d0.size := by
          rw [← Hlen.out]
          have := congrArg List.length h4
          simp at this ⊢
          omega
        have h := Hsw.out wr x m i p P [] Q q (by omega) h1.symm (by rw [h1]; simp; omega) (by omega) hl (by simpa using h5)
        rw [show p ++ Q ++ [] ++ P ++ q = pre ++ Y ++ X ++ post from by rw [← h4]; simp] at h
        exact h
      obtain ⟨x, hx⟩ : ∃ x, x + i = m := ⟨m - i, by omega⟩
      have Hc2 := Lib.hid (Hc.out x hx)
      have e1 : (m : Int) - (i : Int) = (x : Int) := by omega
      have hx2 : (x : Int) ≤ 1000000 := by omega
      clear Hc hS Hsw
      go_wp2_with fail
      refine Hc2.out.mono ?_
      rintro e w3 ⟨rfl, hfin⟩
      have Hf := Lib.hid hfin
      clear hfin Hc2
      go_wp2_with fail
      go_end0
      exact ⟨rfl, Hf.out⟩
    · have hne : ¬ (i : Int) = (j : Int) := by omega
      by_cases hgt : j < i
      · have hgt' : (j : Int) < (i : Int) := by omega
        obtain ⟨x, hx⟩ : ∃ x, x + i = m := ⟨m - i, by omega⟩
        have Hc : Hid (Calls Try.prog 92 #[.slice (some ⟨blk, off, none⟩) z cap, .int .i64 (x : Int), .int .i64 (m : Int), .int .i64 (j : Int), fv] wr fun e w' => e = .returned (.tuple #[]) ∧ Hid (∃ p P Q q : List Int, P.length = i - j ∧ Q.length = j ∧ p.length + (i - j) = m ∧ p ++ Q ++ P ++ q = pre ++ Y ++ X ++ post ∧ SW eI w0 blk off (p ++ P ++ Q ++ q).toArray w')) := by
          obtain ⟨p, P, Q, q, h1, h2, h3, h4, h5⟩ := hS.out
          have hP : P = P.take j ++ P.drop j := (List.take_append_drop j P).symm
          have hl : (p ++ P.take j ++ P.drop j ++ Q ++ q).length = d0.size := by
            rw [← Hlen.out]
            have := congrArg List.length h4
            simp at this ⊢
            omega
          have h := Hsw.out wr x m j p (P.take j) (P.drop j) Q q (by omega) (by simp; omega) (by simp; omega) (by simp; omega) hl (by rw [List.append_assoc p, ← hP]; exact h5)
          refine h.mono ?_
          rintro e w3 ⟨rfl, h6⟩
          refine ⟨rfl, p ++ Q, P.drop j, P.take j, q, by simp; omega, by simp; omega, by simp; omega, ?_, h6⟩
          rw [← h4]
          simp
        have e1 : (m : Int) - (i : Int) = (x : Int) := by omega
        have e2 : (i : Int) - (j : Int) = ((i - j : Nat) : Int) := by omega
        have hx2 : (x : Int) ≤ 1000000 := by omega
        have hd : 0 < i - j ∧ i - j ≤ m ∧ i - j + j < i + j := by omega
        generalize i - j = k at *
        have hk2 : (k : Int) ≤ 1000000 := by omega
        clear hS Hsw
        go_wp2_with fail
        refine Hc.out.mono ?_
        rintro e w3 ⟨rfl, H3⟩
        clear Hc
        go_wp2_with fail
        go_roundw
        case rel => exact ⟨k, j, by go_num, by go_num, hd.1, hj, hd.2.1, hjz, H3.out⟩
        case measure => simp [intOf]; omega
      · have hgt' : ¬ (j : Int) < (i : Int) := by omega
        obtain ⟨x, hx⟩ : ∃ x, x + i = m := ⟨m - i, by omega⟩
        obtain ⟨y, hy⟩ : ∃ y, y = m + j - i := ⟨_, rfl⟩
        have Hc : Hid (Calls Try.prog 92 #[.slice (some ⟨blk, off, none⟩) z cap, .int .i64 (x : Int), .int .i64 (y : Int), .int .i64 (i : Int), fv] wr fun e w' => e = .returned (.tuple #[]) ∧ Hid (∃ p P Q q : List Int, P.length = i ∧ Q.length = j - i ∧ p.length + i = m ∧ p ++ Q ++ P ++ q = pre ++ Y ++ X ++ post ∧ SW eI w0 blk off (p ++ P ++ Q ++ q).toArray w')) := by
          obtain ⟨p, P, Q, q, h1, h2, h3, h4, h5⟩ := hS.out
          have hQ : Q = Q.take (j - i) ++ Q.drop (j - i) := (List.take_append_drop _ Q).symm
          have hl : (p ++ P ++ Q.take (j - i) ++ Q.drop (j - i) ++ q).length = d0.size := by
            rw [← Hlen.out]
            have := congrArg List.length h4
            simp at this ⊢
            omega
          have h := Hsw.out wr x y i p P (Q.take (j - i)) (Q.drop (j - i)) q (by omega) h1.symm (by simp; omega) (by simp; omega) hl (by rw [List.append_assoc (p ++ P), ← hQ]; exact h5)
          refine h.mono ?_
          rintro e w3 ⟨rfl, h6⟩
          refine ⟨rfl, p, Q.drop (j - i), Q.take (j - i), P ++ q, by simp; omega, by simp; omega, by omega, ?_, ?_⟩
          · rw [← h4, List.append_assoc p, List.take_append_drop]
            simp
          · have e : p ++ Q.drop (j - i) ++ Q.take (j - i) ++ P ++ q = p ++ Q.drop (j - i) ++ Q.take (j - i) ++ (P ++ q) := by simp
            rw [← e]; exact h6
        have e1 : (m : Int) - (i : Int) = (x : Int) := by omega
        have e2 : (m : Int) + (j : Int) - (i : Int) = (y : Int) := by omega
        have e3 : (j : Int) - (i : Int) = ((j - i : Nat) : Int) := by omega
        have hx2 : (x : Int) ≤ 1000000 := by omega
        have hy2 : (y : Int) ≤ 1000000 := by omega
        have hd : 0 < j - i ∧ m + (j - i) ≤ z ∧ i + (j - i) < i + j := by omega
        generalize j - i = k at *
        have hk2 : (k : Int) ≤ 1000000 := by omega
        clear hS Hsw hy
        go_wp2_with fail
        refine Hc.out.mono ?_
        rintro e w3 ⟨rfl, H3⟩
        clear Hc
        go_wp2_with fail
        go_roundw
        case rel => exact ⟨i, k, by go_num, by go_num, hi, hd.1, him, hd.2.1, H3.out⟩
        case measure => simp [intOf]; omega
end
end Go.Proofs.Ytajpnjapfiffmaa

/-
  Plain: an order of numbers by what each of them has, the most first, then by themselves; two ascending stretches, one behind the other.
-/
namespace Go.Proofs.Ytajpnjapfiffmaa
open Go.RowKit Go.Maps Go.Shelf Go.Lib Go.Sort

def cmpI (a b : Int) : Int := if a < b then -1 else if b < a then 1 else 0
theorem cmpI_neg {a b : Int} : cmpI a b < 0 ↔ a < b := by unfold cmpI; (repeat' split) <;> omega
/-- x comes ahead of y -/
def ltF (F : Int → Nat) (x y : Int) : Prop := F y < F x ∨ (F x = F y ∧ x < y)
def cfF (F : Int → Nat) (x y : Int) : Int := cmpI (F y) (F x)
section
variable {F : Int → Nat}
theorem ltF.trans {x y z : Int} (h1 : ltF F x y) (h2 : ltF F y z) : ltF F x z := by unfold ltF at *; omega
theorem ltF.irr {x : Int} (h : ltF F x x) : False := by unfold ltF at h; omega
theorem cf_neg {x y : Int} (h : x < y) : cfF F y x < 0 ↔ ltF F y x := by unfold cfF; rw [cmpI_neg]; unfold ltF; omega
theorem cf_not {x y : Int} (h : x < y) : ¬ cfF F y x < 0 ↔ ltF F x y := by unfold cfF; rw [cmpI_neg]; unfold ltF; omega
/-- ascending -/
abbrev Asc (F : Int → Nat) (l : List Int) : Prop := l.Pairwise (ltF F)
theorem Asc.at {l : List Int} (h : Asc F l) {i j : Nat} (hj : j < l.length) (hij : i < j) : ltF F (l[i]'(by omega)) l[j] := List.pairwise_iff_getElem.1 h i j (by omega) hj hij
theorem get_mid (p l q : List Int) (k : Nat) (hk : k < l.length) : (p ++ l ++ q).toArray[p.length + k]! = l[k] := by
  rw [getElem!_pos _ _ (by simp; omega)]
  simp [List.getElem_append_left, hk]
theorem swp_adj (p q : List Int) (x y : Int) : swp (p ++ x :: y :: q).toArray p.length (p.length + 1) = (p ++ y :: x :: q).toArray := swp_list p [] q x y
theorem swp_adj' (p q : List Int) (x y : Int) : swp (p ++ x :: y :: q).toArray (p.length + 1) p.length = (p ++ y :: x :: q).toArray := by
  have h1 : (p ++ x :: y :: q).toArray[p.length]! = x := get_at _ _ _
  have h2 : (p ++ x :: y :: q).toArray[p.length + 1]! = y := by
    have := get_at (p ++ [x]) q y
    rw [List.append_assoc, List.length_append, List.length_singleton] at this
    exact this
  unfold swp
  rw [h1, h2]
  apply Array.ext'
  simp only [List.setIfInBounds_toArray]
  rw [List.set_append_right _ _ (by omega), show p.length + 1 - p.length = 1 by omega, List.set_cons_succ, List.set_cons_zero, List.set_append_right _ _ (Nat.le_refl _), Nat.sub_self, List.set_cons_zero]
/-- a stretch is parted at u -/
theorem part_left {R : List Int} {x : Int} {u : Nat} (hR : Asc F R) (h1 : ∀ k (hk : k < R.length), k < u → ltF F R[k] x) (h2 : ∀ k (hk : k < R.length), u ≤ k → ltF F x R[k]) : Asc F (R.take u ++ x :: R.drop u) := by
  refine List.pairwise_append.2 ⟨hR.sublist (List.take_sublist _ _), List.pairwise_cons.2 ⟨fun y hy => ?_, hR.sublist (List.drop_sublist _ _)⟩, fun y hy z hz => ?_⟩
  · obtain ⟨k, hk, rfl⟩ := List.getElem_of_mem hy
    rw [List.getElem_drop]
    exact h2 _ _ (by omega)
  · obtain ⟨k, hk, rfl⟩ := List.getElem_of_mem hy
    have hk' : k < R.length ∧ k < u := by simp at hk; omega
    rw [List.getElem_take]
    have h3 := h1 k hk'.1 hk'.2
    rcases List.mem_cons.1 hz with rfl | hz
    · exact h3
    · obtain ⟨j, hj, rfl⟩ := List.getElem_of_mem hz
      rw [List.getElem_drop]
      exact h3.trans (h2 _ _ (by omega))
end
end Go.Proofs.Ytajpnjapfiffmaa

/-
  slices' symMergeCmpFunc at ints where one of the two stretches has one element.
-/
namespace Go.Proofs.Ytajpnjapfiffmaa
open Go.RowKit Go.Maps Go.Shelf Go.Lib Go.Sort

section
set_option maxRecDepth 100000
set_option maxHeartbeats 8000000
variable {F : Int → Nat}
theorem symL_any (w0 W : World) (blk off cap a b z g : Nat) (cb : Array Value) (d0 : Array Int) (R0 : Row1 eI w0 blk off d0) (pre R post : List Int) (x : Int) (ha : a = pre.length) (hb : b = a + 1 + R.length) (hz : z = d0.size) (hs : (pre ++ [x] ++ R ++ post).length = d0.size) (hsz : d0.size ≤ 1000000)
    (eg : ∀ args w, (callFunc g args).run Try.prog w = .ok (.enter g args) w) (hcmp : CmpLays1 Try.prog g cb eI (cfF F) blk off d0.size w0)
    (hR : Asc F R) (hx : ∀ r ∈ R, x < r) (S : SW eI w0 blk off (pre ++ [x] ++ R ++ post).toArray W) :
    Calls Try.prog 80 #[.slice (some ⟨blk, off, none⟩) z cap, .int .i64 (a : Int), .int .i64 ((a + 1 : Nat) : Int), .int .i64 (b : Int), .func (.func g) #[] cb] W fun e w' => e = .returned (.tuple #[]) ∧ ∃ M, M.Perm ([x] ++ R) ∧ Asc F M ∧ SW eI w0 blk off (pre ++ M ++ post).toArray w' := by
  have mixed : Try.prog.follows Departure.mixedOrders = true := by kernel_rfl
  have hz1 : (z : Int) ≤ 1000000 := by omega
  have hbz : b ≤ z := by rw [hz, ← hs]; simp; omega
  have HC := Lib.hid hcmp
  have HR := Lib.hid hR
  have Hx := Lib.hid hx
  have Rh := Lib.hid R0
  have Hlen : Hid ((pre ++ [x] ++ R ++ post).toArray.size = d0.size) := (show _ = _ from by simpa using hs)
  have S0 : Hid (SW eI w0 blk off (pre ++ [x] ++ R ++ post).toArray W) := S
  obtain ⟨m, hm⟩ : ∃ m, m = a + 1 := ⟨_, rfl⟩
  rw [← hm]
  have w1 : (m : Int) - (a : Int) = 1 := by omega
  have Ha := Lib.hid ha
  have Hz := Lib.hid hz
  have hbm : b = m + R.length := by omega
  have Hbm := Lib.hid hbm
  have hmb : m ≤ b := by omega
  have hm0 : 1 ≤ m := by omega
  have Hm := Lib.hid hm
  clear S R0 hcmp hR hx hs hsz ha hb hz hbm hm
  go_enter Try.func80, Try.ntmps80
  go_wp2_with fail
  go_loopw [10, 11] (fun iv jv wr => ∃ (i j : Nat), iv = .int .i64 (i : Int) ∧ jv = .int .i64 (j : Int) ∧ m ≤ i ∧ i ≤ j ∧ j ≤ b ∧ Hid (∀ k (hk : k < R.length), m + k < i → ltF F R[k] x) ∧ Hid (∀ k (hk : k < R.length), j ≤ m + k → ltF F x R[k]) ∧ Hid (SW eI w0 blk off (pre ++ [x] ++ R ++ post).toArray wr)) (fun iv jv _ => (intOf jv).toNat - (intOf iv).toNat)
  case atStart => exact ⟨m, b, rfl, rfl, Nat.le_refl _, hmb, Nat.le_refl _, (show ∀ k (hk : k < R.length), m + k < m → ltF F R[k] x from fun k hk h => by omega), (show ∀ k (hk : k < R.length), b ≤ m + k → ltF F x R[k] from fun k hk h => by have := Hbm.out; omega), S0.out⟩
  case round =>
    obtain ⟨i, j, rfl, rfl, hmi, hij, hjb, h1, h2, hS⟩ := hrel
    by_cases hlt : i < j
    · have hlt' : (i : Int) < (j : Int) := by omega
      have hj' : (j : Int) ≤ 1000000 := by omega
      obtain ⟨h, hh⟩ : ∃ h, h = (i + j) / 2 := ⟨_, rfl⟩
      have eh : ((i : Int) + (j : Int)) / 2 = (h : Int) := by omega
      have hi2 : i ≤ h := by omega
      have hj2 : h < j := by omega
      have hhz : (h : Int) < (z : Int) := by omega
      have haz : (a : Int) < (z : Int) := by have := Hm.out; omega
      have hk : h - m < R.length := by have := Hbm.out; omega
      have hv : (pre ++ [x] ++ R ++ post).toArray[h]! = R[h - m] := by
        have := get_mid (pre ++ [x]) R post (h - m) hk
        rw [show (pre ++ [x]).length + (h - m) = h by have := Hm.out; have := Ha.out; simp; omega] at this
        exact this
      have hw : (pre ++ [x] ++ R ++ post).toArray[a]! = x := by
        have := get_mid pre [x] (R ++ post) 0 (by simp)
        rw [Nat.add_zero, ← Ha.out] at this
        simpa using this
      have ca := hS.out.cl Rh.out Hlen.out h (by rw [Hlen.out, ← Hz.out]; omega)
      have cb' := hS.out.cl Rh.out Hlen.out a (by rw [Hlen.out, ← Hz.out]; omega)
      rw [hv] at ca
      rw [hw] at cb'
      obtain ⟨r, hr⟩ : ∃ r, r = R[h - m] := ⟨_, rfl⟩
      rw [← hr] at ca
      have hc := hS.out.cmp HC.out Hlen.out r x
      have hxr : x < r := by rw [hr]; exact Hx.out _ (List.getElem_mem _)
      have HS2 : Hid (∀ nq osq, SW eI w0 blk off (pre ++ [x] ++ R ++ post).toArray (grow (wr.drewN nq) osq)) := fun nq osq => hS.out.grown nq osq
      have ea : ((h : Int)).toNat = h := by omega
      have eb : ((a : Int)).toNat = a := by omega
      by_cases hq : cfF F r x < 0
      · have H1' : Hid (∀ k (hk : k < R.length), m + k < h + 1 → ltF F R[k] x) := by
          intro k hk' hlt2
          have hrx : ltF F R[h - m] x := by rw [← hr]; exact (cf_neg hxr).1 hq
          rcases Nat.lt_or_ge k (h - m) with q | q
          · exact (HR.out.at hk q).trans hrx
          · obtain rfl : k = h - m := by omega
            exact hrx
        have hqd : decide (cfF F r x < 0) = true := decide_eq_true hq
        clear h1 hS hv hw hr hxr hh
        go_wp2_with fail
        go_quiet_grown (first | (go_at_fn g; refine Calls.grown_of (hc _ _)))
        have S2 := Lib.hid (HS2.out nq osq)
        clear ca cb' hc HS2
        generalize grow (wr.drewN nq) osq = w2 at S2 ⊢
        clear nq osq
        go_wp2_with fail
        go_roundw
        case rel => exact ⟨h + 1, j, by go_num, by go_num, by omega, by omega, hjb, H1', h2, S2.out⟩
        case measure => simp [intOf]; omega
      · have H2' : Hid (∀ k (hk : k < R.length), h ≤ m + k → ltF F x R[k]) := by
          intro k hk' hlt2
          have hrx : ltF F x R[h - m] := by rw [← hr]; exact (cf_not hxr).1 hq
          rcases Nat.lt_or_ge (h - m) k with q | q
          · exact hrx.trans (HR.out.at hk' q)
          · obtain rfl : k = h - m := by omega
            exact hrx
        have hqd : decide (cfF F r x < 0) = false := decide_eq_false hq
        clear h2 hS hv hw hr hxr hh
        go_wp2_with fail
        go_quiet_grown (first | (go_at_fn g; refine Calls.grown_of (hc _ _)))
        have S2 := Lib.hid (HS2.out nq osq)
        clear ca cb' hc HS2
        generalize grow (wr.drewN nq) osq = w2 at S2 ⊢
        clear nq osq
        go_wp2_with fail
        go_roundw
        case rel => exact ⟨i, h, by go_num, by go_num, hmi, hi2, by omega, h1, H2', S2.out⟩
        case measure => simp [intOf]; omega
    · obtain rfl : i = j := by omega
      obtain ⟨u, rfl⟩ : ∃ u, i = m + u := ⟨i - m, by omega⟩
      have hul : u ≤ R.length := by have := Hbm.out; omega
      have HM : Hid (Asc F (R.take u ++ x :: R.drop u)) := part_left HR.out (fun k hk h => h1.out k hk (by omega)) (fun k hk h => h2.out k hk (by omega))
      have hu2 : (m : Int) + (u : Int) ≤ 1000000 := by omega
      have HSt : Hid (∃ P Q : List Int, R.take u = P ++ Q ∧ P.length = 0 ∧ SW eI w0 blk off (pre ++ P ++ x :: (Q ++ (R.drop u ++ post))).toArray wr) := by
        refine ⟨[], R.take u, rfl, rfl, ?_⟩
        rw [← List.append_assoc (R.take u), List.take_append_drop]
        simpa using hS.out
      clear h1 h2 hS hlt
      go_wp2_with fail
      go_loopw [13] (fun kv wr => ∃ t : Nat, kv = .int .i64 ((a + t : Nat) : Int) ∧ t ≤ u ∧ Hid (∃ P Q : List Int, R.take u = P ++ Q ∧ P.length = t ∧ SW eI w0 blk off (pre ++ P ++ x :: (Q ++ (R.drop u ++ post))).toArray wr)) (fun kv _ => a + u - (intOf kv).toNat)
      case atStart => exact ⟨0, rfl, Nat.zero_le _, HSt.out⟩
      case round =>
        clear HSt
        obtain ⟨t, rfl, htu, hS⟩ := hrel
        have hat : (((a + t : Nat) : Int)) ≤ 1000000 := by have := Hm.out; omega
        by_cases hlt : t < u
        · have Hnx : Hid (∃ y : Int, wr.cell? ⟨blk, off + (a + t), none⟩ = some (eI x) ∧ wr.cell? ⟨blk, off + (a + t + 1), none⟩ = some (eI y) ∧ wr.frozen? ⟨blk, off + (a + t), none⟩ = false ∧ wr.frozen? ⟨blk, off + (a + t + 1), none⟩ = false ∧ (∃ u', (wr.setCell ⟨blk, off + (a + t), none⟩ (eI y)).cell? ⟨blk, off + (a + t + 1), none⟩ = some u') ∧ ∃ P Q : List Int, R.take u = P ++ Q ∧ P.length = t + 1 ∧ SW eI w0 blk off (pre ++ P ++ x :: (Q ++ (R.drop u ++ post))).toArray ((wr.setCell ⟨blk, off + (a + t), none⟩ (eI y)).setCell ⟨blk, off + (a + t + 1), none⟩ (eI x)).drew) := by
            obtain ⟨P, Q, hPQ, hP, hS'⟩ := hS.out
            obtain ⟨y, Q', rfl⟩ : ∃ y Q', Q = y :: Q' := by
              cases Q with
              | nil => have := congrArg List.length hPQ; simp at this; omega
              | cons y Q' => exact ⟨y, Q', rfl⟩
            have hp : (pre ++ P).length = a + t := by simp [Ha.out, hP]
            have hlen : (pre ++ P ++ x :: (y :: Q' ++ (R.drop u ++ post))).toArray.size = d0.size := by
              rw [← Hlen.out]
              have e : R = (P ++ y :: Q') ++ R.drop u := by rw [← hPQ]; simp
              have := congrArg List.length e
              simp at this ⊢
              omega
            have hlt2 : a + t + 1 < (pre ++ P ++ x :: (y :: Q' ++ (R.drop u ++ post))).toArray.size := by rw [← hp]; simp; omega
            have g1 : (pre ++ P ++ x :: (y :: Q' ++ (R.drop u ++ post))).toArray[a + t]! = x := by rw [← hp]; exact get_at _ _ _
            have g2 : (pre ++ P ++ x :: (y :: Q' ++ (R.drop u ++ post))).toArray[a + t + 1]! = y := by
              have := get_at (pre ++ P ++ [x]) (Q' ++ (R.drop u ++ post)) y
              rw [List.length_append, hp, List.append_assoc] at this
              exact this
            have k1 := hS'.c1 Rh.out hlen (a + t) (by omega)
            have k2 := hS'.c1 Rh.out hlen (a + t + 1) hlt2
            rw [g1] at k1
            rw [g2] at k2
            have hsw := hS'.swapped Rh.out (a + t) (a + t + 1) (by omega) hlt2
            rw [g1, g2] at hsw
            refine ⟨y, k1, k2, hS'.f1 Rh.out hlen _ (by omega), hS'.f1 Rh.out hlen _ hlt2, hS'.c2 Rh.out hlen _ _ (by omega) hlt2 _, P ++ [y], Q', by rw [hPQ]; simp, by simp [hP], ?_⟩
            have e : swp (pre ++ P ++ x :: (y :: Q' ++ (R.drop u ++ post))).toArray (a + t) (a + t + 1) = (pre ++ (P ++ [y]) ++ x :: (Q' ++ (R.drop u ++ post))).toArray := by
              rw [← hp]
              have := swp_adj (pre ++ P) (Q' ++ (R.drop u ++ post)) x y
              rw [show x :: (y :: Q' ++ (R.drop u ++ post)) = x :: y :: (Q' ++ (R.drop u ++ post)) from rfl, this]
              simp
            rw [e] at hsw
            exact hsw
          obtain ⟨y, k1, k2, f1, f2, ⟨u', k3⟩, hn⟩ := Hnx.out
          have Hn := Lib.hid hn
          obtain ⟨iN, hiN⟩ : ∃ q, q = a + t := ⟨_, rfl⟩
          obtain ⟨jN, hjN⟩ : ∃ q, q = iN + 1 := ⟨_, rfl⟩
          rw [← hiN] at k1 k2 k3 f1 f2 Hn hat ⊢
          rw [← hjN] at k2 k3 f2 Hn
          have ea : ((iN : Int)).toNat = iN := by omega
          have pa : (0 : Int) ≤ (iN : Int) := by omega
          have ba : (iN : Int) < (z : Int) := by have := Hm.out; have := Hbm.out; omega
          have ec : ((iN : Int) + 1).toNat = jN := by omega
          have rc : IntKind.i64.wrap ((iN : Int) + 1) = (iN : Int) + 1 := by rw [IntKind.wrap_i64]; omega
          have pc : (0 : Int) ≤ (iN : Int) + 1 := by omega
          have bc : (iN : Int) + 1 < (z : Int) := by have := Hm.out; have := Hbm.out; omega
          have hcond : (iN : Int) < (m : Int) + (u : Int) - 1 := by have := Hm.out; omega
          have HiN := Lib.hid hiN
          clear hn Hnx hS hlt hiN hjN
          go_wp2_with fail
          go_big_region_o
          clear k1 k2 k3 f1 f2
          generalize ((wr.setCell ⟨blk, off + iN, none⟩ (eI y)).setCell ⟨blk, off + jN, none⟩ (eI x)).drew = w3 at Hn ⊢
          go_wp2_with fail
          go_roundw
          case rel => exact ⟨t + 1, by rw [show ((a + (t + 1) : Nat) : Int) = (iN : Int) + 1 by have := HiN.out; omega], by have := HiN.out; have := Hm.out; omega, Hn.out⟩
          case measure => simp [intOf]; have := HiN.out; omega
        · obtain rfl : t = u := by omega
          have Hfin : Hid (SW eI w0 blk off (pre ++ (R.take t ++ x :: R.drop t) ++ post).toArray wr) := by
            obtain ⟨P, Q, hPQ, hP, hS'⟩ := hS.out
            have hQ : Q = [] := by
              have := congrArg List.length hPQ
              simp at this
              exact List.length_eq_zero_iff.1 (by omega)
            rw [hQ, List.append_nil] at hPQ
            rw [hQ] at hS'
            rw [hPQ]
            exact (show SW _ _ _ _ _ _ from by simpa using hS')
          have hcond : ¬ (((a + t : Nat)) : Int) < (m : Int) + (t : Int) - 1 := by have := Hm.out; omega
          have HP : Hid ((R.take t ++ x :: R.drop t).Perm ([x] ++ R)) := by
            have h1 : (R.take t ++ x :: R.drop t).Perm (x :: (R.take t ++ R.drop t)) := List.perm_middle
            rw [List.take_append_drop] at h1
            exact h1
          clear hS hlt
          go_wp2_with fail
          try simp only [Exit.inBlock, Exit.then]
          refine bodyPost_ret (results_none rfl _ _ _) rfl ?_
          exact ⟨rfl, _, HP.out, HM.out, by simpa using Hfin.out⟩
end
end Go.Proofs.Ytajpnjapfiffmaa

/-
  slices' symMergeCmpFunc at ints where the second of the two stretches has one element, the first has more.
-/
namespace Go.Proofs.Ytajpnjapfiffmaa
open Go.RowKit Go.Maps Go.Shelf Go.Lib Go.Sort

section
set_option maxRecDepth 100000
set_option maxHeartbeats 8000000
variable {F : Int → Nat}
theorem symR_any (w0 W : World) (blk off cap a m z g : Nat) (cb : Array Value) (d0 : Array Int) (R0 : Row1 eI w0 blk off d0) (pre R post : List Int) (x : Int) (ha : a = pre.length) (hm : m = a + R.length) (hl2 : 2 ≤ R.length) (hz : z = d0.size) (hs : (pre ++ R ++ [x] ++ post).length = d0.size) (hsz : d0.size ≤ 1000000)
    (eg : ∀ args w, (callFunc g args).run Try.prog w = .ok (.enter g args) w) (hcmp : CmpLays1 Try.prog g cb eI (cfF F) blk off d0.size w0)
    (hR : Asc F R) (hx : ∀ r ∈ R, r < x) (S : SW eI w0 blk off (pre ++ R ++ [x] ++ post).toArray W) :
    Calls Try.prog 80 #[.slice (some ⟨blk, off, none⟩) z cap, .int .i64 (a : Int), .int .i64 (m : Int), .int .i64 ((m + 1 : Nat) : Int), .func (.func g) #[] cb] W fun e w' => e = .returned (.tuple #[]) ∧ ∃ M, M.Perm (R ++ [x]) ∧ Asc F M ∧ SW eI w0 blk off (pre ++ M ++ post).toArray w' := by
  have mixed : Try.prog.follows Departure.mixedOrders = true := by kernel_rfl
  have hz1 : (z : Int) ≤ 1000000 := by omega
  have hbz : m + 1 ≤ z := by rw [hz, ← hs]; simp; omega
  have HC := Lib.hid hcmp
  have HR := Lib.hid hR
  have Hx := Lib.hid hx
  have Rh := Lib.hid R0
  have Hlen : Hid ((pre ++ R ++ [x] ++ post).toArray.size = d0.size) := (show _ = _ from by simpa using hs)
  have S0 : Hid (SW eI w0 blk off (pre ++ R ++ [x] ++ post).toArray W) := S
  obtain ⟨b, hb⟩ : ∃ b, b = m + 1 := ⟨_, rfl⟩
  rw [← hb]
  have w1' : ¬ (m : Int) - (a : Int) = 1 := by omega
  have w1 : ((m : Int) - (a : Int) == 1) = false := by simpa using w1'
  have w2 : (b : Int) - (m : Int) = 1 := by omega
  have Ha := Lib.hid ha
  have Hz := Lib.hid hz
  have Hm := Lib.hid hm
  have Hb := Lib.hid hb
  have hbz' : b ≤ z := by omega
  have ham : a ≤ m := by omega
  have hmb : m ≤ b := by omega
  clear S R0 hcmp hR hx hs hsz ha hb hz hm hl2 hbz
  go_enter Try.func80, Try.ntmps80
  go_wp2_with fail
  try simp only [w1]
  go_loopw [14, 15] (fun iv jv wr => ∃ (i j : Nat), iv = .int .i64 (i : Int) ∧ jv = .int .i64 (j : Int) ∧ a ≤ i ∧ i ≤ j ∧ j ≤ m ∧ Hid (∀ k (hk : k < R.length), a + k < i → ltF F R[k] x) ∧ Hid (∀ k (hk : k < R.length), j ≤ a + k → ltF F x R[k]) ∧ Hid (SW eI w0 blk off (pre ++ R ++ [x] ++ post).toArray wr)) (fun iv jv _ => (intOf jv).toNat - (intOf iv).toNat)
  case atStart => exact ⟨a, m, rfl, rfl, Nat.le_refl _, ham, Nat.le_refl _, (show ∀ k (hk : k < R.length), a + k < a → ltF F R[k] x from fun k hk h => by omega), (show ∀ k (hk : k < R.length), m ≤ a + k → ltF F x R[k] from fun k hk h => by have := Hm.out; omega), S0.out⟩
  case round =>
    obtain ⟨i, j, rfl, rfl, hmi, hij, hjb, h1, h2, hS⟩ := hrel
    by_cases hlt : i < j
    · have hlt' : (i : Int) < (j : Int) := by omega
      have hj' : (j : Int) ≤ 1000000 := by omega
      obtain ⟨h, hh⟩ : ∃ h, h = (i + j) / 2 := ⟨_, rfl⟩
      have eh : ((i : Int) + (j : Int)) / 2 = (h : Int) := by omega
      have hi2 : i ≤ h := by omega
      have hj2 : h < j := by omega
      have hhz : (h : Int) < (z : Int) := by omega
      have haz : (m : Int) < (z : Int) := by have := Hb.out; omega
      have hk : h - a < R.length := by have := Hm.out; omega
      have hv : (pre ++ R ++ [x] ++ post).toArray[h]! = R[h - a] := by
        have := get_mid pre R ([x] ++ post) (h - a) hk
        rw [show pre.length + (h - a) = h by have := Ha.out; omega] at this
        simpa using this
      have hw : (pre ++ R ++ [x] ++ post).toArray[m]! = x := by
        have := get_mid (pre ++ R) [x] post 0 (by simp)
        rw [Nat.add_zero, show (pre ++ R).length = m by have := Ha.out; have := Hm.out; simp; omega] at this
        simpa using this
      have ca := hS.out.cl Rh.out Hlen.out h (by rw [Hlen.out, ← Hz.out]; omega)
      have cb' := hS.out.cl Rh.out Hlen.out m (by rw [Hlen.out, ← Hz.out]; omega)
      rw [hv] at ca
      rw [hw] at cb'
      obtain ⟨r, hr⟩ : ∃ r, r = R[h - a] := ⟨_, rfl⟩
      rw [← hr] at ca
      have hc := hS.out.cmp HC.out Hlen.out x r
      have hxr : r < x := by rw [hr]; exact Hx.out _ (List.getElem_mem _)
      have HS2 : Hid (∀ nq osq, SW eI w0 blk off (pre ++ R ++ [x] ++ post).toArray (grow (wr.drewN nq) osq)) := fun nq osq => hS.out.grown nq osq
      have ea : ((h : Int)).toNat = h := by omega
      have eb : ((m : Int)).toNat = m := by omega
      by_cases hq : cfF F x r < 0
      · have H2' : Hid (∀ k (hk : k < R.length), h ≤ a + k → ltF F x R[k]) := by
          intro k hk' hlt2
          have hrx : ltF F x R[h - a] := by rw [← hr]; exact (cf_neg hxr).1 hq
          rcases Nat.lt_or_ge (h - a) k with q | q
          · exact hrx.trans (HR.out.at hk' q)
          · obtain rfl : k = h - a := by omega
            exact hrx
        have hqd : decide (cfF F x r < 0) = true := decide_eq_true hq
        clear h2 hS hv hw hr hxr hh
        go_wp2_with fail
        go_quiet_grown (first | (go_at_fn g; refine Calls.grown_of (hc _ _)))
        have S2 := Lib.hid (HS2.out nq osq)
        clear ca cb' hc HS2
        generalize grow (wr.drewN nq) osq = w2 at S2 ⊢
        clear nq osq
        go_wp2_with fail
        go_roundw
        case rel => exact ⟨i, h, by go_num, by go_num, hmi, hi2, by omega, h1, H2', S2.out⟩
        case measure => simp [intOf]; omega
      · have H1' : Hid (∀ k (hk : k < R.length), a + k < h + 1 → ltF F R[k] x) := by
          intro k hk' hlt2
          have hrx : ltF F R[h - a] x := by rw [← hr]; exact (cf_not hxr).1 hq
          rcases Nat.lt_or_ge k (h - a) with q | q
          · exact (HR.out.at hk q).trans hrx
          · obtain rfl : k = h - a := by omega
            exact hrx
        have hqd : decide (cfF F x r < 0) = false := decide_eq_false hq
        clear h1 hS hv hw hr hxr hh
        go_wp2_with fail
        go_quiet_grown (first | (go_at_fn g; refine Calls.grown_of (hc _ _)))
        have S2 := Lib.hid (HS2.out nq osq)
        clear ca cb' hc HS2
        generalize grow (wr.drewN nq) osq = w2 at S2 ⊢
        clear nq osq
        go_wp2_with fail
        go_roundw
        case rel => exact ⟨h + 1, j, by go_num, by go_num, by omega, by omega, hjb, H1', h2, S2.out⟩
        case measure => simp [intOf]; omega
    · obtain rfl : i = j := by omega
      obtain ⟨u, rfl⟩ : ∃ u, i = a + u := ⟨i - a, by omega⟩
      have hul : u ≤ R.length := by have := Hm.out; omega
      have HM : Hid (Asc F (R.take u ++ x :: R.drop u)) := part_left HR.out (fun k hk h => h1.out k hk (by omega)) (fun k hk h => h2.out k hk (by omega))
      have hu2 : (a : Int) + (u : Int) ≤ 1000000 := by omega
      obtain ⟨q0, hq0⟩ : ∃ q0, m = a + u + q0 := ⟨m - (a + u), by omega⟩
      have HSt : Hid (∃ Q P : List Int, R.drop u = Q ++ P ∧ Q.length = q0 ∧ SW eI w0 blk off (pre ++ R.take u ++ Q ++ x :: (P ++ post)).toArray wr) := by
        refine ⟨R.drop u, [], by simp, by have := Hm.out; simp; omega, ?_⟩
        rw [List.append_assoc pre, List.take_append_drop]
        simpa using hS.out
      have hq2 : (a : Int) + (u : Int) + (q0 : Int) = (m : Int) := by omega
      clear h1 h2 hS hlt
      go_wp2_with fail
      go_loopw [17] (fun kv wr => ∃ q : Nat, kv = .int .i64 ((a + u + q : Nat) : Int) ∧ q ≤ q0 ∧ Hid (∃ Q P : List Int, R.drop u = Q ++ P ∧ Q.length = q ∧ SW eI w0 blk off (pre ++ R.take u ++ Q ++ x :: (P ++ post)).toArray wr)) (fun kv _ => (intOf kv).toNat)
      case atStart => exact ⟨q0, by rw [show ((a + u + q0 : Nat) : Int) = (m : Int) by omega], Nat.le_refl _, HSt.out⟩
      case round =>
        clear HSt
        obtain ⟨q, rfl, htu, hS⟩ := hrel
        have hat : (((a + u + q : Nat) : Int)) ≤ 1000000 := by omega
        by_cases hlt : 0 < q
        · have Hnx : Hid (∃ (jN : Nat) (y : Int), a + u + q = jN + 1 ∧ wr.cell? ⟨blk, off + (a + u + q), none⟩ = some (eI x) ∧ wr.cell? ⟨blk, off + jN, none⟩ = some (eI y) ∧ wr.frozen? ⟨blk, off + (a + u + q), none⟩ = false ∧ wr.frozen? ⟨blk, off + jN, none⟩ = false ∧ (∃ u', (wr.setCell ⟨blk, off + (a + u + q), none⟩ (eI y)).cell? ⟨blk, off + jN, none⟩ = some u') ∧ ∃ Q P : List Int, R.drop u = Q ++ P ∧ Q.length = q - 1 ∧ SW eI w0 blk off (pre ++ R.take u ++ Q ++ x :: (P ++ post)).toArray ((wr.setCell ⟨blk, off + (a + u + q), none⟩ (eI y)).setCell ⟨blk, off + jN, none⟩ (eI x)).drew) := by
            obtain ⟨Q, P, hPQ, hP, hS'⟩ := hS.out
            obtain ⟨Q', y, rfl⟩ : ∃ Q' y, Q = Q' ++ [y] := by
              rcases List.eq_nil_or_concat Q with e | ⟨Q', y, e⟩
              · rw [e] at hP; simp at hP; omega
              · exact ⟨Q', y, by rw [e]; simp⟩
            have hq' : Q'.length + 1 = q := by simpa using hP
            have hp : (pre ++ R.take u ++ Q').length = a + u + Q'.length := by simp [← Ha.out]; omega
            have hL : pre ++ R.take u ++ (Q' ++ [y]) ++ x :: (P ++ post) = (pre ++ R.take u ++ Q') ++ y :: x :: (P ++ post) := by simp
            rw [hL] at hS'
            have hlen : ((pre ++ R.take u ++ Q') ++ y :: x :: (P ++ post)).toArray.size = d0.size := by
              rw [← Hlen.out]
              have e : R = R.take u ++ ((Q' ++ [y]) ++ P) := by rw [← hPQ]; simp
              have := congrArg List.length e
              simp at this ⊢
              omega
            have hlt2 : a + u + Q'.length + 1 < ((pre ++ R.take u ++ Q') ++ y :: x :: (P ++ post)).toArray.size := by rw [← hp]; simp; omega
            have g1 : ((pre ++ R.take u ++ Q') ++ y :: x :: (P ++ post)).toArray[a + u + Q'.length]! = y := by rw [← hp]; exact get_at _ _ _
            have g2 : ((pre ++ R.take u ++ Q') ++ y :: x :: (P ++ post)).toArray[a + u + Q'.length + 1]! = x := by
              have := get_at ((pre ++ R.take u ++ Q') ++ [y]) (P ++ post) x
              rw [List.length_append, hp, List.append_assoc] at this
              exact this
            rw [show a + u + q = a + u + Q'.length + 1 by omega]
            have k1 := hS'.c1 Rh.out hlen (a + u + Q'.length) (by omega)
            have k2 := hS'.c1 Rh.out hlen (a + u + Q'.length + 1) hlt2
            rw [g1] at k1
            rw [g2] at k2
            have hsw := hS'.swapped Rh.out (a + u + Q'.length + 1) (a + u + Q'.length) hlt2 (by omega)
            rw [g1, g2] at hsw
            refine ⟨a + u + Q'.length, y, rfl, k2, k1, hS'.f1 Rh.out hlen _ hlt2, hS'.f1 Rh.out hlen _ (by omega), hS'.c2 Rh.out hlen _ _ hlt2 (by omega) _, Q', y :: P, by rw [hPQ]; simp, by omega, ?_⟩
            have e : swp ((pre ++ R.take u ++ Q') ++ y :: x :: (P ++ post)).toArray (a + u + Q'.length + 1) (a + u + Q'.length) = ((pre ++ R.take u ++ Q') ++ x :: y :: (P ++ post)).toArray := by
              rw [← hp]
              exact swp_adj' _ _ _ _
            rw [e] at hsw
            exact hsw
          obtain ⟨jN, y, hjN, k1, k2, f1, f2, ⟨u', k3⟩, hn⟩ := Hnx.out
          have Hn := Lib.hid hn
          obtain ⟨iN, hiN⟩ : ∃ q', q' = a + u + q := ⟨_, rfl⟩
          rw [← hiN] at k1 k3 f1 Hn hat hjN ⊢
          have ea : ((iN : Int)).toNat = iN := by omega
          have pa : (0 : Int) ≤ (iN : Int) := by omega
          have ba : (iN : Int) < (z : Int) := by have := Hb.out; omega
          have ec : ((iN : Int) - 1).toNat = jN := by omega
          have rc : IntKind.i64.wrap ((iN : Int) - 1) = (iN : Int) - 1 := by rw [IntKind.wrap_i64]; omega
          have pc : (0 : Int) ≤ (iN : Int) - 1 := by omega
          have bc : (iN : Int) - 1 < (z : Int) := by omega
          have hcond : (a : Int) + (u : Int) < (iN : Int) := by omega
          have HiN := Lib.hid (And.intro hiN hjN)
          have Hlt := Lib.hid hlt
          clear hn Hnx hS hlt hiN hjN
          go_wp2_with fail
          go_big_region_o
          clear k1 k2 k3 f1 f2
          generalize ((wr.setCell ⟨blk, off + iN, none⟩ (eI y)).setCell ⟨blk, off + jN, none⟩ (eI x)).drew = w3 at Hn ⊢
          go_wp2_with fail
          go_roundw
          case rel => exact ⟨q - 1, by rw [show ((a + u + (q - 1) : Nat) : Int) = (iN : Int) - 1 by have := HiN.out; have := Hlt.out; omega], by omega, Hn.out⟩
          case measure => simp [intOf]; have := HiN.out; omega
        · obtain rfl : q = 0 := by omega
          have Hfin : Hid (SW eI w0 blk off (pre ++ (R.take u ++ x :: R.drop u) ++ post).toArray wr) := by
            obtain ⟨Q, P, hPQ, hP, hS'⟩ := hS.out
            have hQ : Q = [] := List.length_eq_zero_iff.1 hP
            rw [hQ, List.nil_append] at hPQ
            rw [hQ] at hS'
            rw [hPQ]
            exact (show SW _ _ _ _ _ _ from by simpa using hS')
          have hcond : ¬ (a : Int) + (u : Int) < (((a + u + 0 : Nat)) : Int) := by omega
          have HP : Hid ((R.take u ++ x :: R.drop u).Perm (R ++ [x])) := by
            have h1 : (R.take u ++ x :: R.drop u).Perm (x :: (R.take u ++ R.drop u)) := List.perm_middle
            rw [List.take_append_drop] at h1
            exact h1.trans (List.perm_append_singleton _ _).symm
          clear hS hlt
          go_wp2_with fail
          try simp only [Exit.inBlock, Exit.then]
          refine bodyPost_ret (results_none rfl _ _ _) rfl ?_
          exact ⟨rfl, _, HP.out, HM.out, by simpa using Hfin.out⟩
end
end Go.Proofs.Ytajpnjapfiffmaa
