/-
  slices' swapRangeCmpFunc at ints: two stretches of one length change places.
-/
import Derived.Test.YtffmipmkbbholaaAlRead
import Derived.Shelf.SlSortCmp.Kit1
import Derived.Deep.LoopGhost
namespace Go.Proofs.Ytffmipmkbbholaa
open Go.RowKit Go.Maps Go.Shelf Go.Lib Go.Sort

abbrev eI : Int → Value := Value.int .i64
theorem eI_one : OneCell eI := fun _ => rfl
theorem get_at (pre post : List Int) (x : Int) : (pre ++ x :: post).toArray[pre.length]! = x := by
  rw [getElem!_pos _ _ (by simp)]
  simp
theorem swp_list (pre mid post : List Int) (x y : Int) : swp (pre ++ x :: (mid ++ y :: post)).toArray pre.length (pre.length + 1 + mid.length) = (pre ++ y :: (mid ++ x :: post)).toArray := by
  have h1 : (pre ++ x :: (mid ++ y :: post)).toArray[pre.length]! = x := get_at _ _ _
  have h2 : (pre ++ x :: (mid ++ y :: post)).toArray[pre.length + 1 + mid.length]! = y := by
    have := get_at (pre ++ x :: mid) post y
    rw [List.append_assoc, List.cons_append, List.length_append, List.length_cons, ← Nat.add_assoc, Nat.add_right_comm] at this
    exact this
  unfold swp
  rw [h1, h2]
  apply Array.ext'
  simp only [List.setIfInBounds_toArray]
  rw [List.set_append_right _ _ (Nat.le_refl _), Nat.sub_self, List.set_cons_zero, List.set_append_right _ _ (by omega), show pre.length + 1 + mid.length - pre.length = mid.length + 1 by omega, List.set_cons_succ, List.set_append_right _ _ (Nat.le_refl _), Nat.sub_self, List.set_cons_zero]

section
set_option maxRecDepth 100000
set_option maxHeartbeats 4000000
theorem swapRange_any (w0 W : World) (blk off cap a b n z : Nat) (d0 : Array Int) (R : Row1 eI w0 blk off d0) (pre X mid Y post : List Int) (fv : Value) (ha : a = pre.length) (hn : n = X.length) (hb : b = pre.length + X.length + mid.length) (hz : z = d0.size) (hXY : Y.length = X.length) (hs : (pre ++ X ++ mid ++ Y ++ post).length = d0.size) (hsz : d0.size ≤ 1000000)
    (S : SW eI w0 blk off (pre ++ X ++ mid ++ Y ++ post).toArray W) :
    Calls Try.prog 92 #[.slice (some ⟨blk, off, none⟩) z cap, .int .i64 (a : Int), .int .i64 (b : Int), .int .i64 (n : Int), fv] W fun e w' => e = .returned (.tuple #[]) ∧ SW eI w0 blk off (pre ++ Y ++ mid ++ X ++ post).toArray w' := by
  have mixed : Try.prog.follows Departure.mixedOrders = true := by kernel_rfl
  have S0 : Hid (SW eI w0 blk off (pre ++ X ++ mid ++ Y ++ post).toArray W) := S
  have Rh := Lib.hid R
  have Hs := Lib.hid hs
  have HXY := Lib.hid hXY
  have hbz : b + n ≤ z := by rw [hz, ← hs, hb, hn]; simp; omega
  have haz : a + n ≤ b := by omega
  have hz1 : (z : Int) ≤ 1000000 := by omega
  have Ha := Lib.hid ha
  have Hn := Lib.hid hn
  have Hb := Lib.hid hb
  have Hz := Lib.hid hz
  clear S R hs hXY ha hn hb hz hsz
  go_enter Try.func92, Try.ntmps92
  go_wp2_with fail
  go_loopw [10] (fun iv wr => ∃ (i : Nat) (X1 X2 Y1 Y2 : List Int), iv = .int .i64 (i : Int) ∧ i ≤ n ∧ Hid (X = X1 ++ X2 ∧ Y = Y1 ++ Y2 ∧ X1.length = i ∧ Y1.length = i) ∧ Hid (SW eI w0 blk off (pre ++ Y1 ++ X2 ++ mid ++ X1 ++ Y2 ++ post).toArray wr)) (fun iv _ => n - (intOf iv).toNat)
  case atStart => exact ⟨0, [], X, [], Y, rfl, Nat.zero_le _, ⟨rfl, rfl, rfl, rfl⟩, (show SW _ _ _ _ _ _ from by simpa using S0.out)⟩
  case round =>
    obtain ⟨i, X1, X2, Y1, Y2, rfl, hi, hl, hS⟩ := hrel
    by_cases hlt : i < n
    · have hlt' : (i : Int) < (n : Int) := by omega
      obtain ⟨x, X3, rfl⟩ : ∃ x X3, X2 = x :: X3 := by
        cases X2 with
        | nil => have h1 := hl.out.1; have h2 := Hn.out; have h3 := hl.out.2.2.1; rw [h1] at h2; simp at h2; omega
        | cons x X3 => exact ⟨x, X3, rfl⟩
      obtain ⟨y, Y3, rfl⟩ : ∃ y Y3, Y2 = y :: Y3 := by
        cases Y2 with
        | nil => have h1 := hl.out.2.1; have h2 := Hn.out; have h3 := hl.out.2.2.2; have h4 := HXY.out; rw [h1] at h4; simp at h4; omega
        | cons y Y3 => exact ⟨y, Y3, rfl⟩
      obtain ⟨L, hL⟩ : ∃ L, L = pre ++ Y1 ++ x :: X3 ++ mid ++ X1 ++ y :: Y3 ++ post := ⟨_, rfl⟩
      have hlen : L.toArray.size = d0.size := by
        have := Hs.out; have h1 := hl.out
        rw [hL, ← this, h1.1, h1.2.1]; simp; omega
      have hLa : L = (pre ++ Y1) ++ x :: ((X3 ++ mid ++ X1) ++ y :: (Y3 ++ post)) := by rw [hL]; simp
      have hp1 : (pre ++ Y1).length = a + i := by simp [hl.out.2.2.2, Ha.out]
      have hp2 : (pre ++ Y1).length + 1 + (X3 ++ mid ++ X1).length = b + i := by
        have h1 := hl.out.1
        have h2 := Hb.out
        have h3 := hl.out.2.2.1
        rw [hp1, h2, Ha.out, h1]; simp; omega
      have hx : L.toArray[a + i]! = x := by rw [hLa, ← hp1]; exact get_at _ _ _
      have hy : L.toArray[b + i]! = y := by
        have := get_at ((pre ++ Y1) ++ x :: (X3 ++ mid ++ X1)) (Y3 ++ post) y
        rw [hLa, ← hp2]
        simpa [Nat.add_assoc, Nat.add_comm 1] using this
      have hSL : SW eI w0 blk off L.toArray wr := hL ▸ hS.out
      obtain ⟨iN, hiN⟩ : ∃ q, q = a + i := ⟨_, rfl⟩
      obtain ⟨jN, hjN⟩ : ∃ q, q = b + i := ⟨_, rfl⟩
      have hiL : iN < L.toArray.size := by rw [hlen, ← Hz.out]; omega
      have hjL : jN < L.toArray.size := by rw [hlen, ← Hz.out]; omega
      rw [← hiN] at hx
      rw [← hjN] at hy
      have S3 : Hid (SW eI w0 blk off (pre ++ (Y1 ++ [y]) ++ X3 ++ mid ++ (X1 ++ [x]) ++ Y3 ++ post).toArray ((wr.setCell ⟨blk, off + iN, none⟩ (eI y)).setCell ⟨blk, off + jN, none⟩ (eI x)).drew) := by
        have h := hSL.swapped Rh.out iN jN hiL hjL
        rw [hx, hy] at h
        have e : swp L.toArray iN jN = (pre ++ (Y1 ++ [y]) ++ X3 ++ mid ++ (X1 ++ [x]) ++ Y3 ++ post).toArray := by
          rw [hiN, hjN, ← hp1, ← hp2, hLa, swp_list]
          simp
        rw [e] at h
        exact h
      have ca := hSL.c1 Rh.out hlen iN hiL
      have cb := hSL.c1 Rh.out hlen jN hjL
      have fa := hSL.f1 Rh.out hlen iN hiL
      have fb := hSL.f1 Rh.out hlen jN hjL
      obtain ⟨u, cc⟩ := hSL.c2 Rh.out hlen iN jN hiL hjL (eI y)
      rw [hx] at ca
      rw [hy] at cb
      have ea : ((a : Int) + (i : Int)).toNat = iN := by omega
      have ra : IntKind.i64.wrap ((a : Int) + (i : Int)) = (a : Int) + (i : Int) := by rw [IntKind.wrap_i64]; omega
      have pa : (0 : Int) ≤ (a : Int) + (i : Int) := by omega
      have ba : (a : Int) + (i : Int) < (z : Int) := by omega
      have ec : ((b : Int) + (i : Int)).toNat = jN := by omega
      have rc : IntKind.i64.wrap ((b : Int) + (i : Int)) = (b : Int) + (i : Int) := by rw [IntKind.wrap_i64]; omega
      have pc : (0 : Int) ≤ (b : Int) + (i : Int) := by omega
      have bc : (b : Int) + (i : Int) < (z : Int) := by omega
      have Hnx : Hid (X = (X1 ++ [x]) ++ X3 ∧ Y = (Y1 ++ [y]) ++ Y3 ∧ (X1 ++ [x]).length = i + 1 ∧ (Y1 ++ [y]).length = i + 1) := by
        have h := hl.out
        exact ⟨by rw [h.1]; simp, by rw [h.2.1]; simp, by simp [h.2.2.1], by simp [h.2.2.2]⟩
      clear hl hS hSL hlen hLa hp1 hp2 hx hy hiN hjN hiL hjL hL
      go_wp2_with fail
      go_big_region_o
      clear ca cb cc fa fb
      generalize ((wr.setCell ⟨blk, off + iN, none⟩ (eI y)).setCell ⟨blk, off + jN, none⟩ (eI x)).drew = w3 at S3 ⊢
      clear ea ec ra rc pa pc ba bc
      go_wp2_with fail
      go_roundw
      case rel => exact ⟨i + 1, _, _, _, _, by go_num, by omega, Hnx.out, S3.out⟩
      case measure => simp [intOf]; omega
    · obtain rfl : i = n := by omega
      have Hfin : Hid (SW eI w0 blk off (pre ++ Y ++ mid ++ X ++ post).toArray wr) := by
        have h := hl.out
        have e1 : X2 = [] := by
          have h2 := Hn.out; rw [h.1] at h2; simp at h2
          exact List.length_eq_zero_iff.1 (by omega)
        have e2 : Y2 = [] := by
          have h2 := Hn.out; have h4 := HXY.out; rw [h.2.1, ← h2] at h4; simp at h4
          exact List.length_eq_zero_iff.1 (by omega)
        have hh := hS.out
        rw [e1, e2] at hh
        rw [h.1, h.2.1, e1, e2]
        exact (show SW _ _ _ _ _ _ from by simpa using hh)
      clear hl hS hlt
      go_wp2_with fail
      go_end0
      exact ⟨rfl, Hfin.out⟩
end
end Go.Proofs.Ytffmipmkbbholaa
