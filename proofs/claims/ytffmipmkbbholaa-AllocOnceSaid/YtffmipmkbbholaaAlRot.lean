/-
  slices' rotateCmpFunc at ints: two stretches side by side change places.
-/
import Derived.Test.YtffmipmkbbholaaAlSwap
namespace Go.Proofs.Ytffmipmkbbholaa
open Go.RowKit Go.Maps Go.Shelf Go.Lib Go.Sort

section
set_option maxRecDepth 100000
set_option maxHeartbeats 4000000
theorem rotate_any (w0 W : World) (blk off cap a m b z : Nat) (d0 : Array Int) (R : Row1 eI w0 blk off d0) (pre X Y post : List Int) (fv : Value) (ha : a = pre.length) (hm : m = a + X.length) (hb : b = m + Y.length) (hz : z = d0.size) (hX : 0 < X.length) (hY : 0 < Y.length) (hs : (pre ++ X ++ Y ++ post).length = d0.size) (hsz : d0.size ≤ 1000000)
    (S : SW eI w0 blk off (pre ++ X ++ Y ++ post).toArray W) :
    Calls Try.prog 89 #[.slice (some ⟨blk, off, none⟩) z cap, .int .i64 (a : Int), .int .i64 (m : Int), .int .i64 (b : Int), fv] W fun e w' => e = .returned (.tuple #[]) ∧ SW eI w0 blk off (pre ++ Y ++ X ++ post).toArray w' := by
  have mixed : Try.prog.follows Departure.mixedOrders = true := by kernel_rfl
  have hz1 : (z : Int) ≤ 1000000 := by omega
  have hbz : b ≤ z := by rw [hz, ← hs]; simp; omega
  have Hsw : Hid (∀ (W' : World) (x y n : Nat) (p P m' Q q : List Int), x = p.length → n = P.length → y = p.length + P.length + m'.length → Q.length = P.length → (p ++ P ++ m' ++ Q ++ q).length = d0.size → SW eI w0 blk off (p ++ P ++ m' ++ Q ++ q).toArray W' →
      Calls Try.prog 92 #[.slice (some ⟨blk, off, none⟩) z cap, .int .i64 (x : Int), .int .i64 (y : Int), .int .i64 (n : Int), fv] W' fun e w' => e = .returned (.tuple #[]) ∧ SW eI w0 blk off (p ++ Q ++ m' ++ P ++ q).toArray w') :=
    fun W' x y n p P m' Q q h1 h2 h3 h4 h5 h6 => swapRange_any w0 W' blk off cap x y n z d0 R p P m' Q q fv h1 h2 h3 hz h4 h5 hsz h6
  have Hst : Hid (∃ p P Q q : List Int, P.length = X.length ∧ Q.length = Y.length ∧ p.length + X.length = m ∧ p ++ Q ++ P ++ q = pre ++ Y ++ X ++ post ∧ SW eI w0 blk off (p ++ P ++ Q ++ q).toArray W) := ⟨pre, X, Y, post, rfl, rfl, by omega, rfl, S⟩
  have Hlen := Lib.hid hs
  obtain ⟨i0, hi0⟩ : ∃ i0, i0 = X.length := ⟨_, rfl⟩
  obtain ⟨j0, hj0⟩ : ∃ j0, j0 = Y.length := ⟨_, rfl⟩
  rw [← hi0] at hm hX
  rw [← hj0] at hb hY
  rw [← hi0, ← hj0] at Hst
  have w1 : (m : Int) - (a : Int) = (i0 : Int) := by omega
  have w2 : (b : Int) - (m : Int) = (j0 : Int) := by omega
  have hia : i0 ≤ m := by omega
  have hjb : m + j0 ≤ z := by omega
  clear hi0 hj0 ha hm hb hz hs hsz S R hbz
  go_enter Try.func89, Try.ntmps89
  go_wp2_with fail
  go_loopw [10, 11] (fun iv jv wr => ∃ (i j : Nat), iv = .int .i64 (i : Int) ∧ jv = .int .i64 (j : Int) ∧ 0 < i ∧ 0 < j ∧ i ≤ m ∧ m + j ≤ z ∧ Hid (∃ p P Q q : List Int, P.length = i ∧ Q.length = j ∧ p.length + i = m ∧ p ++ Q ++ P ++ q = pre ++ Y ++ X ++ post ∧ SW eI w0 blk off (p ++ P ++ Q ++ q).toArray wr)) (fun iv jv _ => (intOf iv).toNat + (intOf jv).toNat)
  case atStart => exact ⟨i0, j0, by first | rfl | rw [w1], by first | rfl | rw [w2], hX, hY, hia, hjb, Hst.out⟩
  case round =>
    clear w1 w2 hia hjb hX hY Hst
    obtain ⟨i, j, rfl, rfl, hi, hj, him, hjz, hS⟩ := hrel
    have hi1 : (i : Int) ≤ (m : Int) := by omega
    have hm1 : (m : Int) + (j : Int) ≤ (z : Int) := by omega
    by_cases heq : i = j
    · subst heq
      have Hc : Hid (∀ x : Nat, x + i = m → Calls Try.prog 92 #[.slice (some ⟨blk, off, none⟩) z cap, .int .i64 (x : Int), .int .i64 (m : Int), .int .i64 (i : Int), fv] wr fun e w' => e = .returned (.tuple #[]) ∧ SW eI w0 blk off (pre ++ Y ++ X ++ post).toArray w') := by
        intro x hx
        obtain ⟨p, P, Q, q, h1, h2, h3, h4, h5⟩ := hS.out
        have hl : (p ++ P ++ [] ++ Q ++ q).length = d0.size := by
          rw [← Hlen.out]
          have := congrArg List.length h4
          simp at this ⊢
          omega
        have h := Hsw.out wr x m i p P [] Q q (by omega) h1.symm (by rw [h1]; simp; omega) (by omega) hl (by simpa using h5)
        rw [show p ++ Q ++ [] ++ P ++ q = pre ++ Y ++ X ++ post from by rw [← h4]; simp] at h
        exact h
      obtain ⟨x, hx⟩ : ∃ x, x + i = m := ⟨m - i, by omega⟩
      have Hc2 := Lib.hid (Hc.out x hx)
      have e1 : (m : Int) - (i : Int) = (x : Int) := by omega
      have hx2 : (x : Int) ≤ 1000000 := by omega
      clear Hc hS Hsw
      go_wp2_with fail
      refine Hc2.out.mono ?_
      rintro e w3 ⟨rfl, hfin⟩
      have Hf := Lib.hid hfin
      clear hfin Hc2
      go_wp2_with fail
      go_end0
      exact ⟨rfl, Hf.out⟩
    · have hne : ¬ (i : Int) = (j : Int) := by omega
      by_cases hgt : j < i
      · have hgt' : (j : Int) < (i : Int) := by omega
        obtain ⟨x, hx⟩ : ∃ x, x + i = m := ⟨m - i, by omega⟩
        have Hc : Hid (Calls Try.prog 92 #[.slice (some ⟨blk, off, none⟩) z cap, .int .i64 (x : Int), .int .i64 (m : Int), .int .i64 (j : Int), fv] wr fun e w' => e = .returned (.tuple #[]) ∧ Hid (∃ p P Q q : List Int, P.length = i - j ∧ Q.length = j ∧ p.length + (i - j) = m ∧ p ++ Q ++ P ++ q = pre ++ Y ++ X ++ post ∧ SW eI w0 blk off (p ++ P ++ Q ++ q).toArray w')) := by
          obtain ⟨p, P, Q, q, h1, h2, h3, h4, h5⟩ := hS.out
          have hP : P = P.take j ++ P.drop j := (List.take_append_drop j P).symm
          have hl : (p ++ P.take j ++ P.drop j ++ Q ++ q).length = d0.size := by
            rw [← Hlen.out]
            have := congrArg List.length h4
            simp at this ⊢
            omega
          have h := Hsw.out wr x m j p (P.take j) (P.drop j) Q q (by omega) (by simp; omega) (by simp; omega) (by simp; omega) hl (by rw [List.append_assoc p, ← hP]; exact h5)
          refine h.mono ?_
          rintro e w3 ⟨rfl, h6⟩
          refine ⟨rfl, p ++ Q, P.drop j, P.take j, q, by simp; omega, by simp; omega, by simp; omega, ?_, h6⟩
          rw [← h4]
          simp
        have e1 : (m : Int) - (i : Int) = (x : Int) := by omega
        have e2 : (i : Int) - (j : Int) = ((i - j : Nat) : Int) := by omega
        have hx2 : (x : Int) ≤ 1000000 := by omega
        have hd : 0 < i - j ∧ i - j ≤ m ∧ i - j + j < i + j := by omega
        generalize i - j = k at *
        have hk2 : (k : Int) ≤ 1000000 := by omega
        clear hS Hsw
        go_wp2_with fail
        refine Hc.out.mono ?_
        rintro e w3 ⟨rfl, H3⟩
        clear Hc
        go_wp2_with fail
        go_roundw
        case rel => exact ⟨k, j, by go_num, by go_num, hd.1, hj, hd.2.1, hjz, H3.out⟩
        case measure => simp [intOf]; omega
      · have hgt' : ¬ (j : Int) < (i : Int) := by omega
        obtain ⟨x, hx⟩ : ∃ x, x + i = m := ⟨m - i, by omega⟩
        obtain ⟨y, hy⟩ : ∃ y, y = m + j - i := ⟨_, rfl⟩
        have Hc : Hid (Calls Try.prog 92 #[.slice (some ⟨blk, off, none⟩) z cap, .int .i64 (x : Int), .int .i64 (y : Int), .int .i64 (i : Int), fv] wr fun e w' => e = .returned (.tuple #[]) ∧ Hid (∃ p P Q q : List Int, P.length = i ∧ Q.length = j - i ∧ p.length + i = m ∧ p ++ Q ++ P ++ q = pre ++ Y ++ X ++ post ∧ SW eI w0 blk off (p ++ P ++ Q ++ q).toArray w')) := by
          obtain ⟨p, P, Q, q, h1, h2, h3, h4, h5⟩ := hS.out
          have hQ : Q = Q.take (j - i) ++ Q.drop (j - i) := (List.take_append_drop _ Q).symm
          have hl : (p ++ P ++ Q.take (j - i) ++ Q.drop (j - i) ++ q).length = d0.size := by
            rw [← Hlen.out]
            have := congrArg List.length h4
            simp at this ⊢
            omega
          have h := Hsw.out wr x y i p P (Q.take (j - i)) (Q.drop (j - i)) q (by omega) h1.symm (by simp; omega) (by simp; omega) hl (by rw [List.append_assoc (p ++ P), ← hQ]; exact h5)
          refine h.mono ?_
          rintro e w3 ⟨rfl, h6⟩
          refine ⟨rfl, p, Q.drop (j - i), Q.take (j - i), P ++ q, by simp; omega, by simp; omega, by omega, ?_, ?_⟩
          · rw [← h4, List.append_assoc p, List.take_append_drop]
            simp
          · have e : p ++ Q.drop (j - i) ++ Q.take (j - i) ++ P ++ q = p ++ Q.drop (j - i) ++ Q.take (j - i) ++ (P ++ q) := by simp
            rw [← e]; exact h6
        have e1 : (m : Int) - (i : Int) = (x : Int) := by omega
        have e2 : (m : Int) + (j : Int) - (i : Int) = (y : Int) := by omega
        have e3 : (j : Int) - (i : Int) = ((j - i : Nat) : Int) := by omega
        have hx2 : (x : Int) ≤ 1000000 := by omega
        have hy2 : (y : Int) ≤ 1000000 := by omega
        have hd : 0 < j - i ∧ m + (j - i) ≤ z ∧ i + (j - i) < i + j := by omega
        generalize j - i = k at *
        have hk2 : (k : Int) ≤ 1000000 := by omega
        clear hS Hsw hy
        go_wp2_with fail
        refine Hc.out.mono ?_
        rintro e w3 ⟨rfl, H3⟩
        clear Hc
        go_wp2_with fail
        go_roundw
        case rel => exact ⟨i, k, by go_num, by go_num, hi, hd.1, him, hd.2.1, H3.out⟩
        case measure => simp [intOf]; omega
end
end Go.Proofs.Ytffmipmkbbholaa
