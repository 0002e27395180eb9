/-
  The second saying's there.
-/
import Derived.Test.YtonihcgjepfpkaaKRs25
import Derived.Test.YtonihcgjepfpkaaKRs12
import Derived.OwnWalk
namespace Go.Proofs.Ytonihcgjepfpkaa
open Go.RowKit

set_option maxRecDepth 20000
/-- those that are there, and their length; or that they don't fit -/
def TherePost (w : World) (k : Nat) (S : Mtx) (e : Ending) (w' : World) : Prop :=
  (fitB ((k : Int) + 2) S = true ∧ ∃ v, e = .returned (.tuple #[v, .int .i64 (lenS S : Int), .int .i64 0]) ∧ OwnV w' w.heap.size 3 v (ints (thereL S)) ∧ Below w.heap.size w w') ∨
  (fitB ((k : Int) + 2) S = false ∧ e = .returned (.tuple #[.slice none 0 0, .int .i64 0, .int .i64 1]) ∧ Below w.heap.size w w')
set_option maxHeartbeats 1600000 in
theorem there_any (k N c : Nat) (A : Option Addr) (S : Mtx) (w : World) (h : RM w w.heap.size A S) (hN : N = S.length) (hN2 : N ≤ 40) (hk2 : k ≤ 32) (hl : ∀ (t : Nat) (l : List UInt8), S[t]? = some l → l.length ≤ 1048576) :
    Calls Try.prog 32 #[.int .i64 (k : Int), .slice A N c] w (TherePost w k S) := by
  have hk2' : (k : Int) ≤ 32 := by omega
  have hN40 : (N : Int) ≤ 40 := by omega
  by_cases hne : N = k + 2
  case neg =>
    have hb : ((N : Int) != (k : Int) + 2) = true := by simp; omega
    have Hr : Hid (fitB ((k : Int) + 2) S = false) := by
      unfold fitB
      rw [decide_eq_false (by rw [← hN]; omega)]; rfl
    clear h hN hl hne
    go_enter Try.func32, Try.ntmps32
    go_wp2_with fail
    go_ret3
    exact .inr ⟨Hr.out, rfl, Below.refl _ _⟩
  have hb : ((N : Int) != (k : Int) + 2) = false := by simp; omega
  have Hres : Hid (fitB ((k : Int) + 2) S = (fitS 0 S).isSome) := by
    unfold Hid fitB
    rw [decide_eq_true (by rw [← hN]; omega)]; rfl
  have Hst : Hid (fitS 0 (S.drop 0) = fitS 0 S ∧ (0 : Nat) ≤ 1048576 ∧ OwnV w w.heap.size 3 (.slice none 0 0) (ints (thereK S 0)) ∧ Below w.heap.size w w) := ⟨rfl, by omega, OwnV.nil _ _ _, Below.refl _ _⟩
  have Hh := Lib.hid h
  have HN : Hid (N = S.length ∧ N ≤ 40) := ⟨hN, hN2⟩
  have Hl := Lib.hid hl
  clear h hN hl hN2 hne hk2
  go_enter Try.func32, Try.ntmps32
  go_wp2_with fail
  clear hb
  go_loopw [7, 8, 9] (fun nv lv iv wr => ∃ (k g : Nat) (v : Value), nv = .int .i64 (g : Int) ∧ lv = v ∧ iv = .int .i64 (k : Int) ∧ k ≤ N ∧ Hid (fitS g (S.drop k) = fitS 0 S ∧ g ≤ 1048576 ∧ OwnV wr w.heap.size 3 v (ints (thereK S k)) ∧ Below w.heap.size w wr)) (fun _ _ iv _ => N - (intOf iv).toNat)
  case atStart => exact ⟨0, 0, _, rfl, rfl, rfl, Nat.zero_le _, Hst.out⟩
  case round =>
    obtain ⟨i, g, v, rfl, rfl, rfl, hi, hrel⟩ := hrel
    by_cases hlt : i < N
    · obtain ⟨l, hx⟩ : ∃ l, S[i]? = some l := ⟨_, List.getElem?_eq_getElem (by rw [← HN.out.1]; exact hlt)⟩
      obtain ⟨bb, o, A', c', rfl, hbb, hc, _, _⟩ := Hh.out i l hx
      have k1 : wr.cell? ⟨bb, o + i, none⟩ = some (.slice A' l.length c') := (hrel.out.2.2.2.cell (p := ⟨bb, o + i, none⟩) hbb).trans hc
      have hll := Hl.out i l hx
      have hs := fitS_drop (n := g) hx
      rw [hrel.out.1] at hs
      have hg2 := hrel.out.2.1
      have hlt' : (i : Int) < (N : Int) := by omega
      have hgd := getD_of hx
      have hpl := part_length S i
      have Hrel : Hid (OwnV wr w.heap.size 3 u8 (ints (thereK S i)) ∧ Below w.heap.size w wr ∧ (ints (thereK S i)).length ≤ i ∧ i ≤ 40) := ⟨hrel.out.2.2.1, hrel.out.2.2.2, by rw [ints_length]; omega, by have := HN.out; omega⟩
      by_cases h0 : l.length = 0
      · have Hn : Hid (fitS g (S.drop (i + 1)) = fitS 0 S ∧ g ≤ 1048576 ∧ OwnV wr w.heap.size 3 u8 (ints (thereK S (i + 1))) ∧ Below w.heap.size w wr) := by
          rw [if_neg (by omega), h0, Nat.max_zero] at hs
          refine ⟨hs.symm, hg2, ?_, Hrel.out.2.1⟩
          rw [show thereK S (i + 1) = thereK S i from if_pos (by rw [hgd]; exact h0)]
          exact Hrel.out.1
        rw [h0] at k1
        clear hx hbb hc hrel hlt h0 hgd hpl hs hg2 hll
        go_wp2_with fail
        go_roundw
        case rel => exact ⟨i + 1, g, _, rfl, rfl, by go_num, by omega, Hn.out⟩
        case measure => simp [intOf]; omega
      have h1 : ((l.length : Int) == 0) = false := by simp; intro e; exact h0 (by rw [e]; rfl)
      have Hth : Hid (thereK S (i + 1) = thereK S i ++ [(i : Int)]) := if_neg (by rw [hgd]; exact h0)
      by_cases hbad : g ≠ 0 ∧ l.length ≠ 0 ∧ l.length ≠ g
      · have h2 : ((g : Int) != 0) = true := by simp; omega
        have h3 : ((l.length : Int) != (g : Int)) = true := by simp; omega
        rw [if_pos hbad] at hs
        have Hno : Hid (fitB ((k : Int) + 2) S = false) := by
          rw [Hres.out, hs]; rfl
        generalize l.length = m at *
        clear hx hbb hc hrel hlt h0 hgd hpl hs hg2 hll hbad
        go_wp2_with fail
        go_ret3
        exact .inr ⟨Hno.out, rfl, Hrel.out.2.1⟩
      rw [if_neg hbad] at hs
      have Hn : Hid (fitS (max g l.length) (S.drop (i + 1)) = fitS 0 S ∧ max g l.length = l.length ∧ l.length ≤ 1048576) := ⟨hs.symm, by omega, hll⟩
      by_cases hg0 : g = 0
      · subst hg0
        generalize l.length = m at *
        clear hx hbb hc hrel hlt h0 hgd hpl hs hg2 hll hbad
        go_wp2_with (at_builtin; go_must (refine app_one rfl (.tmp 43) (.tmp 45) 42 3 rfl Try.underlying42 _ 8 info_int rfl w.heap.size _ _ rfl (OwnV.alloc Hrel.out.1 _) ⟨wr.heap.size, 0, none⟩ 1 (.int .i64 (i : Int)) rfl (cell_new _ _ _) rfl (by have := Hrel.out.2.2; omega) (by have := Hrel.out.2.2; omega) (by have := Hrel.out.2.1.size; simp; omega) ?_); intro v9 W9 hown9 hg9 hn9; have Hn9 : Hid (OwnV W9 w.heap.size 3 v9 (ints (thereK S (i + 1))) ∧ Below w.heap.size w W9) := by {rw [Hth.out, ints_add]; exact ⟨hown9, (Hrel.out.2.1.alloc Hrel.out.2.1.size _).grown hg9 (by have := Hrel.out.2.1.size; simp; omega) (fun g hg => (Hrel.out.1.ge g hg).1)⟩}; clear hown9 hg9 hn9)
        go_roundw
        case rel => exact ⟨i + 1, m, _, rfl, rfl, by go_num, by omega, by rw [← Hn.out.2.1]; exact Hn.out.1, Hn.out.2.2, Hn9.out⟩
        case measure => simp [intOf]; omega
      · have h2 : ((g : Int) != 0) = true := by simp; omega
        obtain ⟨m, hm⟩ : ∃ m, m = l.length := ⟨_, rfl⟩
        rw [← hm] at k1 h1 Hn hbad h0
        obtain rfl : g = m := by omega
        have h3 : ((g : Int) != (g : Int)) = false := by simp
        clear hx hbb hc hrel hlt h0 hgd hpl hs hg2 hll hbad hm hg0
        go_wp2_with (at_builtin; go_must (refine app_one rfl (.tmp 43) (.tmp 45) 42 3 rfl Try.underlying42 _ 8 info_int rfl w.heap.size _ _ rfl (OwnV.alloc Hrel.out.1 _) ⟨wr.heap.size, 0, none⟩ 1 (.int .i64 (i : Int)) rfl (cell_new _ _ _) rfl (by have := Hrel.out.2.2; omega) (by have := Hrel.out.2.2; omega) (by have := Hrel.out.2.1.size; simp; omega) ?_); intro v9 W9 hown9 hg9 hn9; have Hn9 : Hid (OwnV W9 w.heap.size 3 v9 (ints (thereK S (i + 1))) ∧ Below w.heap.size w W9) := by {rw [Hth.out, ints_add]; exact ⟨hown9, (Hrel.out.2.1.alloc Hrel.out.2.1.size _).grown hg9 (by have := Hrel.out.2.1.size; simp; omega) (fun g hg => (Hrel.out.1.ge g hg).1)⟩}; clear hown9 hg9 hn9)
        go_roundw
        case rel => exact ⟨i + 1, g, _, rfl, rfl, by go_num, by omega, by rw [← Hn.out.2.1]; exact Hn.out.1, Hn.out.2.2, Hn9.out⟩
        case measure => simp [intOf]; omega
    · obtain rfl : i = N := by omega
      have Hd : Hid (fitS 0 S = some g ∧ lenS S = g ∧ OwnV wr w.heap.size 3 u8 (ints (thereL S)) ∧ Below w.heap.size w wr) := by
        obtain ⟨h1, h2, h3, h4⟩ := hrel.out
        rw [HN.out.1, List.drop_length] at h1
        rw [HN.out.1] at h3
        refine ⟨h1.symm, ?_, h3, h4⟩
        unfold lenS
        rw [← h1]; rfl
      clear hlt hrel
      go_wp2_with fail
      go_ret3
      refine .inl ⟨by rw [Hres.out, Hd.out.1]; rfl, _, ?_, Hd.out.2.2⟩
      rw [Hd.out.2.1]; rfl
end Go.Proofs.Ytonihcgjepfpkaa
