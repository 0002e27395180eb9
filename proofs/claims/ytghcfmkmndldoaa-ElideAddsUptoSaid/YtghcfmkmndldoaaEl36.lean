/-
  slices.Replace at elisions: amid, in place, longer than what it takes the place of.
-/
import Derived.Test.YtghcfmkmndldoaaEl30
namespace Go.Proofs.Ytghcfmkmndldoaa
open Go.RowKit Go.Sort Go.Lib

section
variable {w : World} {base g g2 n m c uc : Nat} {L L2 : List Value} {es fs : List Ec}
set_option maxRecDepth 100000
set_option maxHeartbeats 8000000
theorem rep_long (i j : Nat) (T : TwoR w base g g2 n m c uc L L2 es fs) (hij : i < j) (hj : j < n) (hroom : i + m + (n - j) ≤ c) (hx : j < i + m) :
    Calls Try.prog 37 #[.slice (some ⟨g, 0, none⟩) n c, .int .i64 (i : Int), .int .i64 (j : Int), .slice (some ⟨g2, 0, none⟩) m uc] w fun r w' => ∃ v', r = .returned v' ∧ OwnE w' base v' (es.take i ++ fs ++ es.drop j) ∧ Kept (fun k => k ≠ g) w w' := by
  have hov : ∀ W, (W = w ∨ ∃ k, W = w.drewN k) → ∀ o la ca, (callFunc 58 #[.slice (some ⟨g, o, none⟩) la ca, .slice (some ⟨g2, 0, none⟩) m uc]).run Try.prog W = .ok (.value (.bool false)) W := fun W hW o la ca => by
    rcases hW with rfl | ⟨k, rfl⟩
    · exact overlaps_any T.r T.r2 T.ne o 0 la ca m uc (by have := T.m0; have := T.uc; omega)
    · exact overlaps_any (T.r.drew k) (T.r2.drew k) T.ne o 0 la ca m uc (by have := T.m0; have := T.uc; omega)
  have H : Hid (TwoR w base g g2 n m c uc L L2 es fs ∧ ∀ nq, TwoR (w.drewN nq) base g g2 n m c uc L L2 es fs) := ⟨T, T.drewN⟩
  have Hx := Lib.hid T
  have h1 := T.m0
  have h2 := T.big
  have h3 := T.hc
  have h4 := T.nc
  have h5 := T.uc
  simp only [maxLen] at h3
  have hn9 : (n : Int) ≤ 1000000000000 := by omega
  have hnc : (n : Int) ≤ (c : Int) := by omega
  have hm0' : ((m : Int) == 0) = false := by rw [beq_eq_false_iff_ne]; omega
  have hm0'' : ¬ (m : Int) = 0 := by omega
  have hci : ¬ c = i := by omega
  have hic : (i : Int) ≤ (c : Int) := by omega
  have hin1 : (i : Int) ≤ (n : Int) := by omega
  have hij' : ¬ (i : Int) = (j : Int) := by omega
  have hij2 : ((i : Int) == (j : Int)) = false := by rw [beq_eq_false_iff_ne]; omega
  have hij3 : (i : Int) ≤ (j : Int) := by omega
  have hjn' : ¬ (j : Int) = (n : Int) := by omega
  have hjn2 : ((j : Int) == (n : Int)) = false := by rw [beq_eq_false_iff_ne]; omega
  have hjn3 : (j : Int) ≤ (n : Int) := by omega
  have hjc : (j : Int) ≤ (c : Int) := by omega
  have hcj : ¬ c = j := by omega
  have hw1 : IntKind.i64.wrap ((i : Int) + (m : Int)) = (i : Int) + (m : Int) := by rw [IntKind.wrap_i64]; omega
  have hw2 : IntKind.i64.wrap ((i : Int) + (m : Int) + ((n - j : Nat) : Int)) = (i : Int) + (m : Int) + ((n - j : Nat) : Int) := by rw [IntKind.wrap_i64]; omega
  have hw4 : IntKind.i64.wrap ((i : Int) + (m : Int) + ((n - j : Nat) : Int) - (i : Int)) = (m : Int) + ((n - j : Nat) : Int) := by rw [IntKind.wrap_i64]; omega
  have ht1 : ((i : Int) + (m : Int)).toNat = i + m := by omega
  have ht2 : ((i : Int) + (m : Int) + ((n - j : Nat) : Int)).toNat = i + m + (n - j) := by omega
  have hb0 : (0 : Int) ≤ (i : Int) + (m : Int) := by omega
  have hb1 : (0 : Int) ≤ (i : Int) + (m : Int) + ((n - j : Nat) : Int) := by omega
  have hgl := Lib.hid T.r.lt
  have hgl2 := Lib.hid T.r2.lt
  have hH := Lib.hid h2
  have hroom2 : ¬ (c : Int) < (i : Int) + (m : Int) + ((n - j : Nat) : Int) := by omega
  have hroom3 : (i : Int) + (m : Int) + ((n - j : Nat) : Int) ≤ (c : Int) := by omega
  have hcm : ¬ c = i + m := by omega
  have hb2 : (i : Int) ≤ (i : Int) + (m : Int) + ((n - j : Nat) : Int) := by omega
  have hb3 : (i : Int) + (m : Int) ≤ (i : Int) + (m : Int) + ((n - j : Nat) : Int) := by omega
  have hx2 : ¬ (i : Int) + (m : Int) ≤ (j : Int) := by omega
  generalize hr9 : es.take i ++ fs ++ es.drop j = res at *
  clear h1 h2 h3 h4 h5 T
  go_enter Try.func37, Try.ntmps37
  go_upto_region 9 with fail
  go_quiet (fail)
  have Hq : Hid (TwoR (w.drewN nq) base g g2 n m c uc L L2 es fs ∧ Below w.heap.size w (w.drewN nq)) := ⟨H.out.2 nq, below_dr (Below.refl _ _) nq⟩
  have hov2 := hov _ (.inr ⟨nq, rfl⟩)
  go_wp2_with (simp only [hov2])
  clear hov2
  go_still_tail 9, (by kernel_rfl)
  change wpList _ _ _ _ _ (w.drewN nq).drew
  go_wp2_with fail
  obtain ⟨w2, hrun, h2, k2⟩ := copy_row_run 3 (w := w.drewN (nq + 1)) ⟨Hx.out.r.at_, Hx.out.r.len⟩ (i + m) (n - j) (c - (i + m)) (some ⟨g, j * 3, none⟩) (n - j) (c - j) (cellsE (es.drop j)) (by rw [Hx.out.len1]; show _ = min _ _ * 3; omega) (fun _ => ⟨_, rfl, RowAt.reads (w := w.drewN (nq + 1)) ⟨Hx.out.r.at_, Hx.out.r.len⟩ (j * 3) (row_drop Hx.out.t Hx.out.hn (by omega))⟩) (some ⟨g, (i + m) * 3, none⟩) (fun _ => rfl) (by rw [Hx.out.len1, Hx.out.lenL]; omega) (oneDrop j es)
  rw [hrun]
  have H2 : Hid (RowAt w2 g c (splice L ((i + m) * 3) (cellsE (es.drop j))) ∧ Kept (fun k => k ≠ g) w w2) := ⟨h2, ((Kept.refl _ _).below Hq.out.2.drew).trans k2⟩
  clear hrun h2 k2
  go_wp2_with fail
  obtain ⟨w3, hrun, h3, k3⟩ := copy_row_run 3 H2.out.1 i (i + m + (n - j) - i) (c - i) (some ⟨g2, 0, none⟩) m uc (cellsE fs) (by rw [Hx.out.len2]; show _ = min _ _ * 3; omega) (fun _ => ⟨_, rfl, Hx.out.src (H2.out.2.block g2 hgl2.out (Ne.symm Hx.out.ne))⟩) (some ⟨g, i * 3, none⟩) (fun _ => rfl) (by rw [Hx.out.len2, H2.out.1.len]; omega) (oneE fs)
  rw [hrun]
  have H3 : Hid (OwnE w3 base (.slice (some ⟨g, 0, none⟩) (i + m + (n - j)) c) res ∧ Kept (fun k => k ≠ g) w w3) := by
    refine ⟨?_, H2.out.2.trans k3⟩
    have q1 := Hx.out.len2
    have q2 := Hx.out.len1 j
    have q3 := Hx.out.lenL
    have := lay_own (n := n) (j := j) (i := i) (m := m) (fs := fs) (base := base) h3 (row_take Hx.out.t Hx.out.hn (by omega)) (lay_list2 (by omega) (by omega) (by omega)) Hx.out.hn Hx.out.hm (by omega) (by omega) Hx.out.ge (by omega) Hx.out.hc
    rw [hr9] at this
    exact this
  clear hrun h3 k3
  go_wp2_with fail
  go_ret
  exact ⟨_, rfl, H3.out⟩
end
end Go.Proofs.Ytghcfmkmndldoaa
