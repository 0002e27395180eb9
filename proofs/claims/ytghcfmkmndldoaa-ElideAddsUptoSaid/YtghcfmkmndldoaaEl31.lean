/-
  slices.Insert at elisions: amid, where there is room.
-/
import Derived.Test.YtghcfmkmndldoaaEl30
namespace Go.Proofs.Ytghcfmkmndldoaa
open Go.RowKit Go.Sort Go.Lib

section
variable {w : World} {base g g2 n m c uc : Nat} {L L2 : List Value} {es fs : List Ec}
set_option maxRecDepth 100000
set_option maxHeartbeats 8000000
theorem ins_room (i : Nat) (T : TwoR w base g g2 n m c uc L L2 es fs) (hi : i < n) (hroom : n + m ≤ c) :
    Calls Try.prog 57 #[.slice (some ⟨g, 0, none⟩) n c, .int .i64 (i : Int), .slice (some ⟨g2, 0, none⟩) m uc] w fun r w' => ∃ v', r = .returned v' ∧ OwnE w' base v' (es.take i ++ fs ++ es.drop i) ∧ Kept (fun k => k ≠ g) w w' := by
  have hov : ∀ o lb cb, (callFunc 58 #[.slice (some ⟨g2, 0, none⟩) m uc, .slice (some ⟨g, o, none⟩) lb cb]).run Try.prog w = .ok (.value (.bool false)) w := fun o lb cb => overlaps_any T.r2 T.r (Ne.symm T.ne) 0 o m uc lb cb (by have := T.m0; omega)
  have Hx := Lib.hid T
  have h1 := T.m0
  have h2 := T.big
  have h3 := T.hc
  have h4 := T.nc
  have h5 := T.uc
  simp only [maxLen] at h3
  have hn9 : (n : Int) ≤ 1000000000000 := by omega
  have hnc : (n : Int) ≤ (c : Int) := by omega
  have hm0' : ((m : Int) == 0) = false := by rw [beq_eq_false_iff_ne]; omega
  have hm0'' : ¬ (m : Int) = 0 := by omega
  have hci : ¬ c = i := by omega
  have hic : (i : Int) ≤ (c : Int) := by omega
  have hin1 : (i : Int) ≤ (n : Int) := by omega
  have hlt : (i : Int) < (n : Int) := by omega
  have hin3 : ¬ (i : Int) = (n : Int) := by omega
  have hin4 : ((i : Int) == (n : Int)) = false := by rw [beq_eq_false_iff_ne]; omega
  have hroom' : ¬ (n : Int) + (m : Int) > (c : Int) := by omega
  have hroom2 : (n : Int) + (m : Int) ≤ (c : Int) := by omega
  have hw1 : IntKind.i64.wrap ((n : Int) + (m : Int)) = (n : Int) + (m : Int) := by rw [IntKind.wrap_i64]; omega
  have hw2 : IntKind.i64.wrap ((i : Int) + (m : Int)) = (i : Int) + (m : Int) := by rw [IntKind.wrap_i64]; omega
  have ht1 : ((i : Int) + (m : Int)).toNat = i + m := by omega
  have ht2 : ((n : Int) + (m : Int)).toNat = n + m := by omega
  have hb0 : (0 : Int) ≤ (i : Int) + (m : Int) := by omega
  have hb1 : (0 : Int) ≤ (n : Int) + (m : Int) := by omega
  have hb2 : ¬ (c = i + m) := by omega
  have hb3 : (i : Int) ≤ (n : Int) + (m : Int) := by omega
  have hb4 : (i : Int) + (m : Int) ≤ (n : Int) + (m : Int) := by omega
  have hgl2 := Lib.hid T.r2.lt
  generalize hr9 : es.take i ++ fs ++ es.drop i = res at *
  clear h1 h2 h3 h4 h5 T
  go_enter Try.func57, Try.ntmps57
  go_wp2_with (simp only [hov])
  go_still_tail 8, (by kernel_rfl)
  change wpList _ _ _ _ _ w.drew
  go_wp2_with fail
  obtain ⟨w2, hrun, h2, k2⟩ := copy_row_run 3 (w := w.drew) ⟨Hx.out.r.at_, Hx.out.r.len⟩ (i + m) (n + m - (i + m)) (c - (i + m)) (some ⟨g, i * 3, none⟩) (n + m - i) (c - i) (cellsE (es.drop i)) (by rw [Hx.out.len1]; show _ = min _ _ * 3; omega) (fun _ => ⟨_, rfl, RowAt.reads (w := w.drew) ⟨Hx.out.r.at_, Hx.out.r.len⟩ (i * 3) (row_drop Hx.out.t Hx.out.hn (by omega))⟩) (some ⟨g, (i + m) * 3, none⟩) (fun _ => rfl) (by rw [Hx.out.len1, Hx.out.lenL]; omega) (oneDrop i es)
  rw [hrun]
  have H2 : Hid (RowAt w2 g c (splice L ((i + m) * 3) (cellsE (es.drop i))) ∧ Kept (fun k => k ≠ g) w w2) := ⟨h2, ((Kept.refl _ _).below ((Below.refl _ _).drew)).trans k2⟩
  clear hrun h2 k2
  go_wp2_with fail
  obtain ⟨w3, hrun, h3, k3⟩ := copy_row_run 3 H2.out.1 i (n + m - i) (c - i) (some ⟨g2, 0, none⟩) m uc (cellsE fs) (by rw [Hx.out.len2]; show _ = min _ _ * 3; omega) (fun _ => ⟨_, rfl, Hx.out.src (H2.out.2.block g2 hgl2.out (Ne.symm Hx.out.ne))⟩) (some ⟨g, i * 3, none⟩) (fun _ => rfl) (by rw [Hx.out.len2, H2.out.1.len]; omega) (oneE fs)
  rw [hrun]
  have H3 : Hid (OwnE w3 base (.slice (some ⟨g, 0, none⟩) (n + m) c) res ∧ Kept (fun k => k ≠ g) w w3) := by
    refine ⟨?_, H2.out.2.trans k3⟩
    have q1 := Hx.out.len2
    have q2 := Hx.out.len1 i
    have q3 := Hx.out.lenL
    have := lay_own (n := n) (j := i) (i := i) (m := m) (fs := fs) (base := base) h3 (row_take Hx.out.t Hx.out.hn (by omega)) (lay_list2 (by omega) (by omega) (by omega)) Hx.out.hn Hx.out.hm (Nat.le_refl _) (by omega) Hx.out.ge (by omega) Hx.out.hc
    rw [hr9, show i + m + (n - i) = n + m by omega] at this
    exact this
  clear hrun h3 k3
  go_wp2_with fail
  go_ret
  exact ⟨_, rfl, H3.out⟩
end
end Go.Proofs.Ytghcfmkmndldoaa
