/-
  slices.Insert at elisions: amid, where there is no room.
-/
import Derived.Test.YtghcfmkmndldoaaEl30
namespace Go.Proofs.Ytghcfmkmndldoaa
open Go.RowKit Go.Sort Go.Lib

section
variable {w : World} {base g g2 n m c uc : Nat} {L L2 : List Value} {es fs : List Ec}
set_option maxRecDepth 100000
set_option maxHeartbeats 8000000
theorem ins_grow (i : Nat) (T : TwoR w base g g2 n m c uc L L2 es fs) (hi : i < n) (hroom : c < n + m) :
    Calls Try.prog 57 #[.slice (some ⟨g, 0, none⟩) n c, .int .i64 (i : Int), .slice (some ⟨g2, 0, none⟩) m uc] w fun r w' => ∃ v', r = .returned v' ∧ OwnE w' base v' (es.take i ++ fs ++ es.drop i) ∧ Kept (fun k => k ≠ g) w w' := by
  have Hx := Lib.hid T
  have h1 := T.m0
  have h2 := T.big
  have h3 := T.hc
  have h4 := T.nc
  have h5 := T.uc
  simp only [maxLen] at h3
  have hn9 : (n : Int) ≤ 1000000000000 := by omega
  have hnc : (n : Int) ≤ (c : Int) := by omega
  have hm0' : ((m : Int) == 0) = false := by rw [beq_eq_false_iff_ne]; omega
  have hm0'' : ¬ (m : Int) = 0 := by omega
  have hci : ¬ c = i := by omega
  have hic : (i : Int) ≤ (c : Int) := by omega
  have hin1 : (i : Int) ≤ (n : Int) := by omega
  have hlt : (i : Int) < (n : Int) := by omega
  have hin3 : ¬ (i : Int) = (n : Int) := by omega
  have hin4 : ((i : Int) == (n : Int)) = false := by rw [beq_eq_false_iff_ne]; omega
  have hroom2 : (n : Int) + (m : Int) > (c : Int) := by omega
  obtain ⟨k, hk⟩ : ∃ k, n + m = i + k := ⟨n + m - i, by omega⟩
  have hk0 : 0 < k := by omega
  have hw1 : IntKind.i64.wrap ((n : Int) + (m : Int)) = (n : Int) + (m : Int) := by rw [IntKind.wrap_i64]; omega
  have hw2 : IntKind.i64.wrap ((i : Int) + (m : Int)) = (i : Int) + (m : Int) := by rw [IntKind.wrap_i64]; omega
  have hw3 : IntKind.i64.wrap ((n : Int) + (m : Int) - (i : Int)) = (k : Int) := by rw [IntKind.wrap_i64]; omega
  have ht1 : ((i : Int) + (m : Int)).toNat = i + m := by omega
  have hb0 : (0 : Int) ≤ (i : Int) + (m : Int) := by omega
  have hroom3 : (c : Int) < (n : Int) + (m : Int) := by omega
  have hroom4 : ¬ (n : Int) + (m : Int) ≤ (c : Int) := by omega
  have hH := Lib.hid h2
  have hgl := Lib.hid T.r.lt
  have hgl2 := Lib.hid T.r2.lt
  generalize hr9 : es.take i ++ fs ++ es.drop i = res at *
  clear h1 h2 h3 h4 h5 T
  go_enter Try.func57, Try.ntmps57
  go_wp2_with (at_builtin; refine wp_grow_row rfl (.tmp 34) (.tmp 39) rfl i k rfl rfl (by first | rfl | omega) Hx.out.r Hx.out.t Hx.out.hn (by omega) hk0 (by omega) (by have := hH.out; omega) ?_; intro c' L' w9 h9 k9; have e1 : ¬ c' = i := (by have := h9.out.2.2.1; omega); have e2 : ¬ c' = i + m := (by have := h9.out.2.2.1; omega); have e3 : (i : Int) ≤ (c' : Int) := (by have := h9.out.2.2.1; omega); have e4 : (i : Int) + (m : Int) ≤ (c' : Int) := (by have := h9.out.2.2.1; omega); have e5 : (i : Int) ≤ (i : Int) + (k : Int) := (by omega); have e6 : (m : Int) ≤ (k : Int) := (by omega); have e7 : m ≤ k := (by omega))
  obtain ⟨w10, hrun, h10, k10⟩ := copy_row_run 3 h9.out.1 i k (c' - i) (some ⟨g2, 0, none⟩) m uc (cellsE fs) (by rw [Hx.out.len2]; show _ = min _ _ * 3; omega) (fun _ => ⟨_, rfl, Hx.out.src (k9.out.block g2 hgl2.out)⟩) (some ⟨w.heap.size, i * 3, none⟩) (fun _ => rfl) (by rw [Hx.out.len2, h9.out.1.len]; have := h9.out.2.2.1; omega) (oneE fs)
  rw [hrun]
  have H10 : Hid (RowAt w10 w.heap.size c' (splice L' (i * 3) (cellsE fs)) ∧ Below w.heap.size w w10) := ⟨h10, k9.out.trans (k10.to_below (fun b hb => by omega) k9.out.size)⟩
  clear hrun h10 k10
  go_wp2_with fail
  go_still_tail 8, (by kernel_rfl)
  change wpList _ _ _ _ _ w10.drew
  go_wp2_with fail
  obtain ⟨w11, hrun, h11, k11⟩ := copy_row_run 3 (w := w10.drew) ⟨H10.out.1.at_, H10.out.1.len⟩ (i + m) (i + k - (i + m)) (c' - (i + m)) (some ⟨g, i * 3, none⟩) (n - i) (c - i) (cellsE (es.drop i)) (by rw [Hx.out.len1]; show _ = min _ _ * 3; omega) (fun _ => ⟨_, rfl, RowAt.reads (w := w10.drew) ⟨(H10.out.2.block g hgl.out).trans Hx.out.r.at_, Hx.out.r.len⟩ (i * 3) (row_drop Hx.out.t Hx.out.hn (by omega))⟩) (some ⟨w.heap.size, (i + m) * 3, none⟩) (fun _ => rfl) (by rw [Hx.out.len1, H10.out.1.len]; have := h9.out.2.2.1; omega) (oneDrop i es)
  rw [hrun]
  have H11 : Hid (OwnE w11 base (.slice (some ⟨w.heap.size, 0, none⟩) (i + k) c') res ∧ Kept (fun k => k ≠ g) w w11) := by
    refine ⟨?_, (Kept.refl _ _).below ((H10.out.2.drew).trans (k11.to_below (fun b hb => by omega) (by have := H10.out.2.size; simpa using this)))⟩
    have q1 := Hx.out.len2
    have q2 := Hx.out.len1 i
    have q3 := h9.out.1.len
    have q4 := h9.out.2.2.1
    have := lay_own (n := n) (j := i) (i := i) (m := m) (fs := fs) (base := base) h11 h9.out.2.1 (lay_list (by omega) (by omega) (by omega)) Hx.out.hn Hx.out.hm (Nat.le_refl _) (by omega) Hx.out.hb (by omega) h9.out.2.2.2
    rw [hr9, show i + m + (n - i) = i + k by omega] at this
    exact this
  clear hrun h11 k11
  go_wp2_with fail
  go_ret
  exact ⟨_, rfl, H11.out⟩
end
end Go.Proofs.Ytghcfmkmndldoaa
