/-
  slices.Replace at elisions: up to the list's end.
-/
import Derived.Test.YtghcfmkmndldoaaEl30
namespace Go.Proofs.Ytghcfmkmndldoaa
open Go.RowKit Go.Sort Go.Lib

section
variable {w : World} {base g g2 n m c uc : Nat} {L L2 : List Value} {es fs : List Ec}
set_option maxRecDepth 100000
set_option maxHeartbeats 8000000
theorem rep_end1 (i : Nat) (T : TwoR w base g g2 n m c uc L L2 es fs) (hi : i < n) (hx : i + m < n) :
    Calls Try.prog 37 #[.slice (some ⟨g, 0, none⟩) n c, .int .i64 (i : Int), .int .i64 (n : Int), .slice (some ⟨g2, 0, none⟩) m uc] w fun r w' => ∃ v', r = .returned v' ∧ OwnE w' base v' (es.take i ++ fs ++ es.drop n) ∧ Kept (fun k => k ≠ g) w w' := by
  have Hx := Lib.hid T
  have h1 := T.m0
  have h2 := T.big
  have h3 := T.hc
  have h4 := T.nc
  have h5 := T.uc
  simp only [maxLen] at h3
  have hn9 : (n : Int) ≤ 1000000000000 := by omega
  have hnc : (n : Int) ≤ (c : Int) := by omega
  have hm0' : ((m : Int) == 0) = false := by rw [beq_eq_false_iff_ne]; omega
  have hm0'' : ¬ (m : Int) = 0 := by omega
  have hci : ¬ c = i := by omega
  have hic : (i : Int) ≤ (c : Int) := by omega
  have hin1 : (i : Int) ≤ (n : Int) := by omega
  have hin : ¬ (i : Int) = (n : Int) := by omega
  have hin' : ((i : Int) == (n : Int)) = false := by rw [beq_eq_false_iff_ne]; omega
  have hin2 : (i : Int) ≤ (n : Int) := by omega
  have hlt : (i : Int) + (m : Int) < (n : Int) := by omega
  have hci2 : ¬ c = i + m := by omega
  have HR : Hid (∀ W Z, RowAt W g c (splice (splice L (i * 3) (cellsE fs)) ((i + m) * 3) Z) → Z.length = (n - (i + m)) * 3 → OwnE W base (.slice (some ⟨g, 0, none⟩) (i + m) c) (es.take i ++ fs ++ es.drop n)) := fun W Z hW hZ => by
    have q1 := Hx.out.len2
    have q2 := Hx.out.lenL
    have := lay_own (n := n) (j := n) (i := i) (m := m) (fs := fs) (base := base) hW (row_take Hx.out.t Hx.out.hn (by omega)) (by
      rw [Nat.sub_self, Nat.add_zero, splice_take (by omega) (by rw [length_splice _ _ _ (by omega)]; omega), splice_upto (by omega) (by omega), Hx.out.hn, List.drop_eq_nil_of_le (Nat.le_refl _), show cellsE ([] : List Ec) = [] from rfl, List.append_nil]) Hx.out.hn Hx.out.hm (by omega) (Nat.le_refl _) Hx.out.ge (by omega) Hx.out.hc
    rwa [Nat.sub_self, Nat.add_zero] at this
  have hfit : Hid (i + m + (n - (i + m)) ≤ c) := by show _ ≤ _; omega
  generalize es.take i ++ fs ++ es.drop n = res at *
  clear h1 h2 h3 h4 h5 T
  go_enter Try.func37, Try.ntmps37
  go_wp2_with (at_builtin; refine wp_app_room rfl (.tmp 32) (.tmp 33) rfl i m uc rfl rfl Hx.out.r Hx.out.hm (by have := Hx.out.nc; omega) Hx.out.rd2 ?_; intro w5 h5 k5)
  obtain ⟨v7, w7, Z, hrun, h7, hZ, k7⟩ := clear_row_run 0 h5.out (i + m) (n - (i + m)) (c - (i + m)) hfit.out (some ⟨g, (i + m) * 3, none⟩) (fun _ => rfl)
  rw [hrun]
  have H7 : Hid (OwnE w7 base (.slice (some ⟨g, 0, none⟩) (i + m) c) res ∧ Kept (fun k => k ≠ g) w w7) := ⟨HR.out _ _ h7 hZ, k5.out.trans k7⟩
  clear hrun h7 hZ k7
  go_wp2_with fail
  go_ret
  exact ⟨_, rfl, H7.out⟩
theorem rep_end2 (i : Nat) (T : TwoR w base g g2 n m c uc L L2 es fs) (hi : i < n) (hx : n ≤ i + m) :
    Calls Try.prog 37 #[.slice (some ⟨g, 0, none⟩) n c, .int .i64 (i : Int), .int .i64 (n : Int), .slice (some ⟨g2, 0, none⟩) m uc] w fun r w' => ∃ v', r = .returned v' ∧ OwnE w' base v' (es.take i ++ fs ++ es.drop n) ∧ Kept (fun k => k ≠ g) w w' := by
  have Hx := Lib.hid T
  have h1 := T.m0
  have h2 := T.big
  have h3 := T.hc
  have h4 := T.nc
  have h5 := T.uc
  simp only [maxLen] at h3
  have hn9 : (n : Int) ≤ 1000000000000 := by omega
  have hnc : (n : Int) ≤ (c : Int) := by omega
  have hm0' : ((m : Int) == 0) = false := by rw [beq_eq_false_iff_ne]; omega
  have hm0'' : ¬ (m : Int) = 0 := by omega
  have hci : ¬ c = i := by omega
  have hic : (i : Int) ≤ (c : Int) := by omega
  have hin1 : (i : Int) ≤ (n : Int) := by omega
  have hin : ¬ (i : Int) = (n : Int) := by omega
  have hin' : ((i : Int) == (n : Int)) = false := by rw [beq_eq_false_iff_ne]; omega
  have hin2 : (i : Int) ≤ (n : Int) := by omega
  have hlt : ¬ (i : Int) + (m : Int) < (n : Int) := by omega
  have hlen : Hid ((es.take i).length + fs.length ≤ 1099511627776 ∧ (es.take i ++ fs).length = i + m) := by
    have q1 := Hx.out.hn
    have q2 := Hx.out.hm
    constructor
    · rw [List.length_take]; omega
    · rw [List.length_append, List.length_take]; omega
  have hres : es.take i ++ fs ++ es.drop n = es.take i ++ fs := by rw [Hx.out.hn, List.drop_eq_nil_of_le (Nat.le_refl _), List.append_nil]
  rw [hres]
  generalize hr9 : es.take i ++ fs = res at *
  clear h1 h2 h3 h4 h5 T hres
  go_enter Try.func37, Try.ntmps37
  go_wp2_with (at_builtin; refine app_elisions rfl (.tmp 32) (.tmp 33) rfl rfl (Hx.out.own (i := i) (by omega)) m uc rfl Hx.out.hm Hx.out.rd2 hlen.out.1 Hx.out.hb ?_; intro v6 w6 r6 g6 _; obtain ⟨A6, n6, e6, q6, _⟩ := r6.rd; rw [hr9, hlen.out.2] at e6; subst e6; rw [hr9] at r6; have H6 : Hid (OwnE w6 base (.slice A6 (i + m) n6) res ∧ Kept (fun k => k ≠ g) w w6) := ⟨r6, (Kept.refl _ _).grown g6 fun b hb q => q (by cases hb; rfl)⟩; clear r6 g6 q6)
  go_ret
  exact ⟨_, rfl, H6.out⟩
end
end Go.Proofs.Ytghcfmkmndldoaa
