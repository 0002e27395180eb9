/-
  act, walked.
-/
import Derived.Test.YtejimgjonhaocaaMe14
namespace Go.Proofs.Ytejimgjonhaocaa
open Go.RowKit Go.Maps Go.Lib Go.Sort

section
set_option maxRecDepth 20000
set_option maxHeartbeats 1600000
variable {w w' : World} {tb mb dep nxt N : Nat} {L : List Md}
theorem act_any (h : TabG w tb mb dep nxt (rowG L) N) (ho : Ok dep nxt L) (hx : nxt ≤ 900000) (hN : N < 800000) (x : PAct) (ha : x.a < T64) :
    Calls Try.prog 26 #[.pointer (some ⟨tb, 0, none⟩), actV x] w fun e w' => e = .returned (.tuple #[]) ∧ TabG w' tb mb dep (actN dep nxt L x) (rowG (actL dep nxt L x)) (N + 2) ∧ Kept (Off tb mb) w w' := by
  obtain ⟨op, a, n, off, bare⟩ := x
  unfold actV
  dsimp only at ha ⊢
  obtain ⟨W, hW⟩ : ∃ W, W = w.alloc (.cells #[.int .i64 op, .int .u64 (a : Int), .int .i64 n, .int .i64 off, .bool bare] 36) := ⟨_, rfl⟩
  have H1 : Hid (TabG W tb mb dep nxt (rowG L) N ∧ Kept (Off tb mb) w W) := by rw [hW]; exact ⟨h.alloc _, (Kept.refl _ _).alloc _⟩
  have Hc : Cells W w.heap.size 36 [.int .i64 op, .int .u64 (a : Int), .int .i64 n, .int .i64 off, .bool bare] := by rw [hW]; exact Cells.new _ _ _
  have k0 := Hc.cell (i := 0) rfl
  have k1 := Hc.cell (i := 1) rfl
  have k2 := Hc.cell (i := 2) rfl
  have k3 := Hc.cell (i := 3) rfl
  have k4 := Hc.cell (i := 4) rfl
  have HW := Lib.hid hW
  have Hrest : ¬ op = 1 → actN dep nxt L ⟨op, a, n, off, bare⟩ = nxt := fun q => by unfold actN; rw [if_neg q]
  clear hW Hc
  by_cases h1 : op = 1
  · subst h1
    obtain ⟨t, ht⟩ : ∃ t, t = tgtA ⟨1, a, n, off, bare⟩ := ⟨_, rfl⟩
    have ht64 : t < T64 := by rw [ht]; unfold tgtA; split; · unfold T64; omega
                              · exact ha
    have Hm := Lib.hid (make_any H1.out.1 ho hx hN n off ht64)
    have He : Hid (actN dep nxt L ⟨1, a, n, off, bare⟩ = mkN dep nxt L n t off ∧ actL dep nxt L ⟨1, a, n, off, bare⟩ = mkA dep nxt L n t off) := by rw [ht]; exact ⟨rfl, rfl⟩
    have hb : bare = true ∧ t = 0 ∨ bare = false ∧ t = a := by
      rw [ht]; unfold tgtA
      cases bare
      · exact .inr ⟨rfl, rfl⟩
      · exact .inl ⟨rfl, rfl⟩
    clear Hrest ht h ht64
    rcases hb with ⟨rfl, rfl⟩ | ⟨rfl, rfl⟩
    · go_enter Try.func26, Try.ntmps26
      go_wp2_with fail
      rw [← HW.out]
      go_wp2_with fail
      refine Hm.out.mono ?_
      rintro e w2 ⟨rfl, h2, q2⟩
      have H2 : Hid (TabG w2 tb mb dep (actN dep nxt L ⟨1, a, n, off, true⟩) (rowG (actL dep nxt L ⟨1, a, n, off, true⟩)) (N + 2) ∧ Kept (Off tb mb) w w2) := ⟨by rw [He.out.1, He.out.2]; exact h2, H1.out.2.trans q2⟩
      clear h2 q2
      go_wp2_with fail
      go_end0
      exact ⟨rfl, H2.out⟩
    · go_enter Try.func26, Try.ntmps26
      go_wp2_with fail
      rw [← HW.out]
      go_wp2_with fail
      refine Hm.out.mono ?_
      rintro e w2 ⟨rfl, h2, q2⟩
      have H2 : Hid (TabG w2 tb mb dep (actN dep nxt L ⟨1, t, n, off, false⟩) (rowG (actL dep nxt L ⟨1, t, n, off, false⟩)) (N + 2) ∧ Kept (Off tb mb) w w2) := ⟨by rw [He.out.1, He.out.2]; exact h2, H1.out.2.trans q2⟩
      clear h2 q2
      go_wp2_with fail
      go_end0
      exact ⟨rfl, H2.out⟩
  rw [Hrest h1]
  have n1 : (op == 1) = false := by simpa using h1
  by_cases h2 : op = 2
  · subst h2
    have Hm := Lib.hid (fix_any H1.out.1 (by omega) ha)
    have He : Hid (actL dep nxt L ⟨2, a, n, off, bare⟩ = fixL L a) := Lib.hid (by unfold actL; rw [if_neg (by show ¬ (2 : Int) = 1; decide)]; exact if_pos rfl)
    clear h h1 n1 Hrest
    go_enter Try.func26, Try.ntmps26
    go_wp2_with fail
    rw [← HW.out]
    go_wp2_with fail
    refine Hm.out.mono ?_
    rintro e w2 ⟨rfl, h2, q2⟩
    have H2 : Hid (TabG w2 tb mb dep nxt (rowG (actL dep nxt L ⟨2, a, n, off, bare⟩)) (N + 2) ∧ Kept (Off tb mb) w w2) := ⟨by rw [He.out]; exact h2, H1.out.2.trans q2⟩
    clear h2 q2
    go_wp2_with fail
    go_end0
    exact ⟨rfl, H2.out⟩
  have n2 : (op == 2) = false := by simpa using h2
  by_cases h3 : op = 3
  · subst h3
    have Hm := Lib.hid (res_any H1.out.1 ho (by omega) ha n)
    have He : Hid (actL dep nxt L ⟨3, a, n, off, bare⟩ = resA L a n) := Lib.hid (by unfold actL; rw [if_neg (by show ¬ (3 : Int) = 1; decide)]; rw [if_neg (by show ¬ (3 : Int) = 2; decide)]; exact if_pos rfl)
    clear h h1 n1 h2 n2 Hrest
    go_enter Try.func26, Try.ntmps26
    go_wp2_with fail
    rw [← HW.out]
    go_wp2_with fail
    refine Hm.out.mono ?_
    rintro e w2 ⟨rfl, h2, q2⟩
    have H2 : Hid (TabG w2 tb mb dep nxt (rowG (actL dep nxt L ⟨3, a, n, off, bare⟩)) (N + 2) ∧ Kept (Off tb mb) w w2) := ⟨by rw [He.out]; exact h2, H1.out.2.trans q2⟩
    clear h2 q2
    go_wp2_with fail
    go_end0
    exact ⟨rfl, H2.out⟩
  have n3 : (op == 3) = false := by simpa using h3
  by_cases h4 : op = 4
  · subst h4
    have Hm := Lib.hid (alone_any H1.out.1 ho (by omega) (by omega) ha)
    have He : Hid (actL dep nxt L ⟨4, a, n, off, bare⟩ = aloneL L a) := Lib.hid (by unfold actL; rw [if_neg (by show ¬ (4 : Int) = 1; decide)]; rw [if_neg (by show ¬ (4 : Int) = 2; decide)]; rw [if_neg (by show ¬ (4 : Int) = 3; decide)]; exact if_pos rfl)
    clear h h1 n1 h2 n2 h3 n3 Hrest
    go_enter Try.func26, Try.ntmps26
    go_wp2_with fail
    rw [← HW.out]
    go_wp2_with fail
    refine Hm.out.mono ?_
    rintro e w2 ⟨rfl, h2, q2⟩
    have H2 : Hid (TabG w2 tb mb dep nxt (rowG (actL dep nxt L ⟨4, a, n, off, bare⟩)) (N + 2) ∧ Kept (Off tb mb) w w2) := ⟨by rw [He.out]; exact h2, H1.out.2.trans q2⟩
    clear h2 q2
    go_wp2_with fail
    go_end0
    exact ⟨rfl, H2.out⟩
  have n4 : (op == 4) = false := by simpa using h4
  by_cases h5 : op = 5
  · subst h5
    have Hm := Lib.hid (drop_any H1.out.1 ho (by omega) (by omega) ha)
    have He : Hid (actL dep nxt L ⟨5, a, n, off, bare⟩ = dropA L a) := Lib.hid (by unfold actL; rw [if_neg (by show ¬ (5 : Int) = 1; decide)]; rw [if_neg (by show ¬ (5 : Int) = 2; decide)]; rw [if_neg (by show ¬ (5 : Int) = 3; decide)]; rw [if_neg (by show ¬ (5 : Int) = 4; decide)]; exact if_pos rfl)
    clear h h1 n1 h2 n2 h3 n3 h4 n4 Hrest
    go_enter Try.func26, Try.ntmps26
    go_wp2_with fail
    rw [← HW.out]
    go_wp2_with fail
    refine Hm.out.mono ?_
    rintro e w2 ⟨rfl, h2, q2⟩
    have H2 : Hid (TabG w2 tb mb dep nxt (rowG (actL dep nxt L ⟨5, a, n, off, bare⟩)) (N + 2) ∧ Kept (Off tb mb) w w2) := ⟨by rw [He.out]; exact h2, H1.out.2.trans q2⟩
    clear h2 q2
    go_wp2_with fail
    go_end0
    exact ⟨rfl, H2.out⟩
  have n5 : (op == 5) = false := by simpa using h5
  have He : Hid (actL dep nxt L ⟨op, a, n, off, bare⟩ = L) := Lib.hid (by unfold actL; rw [if_neg h1, if_neg h2, if_neg h3, if_neg h4, if_neg h5])
  clear h Hrest
  go_enter Try.func26, Try.ntmps26
  go_wp2_with fail
  rw [← HW.out]
  go_wp2_with fail
  go_end0
  exact ⟨rfl, by rw [He.out]; exact H1.out.1.mono (by omega), H1.out.2⟩
end
end Go.Proofs.Ytejimgjonhaocaa
