/-
  What both sayings answer alike: Heads, Pages, Where, Span.
-/
import Derived.Test.YtlficcdbnmheeaaDoorKSg2
import Derived.Test.YtlficcdbnmheeaaDoorKSg23
import Derived.Test.YtlficcdbnmheeaaDoorKSg11
namespace Go.Proofs.YtlficcdbnmheeaaDoor
open Go.RowKit Go.Sort Go.Lib

theorem heads_both (K P G : Int) (id : Nat) (hid : id < two64) : ∃ (M : Mtx) (f : Int), M.length ≤ 64 ∧
    (∀ w, Tab w → Calls Tryd.prog 18 #[shV K P G, .int .u64 (id : Int)] w fun e w' => ∃ A c, e = .returned (.tuple #[.slice A M.length c, .int .i64 f]) ∧ RM w' w'.heap.size A M ∧ Below w.heap.size w w') ∧
    (∀ w, Calls Tryd.prog 19 #[shV K P G, .int .u64 (id : Int)] w fun e w' => ∃ A c, e = .returned (.tuple #[.slice A M.length c, .int .i64 f]) ∧ RM w' w'.heap.size A M ∧ Below w.heap.size w w') := by
  rcases hok : okS K P G with _ | _
  · refine ⟨[], 1, by simp, fun w _ => (heads_bad K P G id hok w).mono ?_, fun w => (rheads_bad K P G id hok w).mono ?_⟩
    all_goals
      rintro e w' ⟨he, hg⟩
      exact ⟨none, 0, he, RM.nil _ _ _, hg.below⟩
  · obtain ⟨h1, h2, h3, h4, h5, h6, h7, h8⟩ := okS_facts hok
    obtain ⟨k, rfl⟩ : ∃ k : Nat, K = (k : Int) := ⟨K.toNat, by omega⟩
    obtain ⟨p, rfl⟩ : ∃ p : Nat, P = (p : Int) := ⟨P.toNat, by omega⟩
    obtain ⟨g, rfl⟩ : ∃ g : Nat, G = (g : Int) := ⟨G.toNat, by omega⟩
    have hl : (pageM g 0 id (headM k p g)).length = k + 2 := by rw [pageM_len, headM_len]
    refine ⟨pageM g 0 id (headM k p g), 0, by rw [hl]; omega, fun w hT => (heads_ok k p g id hok w hT hid).mono ?_, fun w => (rheads_ok k p g id hok w hid).mono ?_⟩
    · rintro e w' ⟨h, he, hr, hb⟩
      rw [hl]
      exact ⟨_, _, he, hr.rm, hb⟩
    · rintro e w' ⟨A, c, he, hr, hb⟩
      rw [hl]
      exact ⟨_, _, he, hr, hb⟩
theorem pages_both (K P G row : Int) (id : Nat) (d : List UInt8) (hid : id < two64) : ∃ (M : Mtx) (f : Int), M.length ≤ 64 ∧
    (∀ (w : World) (A : Option Addr) (cp : Nat), Tab w → RB w w.heap.size A d → d.length ≤ cp → Calls Tryd.prog 21 #[shV K P G, .int .u64 (id : Int), .int .i64 row, .slice A d.length cp] w fun e w' => ∃ A c, e = .returned (.tuple #[.slice A M.length c, .int .i64 f]) ∧ RM w' w'.heap.size A M ∧ Below w.heap.size w w') ∧
    (∀ (w : World) (A : Option Addr) (cp : Nat), RB w w.heap.size A d → Calls Tryd.prog 22 #[shV K P G, .int .u64 (id : Int), .int .i64 row, .slice A d.length cp] w fun e w' => ∃ A c, e = .returned (.tuple #[.slice A M.length c, .int .i64 f]) ∧ RM w' w'.heap.size A M ∧ Below w.heap.size w w') := by
  have bad : ∀ E : Int, (((okS K P G = false ∨ row < 1 ∨ P ≤ row) ∧ E = 1) ∨ (okS K P G = true ∧ 1 ≤ row ∧ row < P ∧ rowS K P G < (d.length : Int) ∧ E = 3)) → ∃ (M : Mtx) (f : Int), M.length ≤ 64 ∧
    (∀ (w : World) (A : Option Addr) (cp : Nat), Tab w → RB w w.heap.size A d → d.length ≤ cp → Calls Tryd.prog 21 #[shV K P G, .int .u64 (id : Int), .int .i64 row, .slice A d.length cp] w fun e w' => ∃ A c, e = .returned (.tuple #[.slice A M.length c, .int .i64 f]) ∧ RM w' w'.heap.size A M ∧ Below w.heap.size w w') ∧
    (∀ (w : World) (A : Option Addr) (cp : Nat), RB w w.heap.size A d → Calls Tryd.prog 22 #[shV K P G, .int .u64 (id : Int), .int .i64 row, .slice A d.length cp] w fun e w' => ∃ A c, e = .returned (.tuple #[.slice A M.length c, .int .i64 f]) ∧ RM w' w'.heap.size A M ∧ Below w.heap.size w w') := fun E hE => by
    refine ⟨[], E, by simp, fun w A cp _ _ _ => (pages_bad K P G row id d.length cp A E hE w).mono ?_, fun w A cp _ => (rpages_bad K P G row id d.length cp A E hE w).mono ?_⟩
    all_goals
      rintro e w' ⟨he, hg⟩
      exact ⟨none, 0, he, RM.nil _ _ _, hg.below⟩
  rcases hok : okS K P G with _ | _
  · exact bad 1 (.inl ⟨.inl hok, rfl⟩)
  by_cases h9 : row < 1 ∨ P ≤ row
  · exact bad 1 (.inl ⟨.inr h9, rfl⟩)
  by_cases h10 : rowS K P G < (d.length : Int)
  · exact bad 3 (.inr ⟨hok, by omega, by omega, h10, rfl⟩)
  obtain ⟨h1, h2, h3, h4, h5, h6, h7, h8⟩ := okS_facts hok
  obtain ⟨k, rfl⟩ : ∃ k : Nat, K = (k : Int) := ⟨K.toNat, by omega⟩
  obtain ⟨c, hcG⟩ : ∃ c : Nat, roomOf G = (c : Int) := ⟨(roomOf G).toNat, by omega⟩
  have hrv : rowS k P G = ((k * c : Nat) : Int) := by rw [rowS_ok hok, hcG]; simp
  rw [hrv] at h10
  have hd : d.length ≤ k * c := by omega
  have hl : (pageM G row id (rowM k c d)).length = k + 2 := by rw [pageM_len, rowM_len (by omega) (by omega) hd]
  refine ⟨pageM G row id (rowM k c d), 0, by rw [hl]; omega, fun w A cp hT hr hc => (pages_ok k c cp P G row id A d hok hcG (by omega) hr hd hc hT hid).mono ?_, fun w A cp hr => (rpages_ok k c cp P G row id A d w hok hcG (by omega) hr hd hid).mono ?_⟩
  · rintro e w' ⟨h, he, hr, hb⟩
    rw [hl]
    exact ⟨_, _, he, hr.rm, hb⟩
  · rintro e w' ⟨A, c, he, hr, hb⟩
    rw [hl]
    exact ⟨_, _, he, hr, hb⟩
theorem where_both (K P G a : Int) (hP : -9223372036854775808 ≤ P ∧ P ≤ 9223372036854775807) : ∃ x y z f : Int,
    (∀ w, Calls Tryd.prog 23 #[shV K P G, .int .i64 a] w fun e w' => e = .returned (.tuple #[.int .i64 x, .int .i64 y, .int .i64 z, .int .i64 f]) ∧ Gr w w') ∧
    (∀ w, Calls Tryd.prog 24 #[shV K P G, .int .i64 a] w fun e w' => e = .returned (.tuple #[.int .i64 x, .int .i64 y, .int .i64 z, .int .i64 f]) ∧ Gr w w') := by
  by_cases hb : okS K P G = false ∨ a < 0 ∨ roomS K P G ≤ a
  · exact ⟨0, 0, 0, 1, fun w => where_bad K P G a hP hb w, fun w => rwhere_bad K P G a hP hb w⟩
  · have hok : okS K P G = true := by
      rcases hq : okS K P G with _ | _
      · exact absurd (.inl hq) hb
      · rfl
    obtain ⟨h1, h2, h3, h4, h5, h6, h7, h8⟩ := okS_facts hok
    obtain ⟨k, rfl⟩ : ∃ k : Nat, K = (k : Int) := ⟨K.toNat, by omega⟩
    obtain ⟨c, hcG⟩ : ∃ c : Nat, roomOf G = (c : Int) := ⟨(roomOf G).toNat, by omega⟩
    have ha : 0 ≤ a ∧ a < roomS k P G := ⟨by
      apply Int.not_lt.1
      exact fun q => hb (.inr (.inl q)), by
      apply Int.not_le.1
      exact fun q => hb (.inr (.inr q))⟩
    obtain ⟨a, rfl⟩ : ∃ n : Nat, a = (n : Int) := ⟨a.toNat, by omega⟩
    exact ⟨_, _, _, _, fun w => where_ok k c P G hok hcG a ha.2 w, fun w => rwhere_ok k c P G hok hcG a ha.2 w⟩
theorem span_both (K P G a n : Int) (hP : -9223372036854775808 ≤ P ∧ P ≤ 9223372036854775807) (hA : -9223372036854775808 ≤ a ∧ a ≤ 9223372036854775807) : ∃ x y f : Int,
    (∀ w, Calls Tryd.prog 25 #[shV K P G, .int .i64 a, .int .i64 n] w fun e w' => e = .returned (.tuple #[.int .i64 x, .int .i64 y, .int .i64 f]) ∧ Gr w w') ∧
    (∀ w, Calls Tryd.prog 26 #[shV K P G, .int .i64 a, .int .i64 n] w fun e w' => e = .returned (.tuple #[.int .i64 x, .int .i64 y, .int .i64 f]) ∧ Gr w w') := by
  by_cases hb : okS K P G = false ∨ n < 1 ∨ a < 0 ∨ roomS K P G - a < n
  · exact ⟨0, 0, 1, fun w => span_bad K P G a n hA hP hb w, fun w => rspan_bad K P G a n hA hP hb w⟩
  · have hok : okS K P G = true := by
      rcases hq : okS K P G with _ | _
      · exact absurd (.inl hq) hb
      · rfl
    obtain ⟨h1, h2, h3, h4, h5, h6, h7, h8⟩ := okS_facts hok
    obtain ⟨k, rfl⟩ : ∃ k : Nat, K = (k : Int) := ⟨K.toNat, by omega⟩
    obtain ⟨c, hcG⟩ : ∃ c : Nat, roomOf G = (c : Int) := ⟨(roomOf G).toNat, by omega⟩
    have hb' : ¬ (n < 1 ∨ a < 0 ∨ roomS k P G - a < n) := fun q => hb (.inr q)
    generalize hRR : roomS (k : Int) P G = RR at hb'
    obtain ⟨a, rfl⟩ : ∃ m : Nat, a = (m : Int) := ⟨a.toNat, by omega⟩
    obtain ⟨n, rfl⟩ : ∃ m : Nat, n = (m : Int) := ⟨n.toNat, by omega⟩
    have hle : (a : Int) + (n : Int) ≤ roomS k P G := by rw [hRR]; omega
    exact ⟨_, _, _, fun w => span_ok k c P G hok hcG a n (by omega) hle w, fun w => rspan_ok k c P G hok hcG a n (by omega) hle w⟩
end Go.Proofs.YtlficcdbnmheeaaDoor
