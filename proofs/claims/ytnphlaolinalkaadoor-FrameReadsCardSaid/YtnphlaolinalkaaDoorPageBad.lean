/-
  The program's writer of pages, where it answers an error; and all of it.
-/
import Derived.Test.YtnphlaolinalkaaDoorPage
namespace Go.Proofs.YtnphlaolinalkaaDoor
open Go.RowKit

set_option maxRecDepth 20000 in
set_option maxHeartbeats 400000 in
theorem page_bad1 (s row shard : Int) (seg sz : Int) (A : Option Addr) (n c : Nat) (w : World) (h : roomOf s = 0 ∨ row < 0 ∨ 1073741824 < row ∨ shard < 0 ∨ 255 < shard) :
    Calls Tryd.prog 32 #[.int .i64 s, .agg #[.int .u64 seg, .int .i64 row, .int .i64 shard, .int .i64 sz], .slice A n c] w
      fun e w' => e = .returned (.tuple #[.slice none 0 0, .int .i64 1]) ∧ Below w.heap.size w w' := by
  have hr : roomOf s = 0 ∨ ¬ roomOf s = 0 := by omega
  generalize hrm : roomOf s = rm at h hr
  have Hrm := Lib.hid hrm
  clear hrm
  rcases hr with h0 | h0
  · have hb0 : (rm == 0) = true := by simp [h0]
    clear h h0
    go_enter Tryd.func32, Tryd.ntmps32
    go_wp2_with (go_at_call 30; refine (room_any _ _).mono ?_; rw [Hrm.out]; rintro e w' ⟨rfl, rfl⟩)
    go_ret2
    exact ⟨rfl, (Below.refl _ _).alloc (Nat.le_refl _) _⟩
  · have hb0 : (rm == 0) = false := by simp [h0]
    have h1 : row < 0 ∨ (0 ≤ row ∧ (1073741824 < row ∨ (row ≤ 1073741824 ∧ (shard < 0 ∨ (0 ≤ shard ∧ 255 < shard))))) := by omega
    clear h h0
    rcases h1 with h1 | ⟨h1, h1 | ⟨h2, h1 | ⟨h3, h1⟩⟩⟩
    all_goals
      go_enter Tryd.func32, Tryd.ntmps32
      go_wp2_with (go_at_call 30; refine (room_any _ _).mono ?_; rw [Hrm.out]; rintro e w' ⟨rfl, rfl⟩)
      go_ret2
      exact ⟨rfl, (Below.refl _ _).alloc (Nat.le_refl _) _⟩

set_option maxRecDepth 20000 in
set_option maxHeartbeats 400000 in
theorem page_bad3 (s row shard : Int) (seg sz : Int) (A : Option Addr) (n c : Nat) (w : World) (h : ¬ (roomOf s = 0 ∨ row < 0 ∨ 1073741824 < row ∨ shard < 0 ∨ 255 < shard)) (hl : roomOf s < (n : Int)) :
    Calls Tryd.prog 32 #[.int .i64 s, .agg #[.int .u64 seg, .int .i64 row, .int .i64 shard, .int .i64 sz], .slice A n c] w
      fun e w' => e = .returned (.tuple #[.slice none 0 0, .int .i64 3]) ∧ Below w.heap.size w w' := by
  obtain ⟨h0, h1, h2, h3, h4⟩ : ¬ roomOf s = 0 ∧ 0 ≤ row ∧ row ≤ 1073741824 ∧ 0 ≤ shard ∧ shard ≤ 255 := by omega
  generalize hrm : roomOf s = rm at h h0 hl
  have Hrm := Lib.hid hrm
  have hb0 : (rm == 0) = false := by simp [h0]
  clear hrm h h0
  go_enter Tryd.func32, Tryd.ntmps32
  go_wp2_with (go_at_call 30; refine (room_any _ _).mono ?_; rw [Hrm.out]; rintro e w' ⟨rfl, rfl⟩)
  go_ret2
  exact ⟨rfl, (Below.refl _ _).alloc (Nat.le_refl _) _⟩

/-- what a page of such numbers holds: nothing where it is answered by an error -/
def pageOf (s row shard : Int) (seg : Nat) (x : List UInt8) : List UInt8 := if pageErr s row shard x.length = 0 then pageBytes s.toNat seg row.toNat shard.toNat x else []

theorem pageErr_none {s row shard : Int} {n : Nat} (h : pageErr s row shard n = 0) : n + 19 ≤ s.toNat ∧ s ≤ 65536 ∧ 32 ≤ s ∧ n ≤ 65535 ∧ 0 ≤ row ∧ row ≤ 1073741824 ∧ 0 ≤ shard ∧ shard ≤ 255 := by
  unfold pageErr at h
  split at h
  · omega
  · split at h
    · omega
    · have h3 : 32 ≤ s ∧ s ≤ 65536 ∧ roomOf s = if 65535 < s - 19 then 65535 else s - 19 := by
        by_cases hs : s < 32 ∨ 65536 < s
        · have : roomOf s = 0 := by unfold roomOf; rw [if_pos hs]
          omega
        · exact ⟨by omega, by omega, by unfold roomOf; rw [if_neg hs]⟩
      obtain ⟨h4, h5, h6⟩ := h3
      split at h6 <;> omega

theorem page_any (s row shard : Int) (seg : Nat) (sz : Int) (A : Option Addr) (c : Nat) (x : List UInt8) (w : World) (B : Nat) (ht : Tab w) (hr : RB w B A x) (hB : B ≤ w.heap.size) (hseg : seg < two64) (hc : x.length ≤ c) :
    Calls Tryd.prog 32 #[.int .i64 s, .agg #[.int .u64 (seg : Int), .int .i64 row, .int .i64 shard, .int .i64 sz], .slice A x.length c] w
      fun e w' => ∃ v, e = .returned (.tuple #[v, .int .i64 (pageErr s row shard x.length : Nat)]) ∧ Own w' w.heap.size v (pageOf s row shard seg x) ∧ Below w.heap.size w w' := by
  by_cases h1 : roomOf s = 0 ∨ row < 0 ∨ 1073741824 < row ∨ shard < 0 ∨ 255 < shard
  · have he : pageErr s row shard x.length = 1 := by unfold pageErr; rw [if_pos h1]
    unfold pageOf
    rw [he]
    exact (page_bad1 s row shard seg sz A x.length c w h1).mono fun e w' ⟨he, hb⟩ => ⟨_, he, Own.nil _ _, hb⟩
  · by_cases h3 : roomOf s < (x.length : Int)
    · have he : pageErr s row shard x.length = 3 := by unfold pageErr; rw [if_neg h1, if_pos h3]
      unfold pageOf
      rw [he]
      exact (page_bad3 s row shard seg sz A x.length c w h1 h3).mono fun e w' ⟨he, hb⟩ => ⟨_, he, Own.nil _ _, hb⟩
    · have he : pageErr s row shard x.length = 0 := by unfold pageErr; rw [if_neg h1, if_neg h3]
      obtain ⟨h0, hr0, hr1, hs0, hs1⟩ : ¬ roomOf s = 0 ∧ 0 ≤ row ∧ row ≤ 1073741824 ∧ 0 ≤ shard ∧ shard ≤ 255 := by omega
      have hs : 32 ≤ s ∧ s ≤ 65536 := by unfold roomOf at h0; split at h0 <;> omega
      unfold pageOf
      rw [he]
      obtain ⟨n, rfl⟩ := Int.eq_ofNat_of_zero_le (show 0 ≤ s by omega)
      obtain ⟨row, rfl⟩ := Int.eq_ofNat_of_zero_le hr0
      obtain ⟨shard, rfl⟩ := Int.eq_ofNat_of_zero_le hs0
      simp only [Int.toNat_natCast, if_true]
      exact page_ok n seg row shard sz A c x w B ht hr hB (by omega) (by omega) (by omega) (by omega) (by omega) hseg hc
end Go.Proofs.YtnphlaolinalkaaDoor
