/-
  How many bytes a page holds; new slices of noughts.
-/
import Derived.Test.YtnphlaolinalkaaDoorPut
namespace Go.Proofs.YtnphlaolinalkaaDoor
open Go.RowKit

/-- how many bytes of payload a page of s bytes holds -/
def roomOf (s : Int) : Int := if s < 32 ∨ 65536 < s then 0 else if 65535 < s - 19 then 65535 else s - 19

set_option maxHeartbeats 400000 in
theorem room_any (s : Int) (w : World) :
    Calls Tryd.prog 30 #[.int .i64 s] w fun e w' => e = .returned (.int .i64 (roomOf s)) ∧ w = w' := by
  by_cases h1 : s < 32
  · go_enter Tryd.func30, Tryd.ntmps30
    go_wp2
    go_ret
    exact ⟨by simp [roomOf, h1], rfl⟩
  · by_cases h2 : 65536 < s
    · go_enter Tryd.func30, Tryd.ntmps30
      go_wp2
      go_ret
      exact ⟨by simp [roomOf, h2], rfl⟩
    · have e : roomOf s = if 65535 < s - 19 then 65535 else s - 19 := by unfold roomOf; rw [if_neg (by omega)]
      have E := Lib.hid e
      clear e
      by_cases h3 : 65535 < s - 19
      · go_enter Tryd.func30, Tryd.ntmps30
        go_wp2
        go_ret
        exact ⟨by rw [E.out, if_pos h3]; rfl, rfl⟩
      · go_enter Tryd.func30, Tryd.ntmps30
        go_wp2
        go_ret
        exact ⟨by rw [E.out, if_neg (by omega)]; rfl, rfl⟩

set_option maxHeartbeats 400000 in
theorem refRoom_any (s : Int) (w : World) :
    Calls Tryd.prog 31 #[.int .i64 s] w fun e w' => e = .returned (.int .i64 (roomOf s)) ∧ w = w' := by
  by_cases h1 : s < 32
  · go_enter Tryd.func31, Tryd.ntmps31
    go_wp2
    go_ret
    exact ⟨by simp [roomOf, h1], rfl⟩
  · by_cases h2 : 65536 < s
    · go_enter Tryd.func31, Tryd.ntmps31
      go_wp2
      go_ret
      exact ⟨by simp [roomOf, h2], rfl⟩
    · have e : roomOf s = if 65535 < s - 19 then 65535 else s - 19 := by unfold roomOf; rw [if_neg (by omega)]
      have E := Lib.hid e
      clear e
      by_cases h3 : 65535 < s - 19
      · go_enter Tryd.func31, Tryd.ntmps31
        go_wp2
        go_ret
        exact ⟨by rw [E.out, if_pos h3]; rfl, rfl⟩
      · go_enter Tryd.func31, Tryd.ntmps31
        go_wp2
        go_ret
        exact ⟨by rw [E.out, if_neg (by omega)]; rfl, rfl⟩

/-- make([]byte, n): the block's cells behind a letter -/
theorem make_run (n : Nat) (hn : n ≤ 1099511627776) : ∃ cs : Array Value, Hid (cs = (bvs (List.replicate n 0)).toArray) ∧
    ∀ u : World, (Instr.makeSlice 24 (.int .i64 (n : Int)) (.int .i64 (n : Int))).run Tryd.prog u = .ok (.slice (some ⟨u.heap.size, 0, none⟩) n n) (u.alloc (.cells cs 5)) := by
  obtain ⟨i0, hi, hz0, hz1, hz2⟩ := info_parts info8
  refine ⟨_, rfl, fun u => ?_⟩
  have h := run_make (P := Tryd.prog) u 24 5 i0 (.int .u8 0) Tryd.underlying24 hi hz0 .i64 .i64 (n : Int) (n : Int) (by omega) (Int.le_refl _) (by rw [hz2]; omega) (by omega)
  rw [h]
  simp only [Int.toNat_natCast, hz1, Nat.mul_one]
  congr 3
  apply Array.toList_inj.1
  show (madeCells #[Value.int .u8 0] n).toList = _
  rw [toList_madeCells_one]
  simp [bvs, bv]
end Go.Proofs.YtnphlaolinalkaaDoor
