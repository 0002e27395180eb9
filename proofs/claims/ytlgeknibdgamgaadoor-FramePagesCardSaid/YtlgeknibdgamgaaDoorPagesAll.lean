/-
  FramePages, payloads of whatever length.
-/
import Derived.Test.YtlgeknibdgamgaaDoorPages
namespace Go.Proofs.YtlgeknibdgamgaaDoor
open Go.RowKit

set_option maxRecDepth 200000 in
set_option maxHeartbeats 400000 in
theorem pages_long (s : Int) (seg row shard sz : Int) (seg' row' shard' sz' : Int) (A : Option Addr) (n : Nat) (c : Nat) (A' : Option Addr) (m : Nat) (c' : Nat) (w : World) (ht : Tab w) (h : 65536 < n ∨ 65536 < m) :
    Calls Tryd.prog 9 #[.int .i64 s, .agg #[.int .u64 seg, .int .i64 row, .int .i64 shard, .int .i64 sz], .agg #[.int .u64 seg', .int .i64 row', .int .i64 shard', .int .i64 sz'], .slice A n c, .slice A' m c'] w
      fun e w' => e = .returned (.bool true) ∧ Below w.heap.size w w' := by
  have Ht := Lib.hid ht
  clear ht
  rcases (show 65536 < n ∨ (n ≤ 65536 ∧ 65536 < m) by omega) with h | ⟨h, h'⟩
  all_goals
    go_enter Tryd.func9, Tryd.ntmps9
    go_wp2_with fail
    have hb0 : Below w.heap.size w ((w.alloc (.cells #[.int .u64 seg, .int .i64 row, .int .i64 shard, .int .i64 sz] 47)).alloc (.cells #[.int .u64 seg', .int .i64 row', .int .i64 shard', .int .i64 sz'] 47)) :=
      ((Below.refl _ _).alloc (Nat.le_refl _) _).alloc (by simp) _
    generalize (w.alloc (.cells #[.int .u64 seg, .int .i64 row, .int .i64 shard, .int .i64 sz] 47)).alloc (.cells #[.int .u64 seg', .int .i64 row', .int .i64 shard', .int .i64 sz'] 47) = W0 at hb0 ⊢
    refine (known_any W0 (Ht.out.below hb0 Ht.out.pos)).mono ?_
    rintro e W1 ⟨rfl, hb1⟩
    have Hend : Hid (Below w.heap.size w W1) := hb0.trans (hb1.mono hb0.size)
    clear hb0 hb1
    go_wp2_with fail
    go_ret
    exact ⟨rfl, Hend.out⟩

theorem pages_any (s : Int) (seg : Nat) (row shard sz : Int) (seg' : Nat) (row' shard' sz' : Int) (A : Option Addr) (x : List UInt8) (c : Nat) (A' : Option Addr) (y : List UInt8) (c' : Nat) (w : World) (ht : Tab w)
    (hr : RB w w.heap.size A x) (hr' : RB w w.heap.size A' y) (hc : x.length ≤ c) (hc' : y.length ≤ c') (hseg : seg < two64) (hseg' : seg' < two64) :
    Calls Tryd.prog 9 #[.int .i64 s, .agg #[.int .u64 (seg : Int), .int .i64 row, .int .i64 shard, .int .i64 sz], .agg #[.int .u64 (seg' : Int), .int .i64 row', .int .i64 shard', .int .i64 sz'], .slice A x.length c, .slice A' y.length c'] w
      fun e w' => e = .returned (.bool true) ∧ Below w.heap.size w w' := by
  by_cases h : 65536 < x.length ∨ 65536 < y.length
  · exact pages_long s seg row shard sz seg' row' shard' sz' A x.length c A' y.length c' w ht h
  · exact pages_walk s seg row shard sz seg' row' shard' sz' A x c A' y c' w ht hr hr' hc hc' hseg hseg' (by omega) (by omega)
end Go.Proofs.YtlgeknibdgamgaaDoor
