/-
  How many bytes a page holds; new slices of noughts.
-/
import Derived.Test.YtghcfmkmndldoaaPut
namespace Go.Proofs.Ytghcfmkmndldoaa
open Go.RowKit
set_option maxRecDepth 20000

/-- how many bytes of payload a page of s bytes holds -/
def roomOf (s : Int) : Int := if s < 32 ∨ 65536 < s then 0 else if 65535 < s - 19 then 65535 else s - 19

/-- make([]byte, n): the block's cells behind a letter -/
theorem make_run (n : Nat) (hn : n ≤ 1099511627776) : ∃ cs : Array Value, Hid (cs = (bvs (List.replicate n 0)).toArray) ∧
    ∀ u : World, (Instr.makeSlice 48 (.int .i64 (n : Int)) (.int .i64 (n : Int))).run Try.prog u = .ok (.slice (some ⟨u.heap.size, 0, none⟩) n n) (u.alloc (.cells cs 5)) := by
  obtain ⟨i0, hi, hz0, hz1, hz2⟩ := info_parts info8
  refine ⟨_, rfl, fun u => ?_⟩
  have h := run_make (P := Try.prog) u 48 5 i0 (.int .u8 0) Try.underlying48 hi hz0 .i64 .i64 (n : Int) (n : Int) (by omega) (Int.le_refl _) (by rw [hz2]; omega) (by omega)
  rw [h]
  simp only [Int.toNat_natCast, hz1, Nat.mul_one]
  congr 3
  apply Array.toList_inj.1
  show (madeCells #[Value.int .u8 0] n).toList = _
  rw [toList_madeCells_one]
  simp [bvs, bv]
end Go.Proofs.Ytghcfmkmndldoaa
