/-
  The program's writer of numbers.
-/
import Derived.Test.YtlgeknibdgamgaaDoorRoom
namespace Go.Proofs.YtlgeknibdgamgaaDoor
open Go.RowKit

/-- make([]byte, 0, n): the block's cells behind a letter -/
theorem make_cap (n : Nat) (hn : n ≤ 2199023255552) : ∃ cs : Array Value, (∀ (u : World) (base : Nat), base ≤ u.heap.size → Own (u.alloc (.cells cs 5)) base (.slice (some ⟨u.heap.size, 0, none⟩) 0 n) []) ∧
    ∀ u : World, (Instr.makeSlice 24 (.int .i64 0) (.int .i64 (n : Int))).run Tryd.prog u = .ok (.slice (some ⟨u.heap.size, 0, none⟩) 0 n) (u.alloc (.cells cs 5)) := by
  obtain ⟨i0, hi, hz0, hz1, hz2⟩ := info_parts info8
  refine ⟨madeCells #[Value.int .u8 0] n, fun u base hb => World.ownsRow_made u _ n hb (by simp only [maxLen]; omega) (by rw [size_madeCells]; omega), fun u => ?_⟩
  have h := run_make (P := Tryd.prog) u 24 5 i0 (.int .u8 0) Tryd.underlying24 hi hz0 .i64 .i64 0 (n : Int) (by omega) (by omega) (by rw [hz2]; omega) (by omega)
  rw [h]
  simp only [Int.toNat_natCast, hz1, Nat.mul_one]
  rfl

set_option maxRecDepth 20000 in
set_option maxHeartbeats 400000 in
theorem number_any (A : Option Addr) (c : Nat) (l : List UInt8) (v : Nat) (w : World) (B : Nat) (hr : RB w B A l) (hB : B ≤ w.heap.size) (hl : l.length ≤ 1099511627776) (hv : v < two64) :
    Calls Tryd.prog 24 #[.slice A l.length c, .int .u64 (v : Int)] w fun e w' => ∃ b', e = .returned b' ∧ Own w' w.heap.size b' (l ++ numBytes v) ∧ Below w.heap.size w w' := by
  obtain ⟨cs, hown, hmk⟩ := make_cap (l.length + 10) (by omega)
  have hmk' : ∀ u : World, (Instr.makeSlice 24 (.int .i64 0) (.int .i64 ((l.length : Int) + 10))).run Tryd.prog u = .ok (.slice (some ⟨u.heap.size, 0, none⟩) 0 (l.length + 10)) (u.alloc (.cells cs 5)) := hmk
  have Hr := Lib.hid hr
  have HB := Lib.hid hB
  have Hl := Lib.hid hl
  have Hv := Lib.hid hv
  have Hown := Lib.hid hown
  have Hlen : Hid (([] : List UInt8).length + l.length ≤ 140737488355327) := by show _ ≤ _; simp; omega
  clear hr hB hv hown hmk
  go_enter Tryd.func24, Tryd.ntmps24
  go_wp2_with (at_builtin; refine app_bytes rfl (.tmp 10) (.tmp 11) rfl w.heap.size _ [] rfl (Hown.out w _ (Nat.le_refl _)) _ A l.length c l rfl rfl (Hr.out.alloc HB.out _) Hlen.out (by simp) ?_; intro v1 w1 hown1 hbel1 _)
  have Hown1 := Lib.hid hown1
  have Hbel1 := Lib.hid hbel1
  clear hown1 hbel1 hmk'
  go_wp2_with fail
  refine (add_any w.heap.size v1 _ v _ Hv.out Hown1.out (Nat.le_trans (by simp) Hbel1.out.size) (by have := Hl.out; simpa using this)).mono ?_
  rintro e w2 ⟨b', rfl, hown2, hbel2⟩
  have hb := (((Below.refl w.heap.size w).alloc (Nat.le_refl _) (.cells cs 5)).trans Hbel1.out).trans hbel2
  clear hbel2
  go_wp2_with fail
  go_ret
  exact ⟨b', rfl, by simpa using hown2, hb⟩
end Go.Proofs.YtlgeknibdgamgaaDoor
