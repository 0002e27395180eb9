/-
  Keys written by the program (the part of XNKey that this seat has).
-/
import Derived.Test.YtncaaiaffioegaaDoorNMark
import Derived.Test.YtncaaiaffioegaaDoorNLib
import Derived.Test.YtncaaiaffioegaaDoorNKeyMath
namespace Go.Proofs.YtncaaiaffioegaaDoor
open Go.RowKit

/-- what the byte of a key tells the walk -/
theorem key_facts (n k : Nat) (hk : k < 8) : ∃ y : Nat, (n : Int) / 2 ^ (56 - 8 * k) % 256 = (y : Int) ∧ Hid ([Value.int .u8 (y : Int)] = bvs [UInt8.ofNat (n / 256 ^ (7 - k))]) ∧ (y : Int) < 256 := by
  refine ⟨(n / 256 ^ (7 - k)) % 256, ?_, ?_, by omega⟩
  · have e : (256 : Nat) ^ (7 - k) = 2 ^ (56 - 8 * k) := by rw [show 56 - 8 * k = 8 * (7 - k) by omega, Nat.pow_mul]
    rw [e]
    simp
  · show _ = _
    simp [bvs, bv]

set_option maxRecDepth 20000 in
set_option maxHeartbeats 400000 in
theorem key_any (s : ByteArray) (n : Nat) (w : World) (hs : s.size ≤ 1099511627776) :
    Calls Tryd.prog 10 #[.string s, .int .u64 (n : Int)] w fun e w' => e = .returned (.string ⟨(keyL s.data.toList n).toArray⟩) ∧ Below w.heap.size w w' := by
  obtain ⟨cs, hown, hmk⟩ := make_cap (s.size + 9) (by omega)
  have hmk' : ∀ u : World, (Instr.makeSlice 36 (.int .i64 0) (.int .i64 ((s.size : Int) + 9))).run Tryd.prog u = .ok (.slice (some ⟨u.heap.size, 0, none⟩) 0 (s.size + 9)) (u.alloc (.cells cs 5)) := hmk
  have Hown := Lib.hid hown
  have Hsl : Hid (s.data.toList.length = s.size) := by show _ = _; rfl
  have Hl0 : Hid (([] : List UInt8).length + s.size ≤ 140737488355327) := by show _ ≤ _; simp; omega
  have hs' : (s.size : Int) ≤ 1099511627776 := by omega
  clear hown hmk
  go_enter Tryd.func10, Tryd.ntmps10
  go_upto_region 3 with (at_builtin; refine app_text rfl (.tmp 11) (.tmp 12) rfl w.heap.size _ [] rfl (Hown.out w _ (Nat.le_refl _)) s rfl Hl0.out (by simp) ?_; intro v1 w1 hown1 hbel1)
  have Hown1 : Hid (Own w1 w.heap.size v1 s.data.toList) := hown1
  have Hbel1 : Hid (Below w.heap.size w w1) := ((Below.refl _ _).alloc (Nat.le_refl _) _).trans hbel1
  have Hsz1 := Lib.hid Hbel1.out.size
  have Hl1 : Hid (s.data.toList.length + 1 ≤ 140737488355327) := by show _ ≤ _; rw [Hsl.out]; omega
  have Hz : Hid ([Value.int .u8 0] = bvs [(0 : UInt8)]) := rfl
  clear hown1 hbel1
  go_wp2_with (at_builtin; refine app_bytes rfl (.tmp 14) (.tmp 15) rfl w.heap.size _ _ rfl (Own.alloc Hown1.out _) _ _ 1 1 [(0 : UInt8)] rfl rfl (RB.new _ _ _ _ Hz.out) Hl1.out (Nat.le_trans Hsz1.out (by simp)) ?_; intro v2 w2 hown2 hbel2 _)
  have Hown2 : Hid (Own w2 w.heap.size v2 (s.data.toList ++ [0] ++ beK n 0)) := by show Own _ _ _ _; rw [show beK n 0 = [] from rfl, List.append_nil]; exact hown2
  have Hbel2 : Hid (Below w.heap.size w w2) := (Hbel1.out.alloc Hsz1.out _).trans hbel2
  clear hown2 hbel2
  go_loopw [5, 6] (fun d i wr => ∃ k : Nat, k ≤ 8 ∧ i = .int .i64 (56 - 8 * (k : Int)) ∧ Hid (Own wr w.heap.size d (s.data.toList ++ [0] ++ beK n k)) ∧ Hid (Below w.heap.size w wr)) (fun _ i _ => (intOf i + 8).toNat)
  case atStart => exact ⟨0, by omega, rfl, Hown2, Hbel2⟩
  case round =>
    obtain ⟨k, hk, rfl, hown, hbel⟩ := hrel
    have Hs : Hid (w.heap.size ≤ wr.heap.size) := hbel.out.size
    by_cases hk8 : k < 8
    · obtain ⟨y, hy, Hy, hy2⟩ := key_facts n k hk8
      have hsh : (56 - 8 * (k : Int)).toNat = 56 - 8 * k := by omega
      have h0 : (0 : Int) ≤ 56 - 8 * (k : Int) := by omega
      have Hr : Hid ((s.data.toList ++ [0] ++ beK n k).length + 1 ≤ 140737488355327) := by show _ ≤ _; rw [List.length_append, List.length_append, beK_length, Hsl.out]; simp; omega
      go_wp2_with (at_builtin; refine app_bytes rfl (.tmp 21) (.tmp 26) rfl w.heap.size _ _ rfl (Own.alloc hown.out _) _ _ 1 1 [UInt8.ofNat (n / 256 ^ (7 - k))] rfl rfl (RB.new _ _ _ _ Hy.out) Hr.out (Nat.le_trans Hs.out (by simp)) ?_; intro v3 w3 hown3 hbel3 _)
      exact ⟨⟨k + 1, by omega, by congr 1; omega, by
          show Own _ _ _ _
          rw [beK_succ, ← List.append_assoc]
          exact hown3, (hbel.out.alloc Hs.out _).trans hbel3⟩, by simp [intOf]; omega⟩
    · obtain rfl : k = 8 := by omega
      have Hk : Hid (keyL s.data.toList n = s.data.toList ++ [0] ++ beK n 8) := rfl
      generalize s.data.toList ++ [0] ++ beK n 8 = body at hown Hk
      obtain ⟨A, c, rfl, _, hrb, _⟩ := hown.out.rb
      have hcv := text_run wr _ A _ c hrb
      clear hrb
      go_wp2_with fail
      go_ret
      exact ⟨by rw [Hk.out]; rfl, hbel.out⟩

end Go.Proofs.YtncaaiaffioegaaDoor
