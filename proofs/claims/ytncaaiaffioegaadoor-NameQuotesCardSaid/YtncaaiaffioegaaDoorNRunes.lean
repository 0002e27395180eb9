/-
  How many runes a text has; is a rune torn; a text's runes, by the program.
-/
import Derived.Test.YtncaaiaffioegaaDoorNLib
namespace Go.Proofs.YtncaaiaffioegaaDoor
open Go.RowKit

set_option maxRecDepth 20000 in
set_option maxHeartbeats 400000 in
theorem runeCount_any (s : ByteArray) (w : World) (hs : s.size ≤ 1099511627776) :
    Calls Tryd.prog 33 #[.string s] w fun e w' => ∃ n : Nat, e = .returned (.int .i64 (n : Int)) ∧ n ≤ s.size ∧ Below w.heap.size w w' := by
  go_enter Tryd.func33, Tryd.ntmps33
  go_wp2_with fail
  go_loopw [2] (fun d wr => ∃ pos n : Nat, pos ≤ s.size ∧ n ≤ pos ∧ d = .int .i64 (n : Int) ∧ Hid (wr.heap[w.heap.size]? = some (.stringIter s pos)) ∧ Hid (Below w.heap.size w wr)) (fun _ wr => s.size - wr.iterPos w.heap.size)
  case atStart => exact ⟨0, 0, Nat.zero_le _, Nat.le_refl _, rfl, World.iter_heap w s 0, (Below.refl _ w).alloc (Nat.le_refl _) _⟩
  case round =>
    obtain ⟨pos, n, hpos, hn, rfl, hit, hbel⟩ := hrel
    by_cases hp : pos < s.size
    · have hnx := fun ty => next_at hit.out hp ty
      have hdl := dec_le _ (drop_ne (show pos < s.data.toList.length from hp))
      rw [List.length_drop, show s.data.toList.length = s.size from rfl] at hdl
      have hdp := dec_pos (s.data.toList.drop pos)
      generalize dec (s.data.toList.drop pos) = d at hnx hdl hdp
      obtain ⟨r, k⟩ := d
      dsimp only at hnx hdl hdp
      have Hit2 := Lib.hid (Lib.iterAt_heap wr w.heap.size s pos (pos + k) hit.out)
      have Hbel2 : Hid (Below w.heap.size w (wr.iterAt w.heap.size s (pos + k))) := Lib.below_iterAt hbel.out (Nat.le_refl _) s (pos + k)
      go_wp2_with fail
      go_roundw
      case rel => exact ⟨pos + k, n + 1, by omega, by omega, by go_num, Hit2.out, Hbel2.out⟩
      case measure =>
        rw [iterPos_of Hit2.out, iterPos_of hit.out]
        omega
    · have hnx : ∀ ty, (Instr.next (.pointer (some ⟨w.heap.size, 0, none⟩)) true ty).run Tryd.prog wr = .ok (.tuple #[.bool false]) wr := fun ty => Lib.run_next_end_at wr w.heap.size s pos ty hit.out hp
      go_wp2_with fail
      go_ret
      exact ⟨n, rfl, by omega, hbel.out⟩

/-- is the rune at the front of a text one that stands for a byte of none? -/
theorem torn_facts (l : List UInt8) (h : l ≠ []) : (decide ((dec l).1 = 65533) && !Lib.hasPrefix l [239, 191, 189]) = ((one l).2 == 0) := by
  by_cases h0 : (one l).2 = 0
  · have e : (dec l).1 = 65533 := by simp [dec, h0]
    have hp : Lib.hasPrefix l [239, 191, 189] = false := by
      rw [Bool.eq_false_iff]
      intro hp
      unfold Lib.hasPrefix at hp
      rw [List.isPrefixOf_iff_prefix] at hp
      obtain ⟨r, rfl⟩ := hp
      have : one ([239, 191, 189] ++ r) = (65533, 3) := by
        simp [one, at0, cont, v3, List.getD]
      rw [this] at h0
      cases h0
    simp [e, hp, h0]
  · have e : dec l = one l := by simp [dec, h0]
    have hf : ((one l).2 == 0) = false := by simp [h0]
    rw [e, hf]
    by_cases h1 : (one l).1 = 65533
    · have he := encode_one l h0
      rw [h1] at he
      have hp : Lib.hasPrefix l [239, 191, 189] = true := by
        unfold Lib.hasPrefix
        rw [List.isPrefixOf_iff_prefix]
        have : (Lib.encodeRune ((65533 : Nat) : Int)) = [239, 191, 189] := by decide
        rw [← this, he]
        exact List.take_prefix _ _
      simp [hp]
    · simp [h1]

set_option maxRecDepth 20000 in
set_option maxHeartbeats 400000 in
theorem torn_any (s : ByteArray) (r : Nat) (w : World) (hs : s.size ≤ 1099511627776) (hr : r = (dec s.data.toList).1) (h : s.data.toList ≠ []) :
    Calls Tryd.prog 16 #[.string s, .int .i32 (r : Int)] w fun e w' => e = .returned (.bool ((one s.data.toList).2 == 0)) ∧ w = w' := by
  have Ht := Lib.hid (torn_facts s.data.toList h)
  have Hp := Lib.hid (prefix_any s ⟨#[239, 191, 189]⟩ w hs (by show 3 ≤ _; omega))
  rw [← hr] at Ht
  clear hr h
  by_cases hr : r = 65533
  · subst hr
    go_enter Tryd.func16, Tryd.ntmps16
    go_wp2_with fail
    refine Hp.out.mono ?_
    rintro e w' ⟨rfl, rfl⟩
    go_wp2_with fail
    go_ret
    exact ⟨by rw [← Ht.out]; simp, rfl⟩
  · have hb0 : ((r : Int) == 65533) = false := by simp; omega
    have Hres : Hid (((one s.data.toList).2 == 0) = false) := by show _ = _; rw [← Ht.out]; simp [hr]
    clear hr Ht
    go_enter Tryd.func16, Tryd.ntmps16
    go_wp2_with fail
    go_ret
    exact ⟨by rw [Hres.out]; rfl, rfl⟩
end Go.Proofs.YtncaaiaffioegaaDoor
