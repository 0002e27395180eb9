/-
  What the program lays behind bytes of its own: two digits, a rune.
-/
import Derived.Test.YtncaaiaffioegaaDoorNRunes2
import Derived.Test.YtncaaiaffioegaaDoorAppStep
namespace Go.Proofs.YtncaaiaffioegaaDoor
open Go.RowKit

/-- a digit of sixteen, as the program's table of them tells -/
theorem hex_at (n : Nat) (h : n < 16) (w : World) : (Instr.index 9 (.string ⟨#[48, 49, 50, 51, 52, 53, 54, 55, 56, 57, 97, 98, 99, 100, 101, 102]⟩) (.int .u8 (n : Int))).run Tryd.prog w = .ok (.int .u8 ((hexd n).toNat : Int)) w := by
  rw [run_index_string w 9 _ .u8 (n : Int) Tryd.underlying9, dif_pos ⟨by omega, by show (n : Int) < 16; omega⟩]
  have : n = 0 ∨ n = 1 ∨ n = 2 ∨ n = 3 ∨ n = 4 ∨ n = 5 ∨ n = 6 ∨ n = 7 ∨ n = 8 ∨ n = 9 ∨ n = 10 ∨ n = 11 ∨ n = 12 ∨ n = 13 ∨ n = 14 ∨ n = 15 := by omega
  rcases this with rfl | rfl | rfl | rfl | rfl | rfl | rfl | rfl | rfl | rfl | rfl | rfl | rfl | rfl | rfl | rfl <;> rfl

set_option maxRecDepth 200000 in
set_option maxHeartbeats 400000 in
theorem addHex_any (v : Value) (base : Nat) (l : List UInt8) (x : UInt8) (w : World) (hown : Own w base v l) (hb : base ≤ w.heap.size) (hl : l.length ≤ 1099511627776) :
    Calls Tryd.prog 17 #[v, .int .u8 (x.toNat : Int)] w fun e w' => ∃ v', e = .returned v' ∧ Own w' base v' (l ++ qhex x) ∧ Below base w w' ∧ Lib.OthersKept 5 none w w' := by
  have hx := x.toNat_lt
  have h1 := fun W => hex_at (x.toNat / 16) (by omega) W
  have h2 := fun W => hex_at (x.toNat % 16) (by omega) W
  have Hown := Lib.hid hown
  have hand : bits .and .u8 (x.toNat : Int) 15 = ((x.toNat % 16 : Nat) : Int) := by
    have := u8_and_nat x.toNat 15 (by omega) (by omega)
    rw [show x.toNat &&& 15 = x.toNat % 16 from Nat.and_two_pow_sub_one_eq_mod x.toNat 4] at this
    exact this
  have Hq : Hid ([Value.int .u8 92, .int .u8 120, .int .u8 ((hexd (x.toNat / 16)).toNat : Int), .int .u8 ((hexd (x.toNat % 16)).toNat : Int)] = bvs (qhex x)) := by
    show _ = _
    simp [bvs, qhex, bv]
  have Hql : Hid ((qhex x).length = 4) := by show _ = _; rfl
  have Hlq : Hid (l.length + (qhex x).length ≤ 140737488355327) := by show _ + 4 ≤ _; omega
  generalize qhex x = q at Hq Hql Hlq ⊢
  have hd1 : ((x.toNat : Int) / 16) = ((x.toNat / 16 : Nat) : Int) := by omega
  generalize (hexd (x.toNat / 16)).toNat = y1 at h1 Hq
  generalize (hexd (x.toNat % 16)).toNat = y2 at h2 Hq
  generalize x.toNat / 16 = n1 at h1 hd1
  generalize x.toNat % 16 = n2 at h2 hand
  generalize x.toNat = n at hd1 hand ⊢
  clear hown
  go_enter Tryd.func17, Tryd.ntmps17
  go_wp2_with fail
  go_region_law (first | (go_must (refine step_app_bytes (by rfl) (.tmp 5) (.tmp 12) (by rfl) base v l (by rfl) (Own.alloc (Own.drew Hown.out) _) _ (some ⟨w.heap.size, 0, none⟩) 4 4 q (by rfl) Hql.out.symm (RB.new _ _ _ _ Hq.out) Hlq.out (by simp; omega) ?_); intro v9 W9 hown9 hbel9 hg9))
  all_goals
    go_wp2_with fail
    go_ret
    exact ⟨v9, rfl, hown9, (((Below.refl _ w).drew).alloc hb _).trans hbel9, (((Lib.OthersKept.refl _ _ w).drew).alloc _).trans (others_grown (Own.alloc (Own.drew Hown.out) _) hg9)⟩

/-! ### A rune -/
theorem encode_cells (r : Nat) : bvs (Lib.encodeRune (r : Int)) = Lib.runeCells (r : Int) := by
  rw [← Lib.byteCells_encodeRune]
  rfl
theorem encode_len (r : Nat) : (Lib.encodeRune (r : Int)).length ≤ 4 := by
  have := Lib.runeCells_le (r : Int)
  rw [Lib.runeCells_length] at this
  exact this.2
set_option maxRecDepth 200000 in
set_option maxHeartbeats 400000 in
theorem appendHigh_any (v : Value) (base : Nat) (l : List UInt8) (r : Nat) (w : World) (hown : Own w base v l) (hb : base ≤ w.heap.size) (hl : l.length ≤ 1099511627776) (hr : 128 ≤ r) (hm : r ≤ 1114111) (hs : r < 55296 ∨ 57344 ≤ r) :
    Calls Tryd.prog 28 #[v, .int .i32 (r : Int)] w fun e w' => ∃ v', e = .returned v' ∧ Own w' base v' (l ++ Lib.encodeRune (r : Int)) ∧ Below base w w' ∧ Lib.OthersKept 5 none w w' := by
  have Hown := Lib.hid hown
  have Hen := Lib.hid (encode_cells r)
  have Hlen := Lib.hid (encode_len r)
  have hw : IntKind.u32.wrap (r : Int) = (r : Int) := by rw [IntKind.wrap_u32]; omega
  have hr' : (128 : Int) ≤ (r : Int) := by omega
  have hm' : (r : Int) ≤ 1114111 := by omega
  have hb' : base ≤ w.heap.size + 1 := by omega
  rcases (show r ≤ 2047 ∨ (2047 < r ∧ r < 55296) ∨ (57344 ≤ r ∧ r ≤ 65535) ∨ 65535 < r by omega) with h | ⟨h, h'⟩ | ⟨h, h'⟩ | h
  · have hz := Lib.encodeRuneZ_two (r := (r : Int)) (by omega) (by omega)
    have hh : (r : Int) ≤ 2047 := by omega
    have Hc : Hid ([Value.int .u8 (192 + (r : Int) / 64), .int .u8 (128 + (r : Int) % 64)] = bvs (Lib.encodeRune (r : Int))) := by show _ = _; rw [Hen.out, Lib.runeCells, hz]; rfl
    have Hq : Hid (2 = (Lib.encodeRune (r : Int)).length) := by show _ = _; rw [Lib.encodeRune, hz]; rfl
    have Hlq : Hid (l.length + (Lib.encodeRune (r : Int)).length ≤ 140737488355327) := by show _ ≤ _; rw [← Hq.out]; omega
    clear hs hown hz hr hm h
    go_enter Tryd.func28, Tryd.ntmps28
    go_wp2_with (at_builtin; go_must (refine app_bytes rfl (.tmp 14) (.tmp 23) rfl base v l rfl (Own.alloc Hown.out _) _ (some ⟨w.heap.size, 0, none⟩) 2 2 (Lib.encodeRune (r : Int)) rfl Hq.out (RB.new _ _ _ _ Hc.out) Hlq.out (by simp; omega) ?_); intro v9 W9 hown9 hbel9 hg9)
    go_ret
    exact ⟨v9, rfl, hown9, ((Below.refl _ w).alloc hb _).trans hbel9, ((Lib.OthersKept.refl _ _ w).alloc _).trans (others_grown (Own.alloc Hown.out _) hg9)⟩
  · have hz := Lib.encodeRuneZ_three (r := (r : Int)) (by omega)
    have hh' : (r : Int) < 55296 := by omega
    have hd : decide ((r : Int) ≤ 2047) = false := by simp; omega
    have Hc : Hid ([Value.int .u8 (224 + (r : Int) / 4096), .int .u8 (128 + (r : Int) / 64 % 64), .int .u8 (128 + (r : Int) % 64)] = bvs (Lib.encodeRune (r : Int))) := by show _ = _; rw [Hen.out, Lib.runeCells, hz]; rfl
    have Hq : Hid (3 = (Lib.encodeRune (r : Int)).length) := by show _ = _; rw [Lib.encodeRune, hz]; rfl
    have Hlq : Hid (l.length + (Lib.encodeRune (r : Int)).length ≤ 140737488355327) := by show _ ≤ _; rw [← Hq.out]; omega
    clear hs hown hz hr hm h h'
    go_enter Tryd.func28, Tryd.ntmps28
    go_wp2_with (at_builtin; go_must (refine app_bytes rfl (.tmp 34) (.tmp 48) rfl base v l rfl (Own.alloc Hown.out _) _ (some ⟨w.heap.size, 0, none⟩) 3 3 (Lib.encodeRune (r : Int)) rfl Hq.out (RB.new _ _ _ _ Hc.out) Hlq.out (by simp; omega) ?_); intro v9 W9 hown9 hbel9 hg9)
    go_ret
    exact ⟨v9, rfl, hown9, ((Below.refl _ w).alloc hb _).trans hbel9, ((Lib.OthersKept.refl _ _ w).alloc _).trans (others_grown (Own.alloc Hown.out _) hg9)⟩
  · have hz := Lib.encodeRuneZ_three (r := (r : Int)) (by omega)
    have hh' : (r : Int) ≤ 65535 := by omega
    have hd : decide ((r : Int) ≤ 2047) = false := by simp; omega
    have hd2 : decide ((r : Int) < 55296) = false := by simp; omega
    have hd3 : decide ((57343 : Int) < (r : Int)) = true := by simp; omega
    have Hc : Hid ([Value.int .u8 (224 + (r : Int) / 4096), .int .u8 (128 + (r : Int) / 64 % 64), .int .u8 (128 + (r : Int) % 64)] = bvs (Lib.encodeRune (r : Int))) := by show _ = _; rw [Hen.out, Lib.runeCells, hz]; rfl
    have Hq : Hid (3 = (Lib.encodeRune (r : Int)).length) := by show _ = _; rw [Lib.encodeRune, hz]; rfl
    have Hlq : Hid (l.length + (Lib.encodeRune (r : Int)).length ≤ 140737488355327) := by show _ ≤ _; rw [← Hq.out]; omega
    clear hs hown hz hr hm h h'
    go_enter Tryd.func28, Tryd.ntmps28
    go_wp2_with (at_builtin; go_must (refine app_bytes rfl (.tmp 34) (.tmp 48) rfl base v l rfl (Own.alloc Hown.out _) _ (some ⟨w.heap.size, 0, none⟩) 3 3 (Lib.encodeRune (r : Int)) rfl Hq.out (RB.new _ _ _ _ Hc.out) Hlq.out (by simp; omega) ?_); intro v9 W9 hown9 hbel9 hg9)
    go_ret
    exact ⟨v9, rfl, hown9, ((Below.refl _ w).alloc hb _).trans hbel9, ((Lib.OthersKept.refl _ _ w).alloc _).trans (others_grown (Own.alloc Hown.out _) hg9)⟩
  · have hz := Lib.encodeRuneZ_four (r := (r : Int)) (by omega) (by omega)
    have hd : decide ((r : Int) ≤ 2047) = false := by simp; omega
    have hd2 : decide ((r : Int) < 55296) = false := by simp; omega
    have hd3 : decide ((57343 : Int) < (r : Int)) = true := by simp; omega
    have hd4 : decide ((r : Int) ≤ 65535) = false := by simp; omega
    have hd5 : decide ((65535 : Int) < (r : Int)) = true := by simp; omega
    have Hc : Hid ([Value.int .u8 (240 + (r : Int) / 262144), .int .u8 (128 + (r : Int) / 4096 % 64), .int .u8 (128 + (r : Int) / 64 % 64), .int .u8 (128 + (r : Int) % 64)] = bvs (Lib.encodeRune (r : Int))) := by show _ = _; rw [Hen.out, Lib.runeCells, hz]; rfl
    have Hq : Hid (4 = (Lib.encodeRune (r : Int)).length) := by show _ = _; rw [Lib.encodeRune, hz]; rfl
    have Hlq : Hid (l.length + (Lib.encodeRune (r : Int)).length ≤ 140737488355327) := by show _ ≤ _; rw [← Hq.out]; omega
    clear hs hown hz hr hm h
    go_enter Tryd.func28, Tryd.ntmps28
    go_wp2_with (at_builtin; go_must (refine app_bytes rfl (.tmp 57) (.tmp 76) rfl base v l rfl (Own.alloc Hown.out _) _ (some ⟨w.heap.size, 0, none⟩) 4 4 (Lib.encodeRune (r : Int)) rfl Hq.out (RB.new _ _ _ _ Hc.out) Hlq.out (by simp; omega) ?_); intro v9 W9 hown9 hbel9 hg9)
    go_ret
    exact ⟨v9, rfl, hown9, ((Below.refl _ w).alloc hb _).trans hbel9, ((Lib.OthersKept.refl _ _ w).alloc _).trans (others_grown (Own.alloc Hown.out _) hg9)⟩

set_option maxRecDepth 200000 in
set_option maxHeartbeats 400000 in
theorem appendRune_any (v : Value) (base : Nat) (l : List UInt8) (r : Nat) (w : World) (hown : Own w base v l) (hb : base ≤ w.heap.size) (hl : l.length ≤ 1099511627776) (hm : r ≤ 1114111) (hs : r < 55296 ∨ 57344 ≤ r) :
    Calls Tryd.prog 18 #[v, .int .i32 (r : Int)] w fun e w' => ∃ v', e = .returned v' ∧ Own w' base v' (l ++ Lib.encodeRune (r : Int)) ∧ Below base w w' ∧ Lib.OthersKept 5 none w w' := by
  have hw : IntKind.u32.wrap (r : Int) = (r : Int) := by rw [IntKind.wrap_u32]; omega
  by_cases h : r ≤ 127
  · have Hown := Lib.hid hown
    have hh : (r : Int) ≤ 127 := by omega
    have Hc : Hid ([Value.int .u8 (r : Int)] = bvs (Lib.encodeRune (r : Int))) := by
      show _ = _
      rw [encode_cells, Lib.runeCells, Lib.encodeRuneZ_one (by omega) (by omega)]
      rfl
    have Hq : Hid (1 = (Lib.encodeRune (r : Int)).length) := by show _ = _; rw [Lib.encodeRune, Lib.encodeRuneZ_one (by omega) (by omega)]; rfl
    have Hlq : Hid (l.length + (Lib.encodeRune (r : Int)).length ≤ 140737488355327) := by show _ ≤ _; rw [← Hq.out]; omega
    clear hs hown hm h
    go_enter Tryd.func18, Tryd.ntmps18
    go_wp2_with (at_builtin; go_must (refine app_bytes rfl (.tmp 8) (.tmp 11) rfl base v l rfl (Own.alloc Hown.out _) _ (some ⟨w.heap.size, 0, none⟩) 1 1 (Lib.encodeRune (r : Int)) rfl Hq.out (RB.new _ _ _ _ Hc.out) Hlq.out (by simp; omega) ?_); intro v9 W9 hown9 hbel9 hg9)
    go_ret
    exact ⟨v9, rfl, hown9, ((Below.refl _ w).alloc hb _).trans hbel9, ((Lib.OthersKept.refl _ _ w).alloc _).trans (others_grown (Own.alloc Hown.out _) hg9)⟩
  · have Hc := Lib.hid (appendHigh_any v base l r w hown hb hl (by omega) hm hs)
    have hd : decide ((r : Int) ≤ 127) = false := by simp; omega
    clear hs hown h
    go_enter Tryd.func18, Tryd.ntmps18
    go_wp2_with fail
    refine Hc.out.mono ?_
    rintro e w1 ⟨v1, rfl, h1, h2, h3⟩
    have H1 := Lib.hid h1
    have H2 := Lib.hid h2
    have H3 := Lib.hid h3
    clear h1 h2 h3
    go_wp2_with fail
    go_ret
    exact ⟨v1, rfl, H1.out, H2.out, H3.out⟩
end Go.Proofs.YtncaaiaffioegaaDoor
