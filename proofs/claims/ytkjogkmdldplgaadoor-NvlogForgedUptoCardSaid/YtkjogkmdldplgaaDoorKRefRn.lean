/-
  The plain program's reader of numbers.
-/
import Derived.Test.YtkjogkmdldplgaaDoorBase
import Derived.Test.YtkjogkmdldplgaaDoorRead1
namespace Go.Proofs.YtkjogkmdldplgaaDoor
open Go.RowKit

/-- the three answers of a reader of numbers -/
def rnVal (r : Nat × Nat × Nat) : Value := .tuple #[.int .u64 (r.1 : Int), .int .i64 (r.2.1 : Int), .int .i64 (r.2.2 : Int)]

/-- what a byte's turn tells the walk -/
theorem rn_facts (n x k : Nat) (h : n < 128 ^ k) (hk : k < 10) (hx : x < 256) (h9 : ¬ (k = 9 ∧ 1 < x)) : ∃ m : Nat, Hid (m = n + x % 128 * 128 ^ k) ∧ Hid (m < 128 ^ (k + 1)) ∧
    bits .or .u64 (n : Int) (IntKind.u64.wrap (bits .and .u64 (x : Int) 127 * 2 ^ (7 * k))) = (m : Int) ∧
    ∃ y : Nat, y < 128 ∧ bits .and .u8 (x : Int) 127 = (y : Int) ∧ bits .or .u64 (n : Int) (IntKind.u64.wrap ((y : Int) * 2 ^ (7 * k))) = (m : Int) := by
  obtain ⟨h1, h2, h3⟩ := rn_room n x k h hk hx h9
  have e64 : (2 : Nat) ^ 64 = 18446744073709551616 := by decide
  have hn : n < 18446744073709551616 := by omega
  have hand : x &&& 127 = x % 128 := Nat.and_two_pow_sub_one_eq_mod x 7
  have a1 : bits .and .u64 (x : Int) 127 = ((x % 128 : Nat) : Int) := by
    have := u64_and_nat x 127 (by omega) (by omega)
    rw [hand] at this
    exact this
  have a2 : bits .and .u8 (x : Int) 127 = ((x % 128 : Nat) : Int) := by
    have := u8_and_nat x 127 (by omega) (by omega)
    rw [hand] at this
    exact this
  have e : (2 : Int) ^ (7 * k) = ((128 ^ k : Nat) : Int) := by
    have : (128 : Nat) ^ k = 2 ^ (7 * k) := by rw [Nat.pow_mul]
    rw [this]
    simp
  have hw : IntKind.u64.wrap (((x % 128 : Nat) : Int) * ((128 ^ k : Nat) : Int)) = ((x % 128 * 128 ^ k : Nat) : Int) := by
    rw [IntKind.wrap_u64, ← Int.natCast_mul]
    omega
  have ho : bits .or .u64 (n : Int) ((x % 128 * 128 ^ k : Nat) : Int) = ((n + x % 128 * 128 ^ k : Nat) : Int) := by
    rw [u64_or_nat n _ hn (by omega), rn_or n _ k h]
  refine ⟨_, rfl, h1, ?_, x % 128, by omega, a2, ?_⟩
  · rw [a1, e, hw, ho]
  · rw [e, hw, ho]
theorem drop_at (l : List UInt8) (k : Nat) (x8 : UInt8) (h : k < l.length) (e : l[k] = x8) : l.drop k = x8 :: l.drop (k + 1) := by
  rw [← e]; exact List.drop_eq_getElem_cons h

end Go.Proofs.YtkjogkmdldplgaaDoor

/-
  The program's reader of numbers.
-/
namespace Go.Proofs.YtkjogkmdldplgaaDoor
open Go.RowKit

/-- what holds at a round's head: the number as far as it goes, or that it is no number -/
def Good (l : List UInt8) (k : Nat) (z : Int) : Prop :=
  (k < 10 ∧ ∃ n : Nat, z = (n : Int) ∧ n < 128 ^ k ∧ readNum l = rnGo (10 - k) k n (l.drop k)) ∨ (k = 10 ∧ readNum l = (0, 0, 22))
theorem Good.of_lt {l : List UInt8} {k : Nat} {z : Int} (h : Good l k z) (hk : k < 10) : ∃ n : Nat, z = (n : Int) ∧ n < 128 ^ k ∧ readNum l = rnGo (10 - k) k n (l.drop k) := by
  rcases h with h | h
  · exact h.2
  · omega
theorem Good.at_end {l : List UInt8} {k : Nat} {z : Int} (h : Good l k z) (hk : k < 10) (hl : l.length ≤ k) : readNum l = (0, 0, 21) := by
  obtain ⟨n, _, _, h⟩ := h.of_lt hk
  rw [h, List.drop_eq_nil_of_le hl, show 10 - k = (9 - k) + 1 from by omega, rnGo_nil]
theorem Good.at_ten {l : List UInt8} {z : Int} (h : Good l 10 z) : readNum l = (0, 0, 22) := by
  rcases h with h | h
  · omega
  · exact h.2

set_option maxRecDepth 20000 in
set_option maxHeartbeats 1600000 in
theorem rn_any (A : Option Addr) (c : Nat) (l : List UInt8) (w : World) (B : Nat) (hr : RB w B A l) (hl : l.length ≤ 1099511627776) (hc : l.length ≤ c) (hA : A = none → c = 0) :
    Calls Tryd.prog 53 #[.slice A l.length c] w fun e w' => e = .returned (rnVal (readNum l)) ∧ w = w' := by
  have Hr := Lib.hid hr
  have HA := Lib.hid hA
  clear hr hA
  by_cases h10 : l.length ≤ 10
  · go_enter Tryd.func53, Tryd.ntmps53
    go_wp2_with fail
    go_loop [5, 15] (fun d i => ∃ k : Nat, k ≤ l.length ∧ i = .int .i64 (k : Int) ∧ ∃ z : Int, d = .int .u64 z ∧ Hid (Good l k z)) (fun _ i => (l.length - intOf i).toNat)
    case atStart => exact ⟨0, by omega, rfl, 0, rfl, .inl ⟨by omega, 0, rfl, by decide, rfl⟩⟩
    case round =>
      obtain ⟨k, hk, rfl, z, rfl, hgood⟩ := hrel
      by_cases hkl : k < l.length
      · obtain ⟨n, rfl, hn, heq⟩ := hgood.out.of_lt (by omega)
        have Hn := Lib.hid hn
        have hkl' : k < l.length := by omega
        have hk10 : k < 10 := by omega
        clear hn hgood
        obtain ⟨ad, rfl, hb, hcell⟩ := Hr.out.at_ hkl'
        have hx : (l[k].toNat : Int) < 256 := by have := l[k].toNat_lt; omega
        generalize hgx : l[k] = x8 at hcell hx
        generalize hgx2 : x8.toNat = x at hcell hx
        have hd := drop_at l k x8 hkl' hgx
        have hq : readNum l = rnGo ((9 - k) + 1) k n (x8 :: l.drop (k + 1)) := by
          rw [← hd, show (9 - k) + 1 = 10 - k from by omega]
          exact heq
        have hgx2' : Hid (x = x8.toNat) := hgx2.symm
        have Hq := Lib.hid hq
        clear hgx hgx2 hd hq heq
        by_cases hx128 : x < 128
        · by_cases hk9 : 9 ≤ k
          · by_cases hx1 : 1 < x
            · go_wp2_with fail
              go_ret3
              refine ⟨?_, rfl⟩
              obtain rfl : k = 9 := by omega
              rw [Hq.out, rnGo_over _ _ _ _ (by rw [← hgx2'.out]; exact hx1)]
              all_goals rfl
            · obtain ⟨m, hm, hm2, _, y, hy, hand, hor⟩ := rn_facts n x k Hn.out hk10 (by omega) (by omega)
              have hx1' : x ≤ 1 := by omega
              clear hx1
              by_cases hx0 : x ≤ 0
              · have hb0 : ((x : Int) == 0) = true := by simp; omega
                go_wp2_with fail
                all_goals
                  go_ret3
                  refine ⟨?_, rfl⟩
                  rw [Hq.out, rnGo_zero _ _ _ _ _ (by rw [← hgx2'.out]; omega) (by omega)]
                  all_goals rfl
              · have hb0 : ((x : Int) == 0) = false := by simp; omega
                go_wp2_with fail
                all_goals
                  go_ret3
                  refine ⟨?_, rfl⟩
                  obtain rfl : k = 9 := by omega
                  rw [Hq.out, rnGo_end _ _ _ _ _ (by rw [← hgx2'.out]; omega) (by rw [← hgx2'.out]; omega) (by rw [← hgx2'.out]; omega), ← hgx2'.out, ← hm.out]
                  all_goals rfl
          · obtain ⟨m, hm, hm2, _, y, hy, hand, hor⟩ := rn_facts n x k Hn.out hk10 (by omega) (by omega)
            by_cases hx0 : x ≤ 0
            · have hb0 : ((x : Int) == 0) = true := by simp; omega
              by_cases hk0 : 0 < k
              · go_wp2_with fail
                go_ret3
                refine ⟨?_, rfl⟩
                rw [Hq.out, rnGo_zero _ _ _ _ _ (by rw [← hgx2'.out]; omega) (by omega)]
                all_goals rfl
              · go_wp2_with fail
                go_ret3
                refine ⟨?_, rfl⟩
                rw [Hq.out, rnGo_end _ _ _ _ _ (by omega) (by rw [← hgx2'.out]; omega) (by omega), ← hgx2'.out, ← hm.out]
                all_goals rfl
            · have hb0 : ((x : Int) == 0) = false := by simp; omega
              go_wp2_with fail
              all_goals
                go_ret3
                refine ⟨?_, rfl⟩
                rw [Hq.out, rnGo_end _ _ _ _ _ (by omega) (by rw [← hgx2'.out]; omega) (by rw [← hgx2'.out]; omega), ← hgx2'.out, ← hm.out]
                all_goals rfl
        · by_cases hk9 : 9 ≤ k
          · go_wp2_with fail
            exact ⟨⟨k + 1, by omega, by go_num, _, rfl, .inr ⟨by omega, by
              obtain rfl : k = 9 := by omega
              rw [Hq.out, rnGo_over _ _ _ _ (by rw [← hgx2'.out]; omega)]⟩⟩, by simp [intOf]; omega⟩
          · obtain ⟨m, hm, hm2, _, y, hy, hand, hor⟩ := rn_facts n x k Hn.out hk10 (by omega) (by omega)
            go_wp2_with fail
            exact ⟨⟨k + 1, by omega, by go_num, _, rfl, .inl ⟨by omega, m, rfl, hm2.out, by
              have h := Hq.out
              rw [rnGo_more _ _ _ _ _ (by omega) (by rw [← hgx2'.out]; exact hx128), ← hgx2'.out, ← hm.out] at h
              rw [h, show 10 - (k + 1) = 9 - k from by omega]⟩⟩, by simp [intOf]; omega⟩
      · by_cases h9 : l.length < 10
        · go_wp2_with fail
          go_ret3
          refine ⟨?_, rfl⟩
          rw [hgood.out.at_end (by omega) (by omega)]
          rfl
        · go_wp2_with fail
          go_ret3
          refine ⟨?_, rfl⟩
          obtain rfl : k = 10 := by omega
          rw [hgood.out.at_ten]
          rfl
  · go_enter Tryd.func53, Tryd.ntmps53
    go_wp2_with fail
    go_loop [5, 15] (fun d i => ∃ k : Nat, k ≤ 10 ∧ i = .int .i64 (k : Int) ∧ ∃ z : Int, d = .int .u64 z ∧ Hid (Good l k z)) (fun _ i => (10 - intOf i).toNat)
    case atStart => exact ⟨0, by omega, rfl, 0, rfl, .inl ⟨by omega, 0, rfl, by decide, rfl⟩⟩
    case round =>
      obtain ⟨k, hk, rfl, z, rfl, hgood⟩ := hrel
      by_cases hkl : k < 10
      · obtain ⟨n, rfl, hn, heq⟩ := hgood.out.of_lt (by omega)
        have Hn := Lib.hid hn
        have hkl' : k < l.length := by omega
        have hk10 : k < 10 := by omega
        clear hn hgood
        obtain ⟨ad, rfl, hb, hcell⟩ := Hr.out.at_ hkl'
        have hx : (l[k].toNat : Int) < 256 := by have := l[k].toNat_lt; omega
        generalize hgx : l[k] = x8 at hcell hx
        generalize hgx2 : x8.toNat = x at hcell hx
        have hd := drop_at l k x8 hkl' hgx
        have hq : readNum l = rnGo ((9 - k) + 1) k n (x8 :: l.drop (k + 1)) := by
          rw [← hd, show (9 - k) + 1 = 10 - k from by omega]
          exact heq
        have hgx2' : Hid (x = x8.toNat) := hgx2.symm
        have Hq := Lib.hid hq
        clear hgx hgx2 hd hq heq
        by_cases hx128 : x < 128
        · by_cases hk9 : 9 ≤ k
          · by_cases hx1 : 1 < x
            · go_wp2_with fail
              go_ret3
              refine ⟨?_, rfl⟩
              obtain rfl : k = 9 := by omega
              rw [Hq.out, rnGo_over _ _ _ _ (by rw [← hgx2'.out]; exact hx1)]
              all_goals rfl
            · obtain ⟨m, hm, hm2, _, y, hy, hand, hor⟩ := rn_facts n x k Hn.out hk10 (by omega) (by omega)
              have hx1' : x ≤ 1 := by omega
              clear hx1
              by_cases hx0 : x ≤ 0
              · have hb0 : ((x : Int) == 0) = true := by simp; omega
                go_wp2_with fail
                all_goals
                  go_ret3
                  refine ⟨?_, rfl⟩
                  rw [Hq.out, rnGo_zero _ _ _ _ _ (by rw [← hgx2'.out]; omega) (by omega)]
                  all_goals rfl
              · have hb0 : ((x : Int) == 0) = false := by simp; omega
                go_wp2_with fail
                all_goals
                  go_ret3
                  refine ⟨?_, rfl⟩
                  obtain rfl : k = 9 := by omega
                  rw [Hq.out, rnGo_end _ _ _ _ _ (by rw [← hgx2'.out]; omega) (by rw [← hgx2'.out]; omega) (by rw [← hgx2'.out]; omega), ← hgx2'.out, ← hm.out]
                  all_goals rfl
          · obtain ⟨m, hm, hm2, _, y, hy, hand, hor⟩ := rn_facts n x k Hn.out hk10 (by omega) (by omega)
            by_cases hx0 : x ≤ 0
            · have hb0 : ((x : Int) == 0) = true := by simp; omega
              by_cases hk0 : 0 < k
              · go_wp2_with fail
                go_ret3
                refine ⟨?_, rfl⟩
                rw [Hq.out, rnGo_zero _ _ _ _ _ (by rw [← hgx2'.out]; omega) (by omega)]
                all_goals rfl
              · go_wp2_with fail
                go_ret3
                refine ⟨?_, rfl⟩
                rw [Hq.out, rnGo_end _ _ _ _ _ (by omega) (by rw [← hgx2'.out]; omega) (by omega), ← hgx2'.out, ← hm.out]
                all_goals rfl
            · have hb0 : ((x : Int) == 0) = false := by simp; omega
              go_wp2_with fail
              all_goals
                go_ret3
                refine ⟨?_, rfl⟩
                rw [Hq.out, rnGo_end _ _ _ _ _ (by omega) (by rw [← hgx2'.out]; omega) (by rw [← hgx2'.out]; omega), ← hgx2'.out, ← hm.out]
                all_goals rfl
        · by_cases hk9 : 9 ≤ k
          · go_wp2_with fail
            exact ⟨⟨k + 1, by omega, by go_num, _, rfl, .inr ⟨by omega, by
              obtain rfl : k = 9 := by omega
              rw [Hq.out, rnGo_over _ _ _ _ (by rw [← hgx2'.out]; omega)]⟩⟩, by simp [intOf]; omega⟩
          · obtain ⟨m, hm, hm2, _, y, hy, hand, hor⟩ := rn_facts n x k Hn.out hk10 (by omega) (by omega)
            go_wp2_with fail
            exact ⟨⟨k + 1, by omega, by go_num, _, rfl, .inl ⟨by omega, m, rfl, hm2.out, by
              have h := Hq.out
              rw [rnGo_more _ _ _ _ _ (by omega) (by rw [← hgx2'.out]; exact hx128), ← hgx2'.out, ← hm.out] at h
              rw [h, show 10 - (k + 1) = 9 - k from by omega]⟩⟩, by simp [intOf]; omega⟩
      · go_wp2_with fail
        go_ret3
        refine ⟨?_, rfl⟩
        obtain rfl : k = 10 := by omega
        rw [hgood.out.at_ten]
        all_goals rfl
end Go.Proofs.YtkjogkmdldplgaaDoor
