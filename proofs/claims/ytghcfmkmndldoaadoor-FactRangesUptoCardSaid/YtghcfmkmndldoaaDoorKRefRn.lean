/-
  The plain program's reader of numbers.
-/
import Derived.Test.YtghcfmkmndldoaaDoorKBase
import Derived.Test.YtghcfmkmndldoaaDoorKRead1
namespace Go.Proofs.YtghcfmkmndldoaaDoor
open Go.RowKit

/-- the three answers of a reader of numbers -/
def rnVal (r : Nat × Nat × Nat) : Value := .tuple #[.int .u64 (r.1 : Int), .int .i64 (r.2.1 : Int), .int .i64 (r.2.2 : Int)]

/-- what a byte's turn tells the walk -/
theorem rn_facts (n x k : Nat) (h : n < 128 ^ k) (hk : k < 10) (hx : x < 256) (h9 : ¬ (k = 9 ∧ 1 < x)) : ∃ m : Nat, Hid (m = n + x % 128 * 128 ^ k) ∧ Hid (m < 128 ^ (k + 1)) ∧
    bits .or .u64 (n : Int) (IntKind.u64.wrap (bits .and .u64 (x : Int) 127 * 2 ^ (7 * k))) = (m : Int) ∧
    ∃ y : Nat, y < 128 ∧ bits .and .u8 (x : Int) 127 = (y : Int) ∧ bits .or .u64 (n : Int) (IntKind.u64.wrap ((y : Int) * 2 ^ (7 * k))) = (m : Int) := by
  obtain ⟨h1, h2, h3⟩ := rn_room n x k h hk hx h9
  have e64 : (2 : Nat) ^ 64 = 18446744073709551616 := by decide
  have hn : n < 18446744073709551616 := by omega
  have hand : x &&& 127 = x % 128 := Nat.and_two_pow_sub_one_eq_mod x 7
  have a1 : bits .and .u64 (x : Int) 127 = ((x % 128 : Nat) : Int) := by
    have := u64_and_nat x 127 (by omega) (by omega)
    rw [hand] at this
    exact this
  have a2 : bits .and .u8 (x : Int) 127 = ((x % 128 : Nat) : Int) := by
    have := u8_and_nat x 127 (by omega) (by omega)
    rw [hand] at this
    exact this
  have e : (2 : Int) ^ (7 * k) = ((128 ^ k : Nat) : Int) := by
    have : (128 : Nat) ^ k = 2 ^ (7 * k) := by rw [Nat.pow_mul]
    rw [this]
    simp
  have hw : IntKind.u64.wrap (((x % 128 : Nat) : Int) * ((128 ^ k : Nat) : Int)) = ((x % 128 * 128 ^ k : Nat) : Int) := by
    rw [IntKind.wrap_u64, ← Int.natCast_mul]
    omega
  have ho : bits .or .u64 (n : Int) ((x % 128 * 128 ^ k : Nat) : Int) = ((n + x % 128 * 128 ^ k : Nat) : Int) := by
    rw [u64_or_nat n _ hn (by omega), rn_or n _ k h]
  refine ⟨_, rfl, h1, ?_, x % 128, by omega, a2, ?_⟩
  · rw [a1, e, hw, ho]
  · rw [e, hw, ho]
theorem drop_at (l : List UInt8) (k : Nat) (x8 : UInt8) (h : k < l.length) (e : l[k] = x8) : l.drop k = x8 :: l.drop (k + 1) := by
  rw [← e]; exact List.drop_eq_getElem_cons h

set_option maxRecDepth 20000 in
set_option maxHeartbeats 400000 in
theorem refRn_any (A : Option Addr) (c : Nat) (l : List UInt8) (w : World) (B : Nat) (hr : RB w B A l) (_hl : l.length ≤ 1099511627776) :
    Calls Tryd.prog 46 #[.slice A l.length c] w fun e w' => e = .returned (rnVal (readNum l)) ∧ w = w' := by
  have Hr := Lib.hid hr
  clear hr
  go_enter Tryd.func46, Tryd.ntmps46
  go_wp2_with fail
  go_loop [5, 6] (fun d i => ∃ k : Nat, k ≤ 10 ∧ i = .int .i64 (k : Int) ∧ ∃ n : Nat, d = .int .u64 (n : Int) ∧ Hid (n < 128 ^ k) ∧ Hid (readNum l = rnGo (10 - k) k n (l.drop k))) (fun _ i => (10 - intOf i).toNat)
  case atStart => exact ⟨0, by omega, rfl, 0, rfl, (by decide : 0 < 128 ^ 0), rfl⟩
  case round =>
    obtain ⟨k, hk, rfl, n, rfl, hn, heq⟩ := hrel
    by_cases hk10 : k < 10
    · by_cases hkl : k < l.length
      · obtain ⟨ad, rfl, hb, hc⟩ := Hr.out.at_ hkl
        have hx : (l[k].toNat : Int) < 256 := by have := l[k].toNat_lt; omega
        generalize hgx : l[k] = x8 at hc hx
        generalize hgx2 : x8.toNat = x at hc hx
        have hd := drop_at l k x8 hkl hgx
        have hq : readNum l = rnGo ((9 - k) + 1) k n (x8 :: l.drop (k + 1)) := by
          rw [← hd, show (9 - k) + 1 = 10 - k from by omega]
          exact heq.out
        have hgx2' : Hid (x = x8.toNat) := hgx2.symm
        have Hq := Lib.hid hq
        clear hgx hgx2 hd hq heq
        by_cases hov : k = 9 ∧ 1 < x
        · obtain ⟨hk9', h1x⟩ := hov
          have hk9 : 9 ≤ k := by omega
          clear hk9'
          go_wp2_with fail
          go_ret3
          refine ⟨?_, rfl⟩
          obtain rfl : k = 9 := by omega
          rw [Hq.out, rnGo_over _ _ _ _ (by rw [← hgx2'.out]; exact h1x)]
          rfl
        · obtain ⟨m, hm, hm2, hor, _⟩ := rn_facts n x k hn.out hk10 (by omega) hov
          have Hov := Lib.hid hov
          clear hov
          by_cases hx128 : x < 128
          · by_cases hx0 : x = 0
            · have hx0' : x ≤ 0 := by omega
              have hx0'' : Hid (x8.toNat = 0) := by show _ = _; rw [← hgx2'.out]; exact hx0
              clear hx0
              by_cases hk0 : 0 < k
              · by_cases hk9 : 9 ≤ k
                all_goals
                  go_wp2_with fail
                  go_ret3
                  refine ⟨?_, rfl⟩
                  rw [Hq.out, rnGo_zero _ _ _ _ _ hx0''.out hk0]
                  rfl
              · go_wp2_with fail
                go_ret3
                refine ⟨?_, rfl⟩
                rw [Hq.out, rnGo_end _ _ _ _ _ (by omega) (by rw [← hgx2'.out]; omega) (by omega), ← hgx2'.out, ← hm.out]
                rfl
            · by_cases hk9 : 9 ≤ k
              · have hx1 : x ≤ 1 := by have := Hov.out; omega
                go_wp2_with fail
                go_ret3
                refine ⟨?_, rfl⟩
                obtain rfl : k = 9 := by omega
                rw [Hq.out, rnGo_end _ _ _ _ _ (by rw [← hgx2'.out]; exact Hov.out) (by rw [← hgx2'.out]; omega) (by rw [← hgx2'.out]; omega), ← hgx2'.out, ← hm.out]
                have hor9 : bits .or .u64 (n : Int) (IntKind.u64.wrap (bits .and .u64 (x : Int) 127 * 9223372036854775808)) = (m : Int) := hor
                show Ending.returned (.tuple #[.int .u64 (bits .or .u64 (n : Int) (IntKind.u64.wrap (bits .and .u64 (x : Int) 127 * 9223372036854775808))), .int .i64 10, .int .i64 0]) = _
                rw [hor9]
                rfl
              · go_wp2_with fail
                go_ret3
                refine ⟨?_, rfl⟩
                rw [Hq.out, rnGo_end _ _ _ _ _ (by rw [← hgx2'.out]; exact Hov.out) (by rw [← hgx2'.out]; omega) (by rw [← hgx2'.out]; omega), ← hgx2'.out, ← hm.out]
                rfl
          · by_cases hk9 : 9 ≤ k
            · exact absurd ⟨by omega, by omega⟩ Hov.out
            · go_wp2_with fail
              exact ⟨⟨k + 1, by omega, by go_num, m, rfl, hm2, by
                have h := Hq.out
                rw [rnGo_more _ _ _ _ _ (by rw [← hgx2'.out]; exact Hov.out) (by rw [← hgx2'.out]; exact hx128), ← hgx2'.out, ← hm.out] at h
                show _ = _
                rw [h, show 10 - (k + 1) = 9 - k from by omega]⟩, by simp [intOf]; omega⟩
      · go_wp2_with fail
        go_ret3
        refine ⟨?_, rfl⟩
        rw [heq.out, List.drop_eq_nil_of_le (by omega), show 10 - k = (9 - k) + 1 from by omega, rnGo_nil]
        rfl
    · go_wp2_with fail
      go_ret3
      refine ⟨?_, rfl⟩
      obtain rfl : k = 10 := by omega
      rw [heq.out]
      rfl
end Go.Proofs.YtghcfmkmndldoaaDoor

/-
  The program's reader of numbers.
-/
namespace Go.Proofs.YtghcfmkmndldoaaDoor
open Go.RowKit

/-- what holds at a round's head: the number as far as it goes, or that it is no number -/
def Good (l : List UInt8) (k : Nat) (z : Int) : Prop :=
  (k < 10 ∧ ∃ n : Nat, z = (n : Int) ∧ n < 128 ^ k ∧ readNum l = rnGo (10 - k) k n (l.drop k)) ∨ (k = 10 ∧ readNum l = (0, 0, 22))
theorem Good.of_lt {l : List UInt8} {k : Nat} {z : Int} (h : Good l k z) (hk : k < 10) : ∃ n : Nat, z = (n : Int) ∧ n < 128 ^ k ∧ readNum l = rnGo (10 - k) k n (l.drop k) := by
  rcases h with h | h
  · exact h.2
  · omega
theorem Good.at_end {l : List UInt8} {k : Nat} {z : Int} (h : Good l k z) (hk : k < 10) (hl : l.length ≤ k) : readNum l = (0, 0, 21) := by
  obtain ⟨n, _, _, h⟩ := h.of_lt hk
  rw [h, List.drop_eq_nil_of_le hl, show 10 - k = (9 - k) + 1 from by omega, rnGo_nil]
theorem Good.at_ten {l : List UInt8} {z : Int} (h : Good l 10 z) : readNum l = (0, 0, 22) := by
  rcases h with h | h
  · omega
  · exact h.2

set_option maxRecDepth 20000 in
set_option maxHeartbeats 1600000 in
theorem rn_any (A : Option Addr) (c : Nat) (l : List UInt8) (w : World) (B : Nat) (hr : RB w B A l) (hl : l.length ≤ 1099511627776) (hc : l.length ≤ c) (hA : A = none → c = 0) :
    Calls Tryd.prog 92 #[.slice A l.length c] w fun e w' => e = .returned (rnVal (readNum l)) ∧ w = w' := by
  have Hr := Lib.hid hr
  have HA := Lib.hid hA
  clear hr hA
  by_cases h10 : l.length ≤ 10
  · go_enter Tryd.func92, Tryd.ntmps92
    go_wp2_with fail
    go_loop [5, 15] (fun d i => ∃ k : Nat, k ≤ l.length ∧ i = .int .i64 (k : Int) ∧ ∃ z : Int, d = .int .u64 z ∧ Hid (Good l k z)) (fun _ i => (l.length - intOf i).toNat)
    case atStart => exact ⟨0, by omega, rfl, 0, rfl, .inl ⟨by omega, 0, rfl, by decide, rfl⟩⟩
    case round =>
      obtain ⟨k, hk, rfl, z, rfl, hgood⟩ := hrel
      by_cases hkl : k < l.length
      · obtain ⟨n, rfl, hn, heq⟩ := hgood.out.of_lt (by omega)
        have Hn := Lib.hid hn
        have hkl' : k < l.length := by omega
        have hk10 : k < 10 := by omega
        clear hn hgood
        obtain ⟨ad, rfl, hb, hcell⟩ := Hr.out.at_ hkl'
        have hx : (l[k].toNat : Int) < 256 := by have := l[k].toNat_lt; omega
        generalize hgx : l[k] = x8 at hcell hx
        generalize hgx2 : x8.toNat = x at hcell hx
        have hd := drop_at l k x8 hkl' hgx
        have hq : readNum l = rnGo ((9 - k) + 1) k n (x8 :: l.drop (k + 1)) := by
          rw [← hd, show (9 - k) + 1 = 10 - k from by omega]
          exact heq
        have hgx2' : Hid (x = x8.toNat) := hgx2.symm
        have Hq := Lib.hid hq
        clear hgx hgx2 hd hq heq
        by_cases hx128 : x < 128
        · by_cases hk9 : 9 ≤ k
          · by_cases hx1 : 1 < x
            · go_wp2_with fail
              go_ret3
              refine ⟨?_, rfl⟩
              obtain rfl : k = 9 := by omega
              rw [Hq.out, rnGo_over _ _ _ _ (by rw [← hgx2'.out]; exact hx1)]
              all_goals rfl
            · obtain ⟨m, hm, hm2, _, y, hy, hand, hor⟩ := rn_facts n x k Hn.out hk10 (by omega) (by omega)
              have hx1' : x ≤ 1 := by omega
              clear hx1
              by_cases hx0 : x ≤ 0
              · have hb0 : ((x : Int) == 0) = true := by simp; omega
                go_wp2_with fail
                all_goals
                  go_ret3
                  refine ⟨?_, rfl⟩
                  rw [Hq.out, rnGo_zero _ _ _ _ _ (by rw [← hgx2'.out]; omega) (by omega)]
                  all_goals rfl
              · have hb0 : ((x : Int) == 0) = false := by simp; omega
                go_wp2_with fail
                all_goals
                  go_ret3
                  refine ⟨?_, rfl⟩
                  obtain rfl : k = 9 := by omega
                  rw [Hq.out, rnGo_end _ _ _ _ _ (by rw [← hgx2'.out]; omega) (by rw [← hgx2'.out]; omega) (by rw [← hgx2'.out]; omega), ← hgx2'.out, ← hm.out]
                  all_goals rfl
          · obtain ⟨m, hm, hm2, _, y, hy, hand, hor⟩ := rn_facts n x k Hn.out hk10 (by omega) (by omega)
            by_cases hx0 : x ≤ 0
            · have hb0 : ((x : Int) == 0) = true := by simp; omega
              by_cases hk0 : 0 < k
              · go_wp2_with fail
                go_ret3
                refine ⟨?_, rfl⟩
                rw [Hq.out, rnGo_zero _ _ _ _ _ (by rw [← hgx2'.out]; omega) (by omega)]
                all_goals rfl
              · go_wp2_with fail
                go_ret3
                refine ⟨?_, rfl⟩
                rw [Hq.out, rnGo_end _ _ _ _ _ (by omega) (by rw [← hgx2'.out]; omega) (by omega), ← hgx2'.out, ← hm.out]
                all_goals rfl
            · have hb0 : ((x : Int) == 0) = false := by simp; omega
              go_wp2_with fail
              all_goals
                go_ret3
                refine ⟨?_, rfl⟩
                rw [Hq.out, rnGo_end _ _ _ _ _ (by omega) (by rw [← hgx2'.out]; omega) (by rw [← hgx2'.out]; omega), ← hgx2'.out, ← hm.out]
                all_goals rfl
        · by_cases hk9 : 9 ≤ k
          · go_wp2_with fail
            exact ⟨⟨k + 1, by omega, by go_num, _, rfl, .inr ⟨by omega, by
              obtain rfl : k = 9 := by omega
              rw [Hq.out, rnGo_over _ _ _ _ (by rw [← hgx2'.out]; omega)]⟩⟩, by simp [intOf]; omega⟩
          · obtain ⟨m, hm, hm2, _, y, hy, hand, hor⟩ := rn_facts n x k Hn.out hk10 (by omega) (by omega)
            go_wp2_with fail
            exact ⟨⟨k + 1, by omega, by go_num, _, rfl, .inl ⟨by omega, m, rfl, hm2.out, by
              have h := Hq.out
              rw [rnGo_more _ _ _ _ _ (by omega) (by rw [← hgx2'.out]; exact hx128), ← hgx2'.out, ← hm.out] at h
              rw [h, show 10 - (k + 1) = 9 - k from by omega]⟩⟩, by simp [intOf]; omega⟩
      · by_cases h9 : l.length < 10
        · go_wp2_with fail
          go_ret3
          refine ⟨?_, rfl⟩
          rw [hgood.out.at_end (by omega) (by omega)]
          rfl
        · go_wp2_with fail
          go_ret3
          refine ⟨?_, rfl⟩
          obtain rfl : k = 10 := by omega
          rw [hgood.out.at_ten]
          rfl
  · go_enter Tryd.func92, Tryd.ntmps92
    go_wp2_with fail
    go_loop [5, 15] (fun d i => ∃ k : Nat, k ≤ 10 ∧ i = .int .i64 (k : Int) ∧ ∃ z : Int, d = .int .u64 z ∧ Hid (Good l k z)) (fun _ i => (10 - intOf i).toNat)
    case atStart => exact ⟨0, by omega, rfl, 0, rfl, .inl ⟨by omega, 0, rfl, by decide, rfl⟩⟩
    case round =>
      obtain ⟨k, hk, rfl, z, rfl, hgood⟩ := hrel
      by_cases hkl : k < 10
      · obtain ⟨n, rfl, hn, heq⟩ := hgood.out.of_lt (by omega)
        have Hn := Lib.hid hn
        have hkl' : k < l.length := by omega
        have hk10 : k < 10 := by omega
        clear hn hgood
        obtain ⟨ad, rfl, hb, hcell⟩ := Hr.out.at_ hkl'
        have hx : (l[k].toNat : Int) < 256 := by have := l[k].toNat_lt; omega
        generalize hgx : l[k] = x8 at hcell hx
        generalize hgx2 : x8.toNat = x at hcell hx
        have hd := drop_at l k x8 hkl' hgx
        have hq : readNum l = rnGo ((9 - k) + 1) k n (x8 :: l.drop (k + 1)) := by
          rw [← hd, show (9 - k) + 1 = 10 - k from by omega]
          exact heq
        have hgx2' : Hid (x = x8.toNat) := hgx2.symm
        have Hq := Lib.hid hq
        clear hgx hgx2 hd hq heq
        by_cases hx128 : x < 128
        · by_cases hk9 : 9 ≤ k
          · by_cases hx1 : 1 < x
            · go_wp2_with fail
              go_ret3
              refine ⟨?_, rfl⟩
              obtain rfl : k = 9 := by omega
              rw [Hq.out, rnGo_over _ _ _ _ (by rw [← hgx2'.out]; exact hx1)]
              all_goals rfl
            · obtain ⟨m, hm, hm2, _, y, hy, hand, hor⟩ := rn_facts n x k Hn.out hk10 (by omega) (by omega)
              have hx1' : x ≤ 1 := by omega
              clear hx1
              by_cases hx0 : x ≤ 0
              · have hb0 : ((x : Int) == 0) = true := by simp; omega
                go_wp2_with fail
                all_goals
                  go_ret3
                  refine ⟨?_, rfl⟩
                  rw [Hq.out, rnGo_zero _ _ _ _ _ (by rw [← hgx2'.out]; omega) (by omega)]
                  all_goals rfl
              · have hb0 : ((x : Int) == 0) = false := by simp; omega
                go_wp2_with fail
                all_goals
                  go_ret3
                  refine ⟨?_, rfl⟩
                  obtain rfl : k = 9 := by omega
                  rw [Hq.out, rnGo_end _ _ _ _ _ (by rw [← hgx2'.out]; omega) (by rw [← hgx2'.out]; omega) (by rw [← hgx2'.out]; omega), ← hgx2'.out, ← hm.out]
                  all_goals rfl
          · obtain ⟨m, hm, hm2, _, y, hy, hand, hor⟩ := rn_facts n x k Hn.out hk10 (by omega) (by omega)
            by_cases hx0 : x ≤ 0
            · have hb0 : ((x : Int) == 0) = true := by simp; omega
              by_cases hk0 : 0 < k
              · go_wp2_with fail
                go_ret3
                refine ⟨?_, rfl⟩
                rw [Hq.out, rnGo_zero _ _ _ _ _ (by rw [← hgx2'.out]; omega) (by omega)]
                all_goals rfl
              · go_wp2_with fail
                go_ret3
                refine ⟨?_, rfl⟩
                rw [Hq.out, rnGo_end _ _ _ _ _ (by omega) (by rw [← hgx2'.out]; omega) (by omega), ← hgx2'.out, ← hm.out]
                all_goals rfl
            · have hb0 : ((x : Int) == 0) = false := by simp; omega
              go_wp2_with fail
              all_goals
                go_ret3
                refine ⟨?_, rfl⟩
                rw [Hq.out, rnGo_end _ _ _ _ _ (by omega) (by rw [← hgx2'.out]; omega) (by rw [← hgx2'.out]; omega), ← hgx2'.out, ← hm.out]
                all_goals rfl
        · by_cases hk9 : 9 ≤ k
          · go_wp2_with fail
            exact ⟨⟨k + 1, by omega, by go_num, _, rfl, .inr ⟨by omega, by
              obtain rfl : k = 9 := by omega
              rw [Hq.out, rnGo_over _ _ _ _ (by rw [← hgx2'.out]; omega)]⟩⟩, by simp [intOf]; omega⟩
          · obtain ⟨m, hm, hm2, _, y, hy, hand, hor⟩ := rn_facts n x k Hn.out hk10 (by omega) (by omega)
            go_wp2_with fail
            exact ⟨⟨k + 1, by omega, by go_num, _, rfl, .inl ⟨by omega, m, rfl, hm2.out, by
              have h := Hq.out
              rw [rnGo_more _ _ _ _ _ (by omega) (by rw [← hgx2'.out]; exact hx128), ← hgx2'.out, ← hm.out] at h
              rw [h, show 10 - (k + 1) = 9 - k from by omega]⟩⟩, by simp [intOf]; omega⟩
      · go_wp2_with fail
        go_ret3
        refine ⟨?_, rfl⟩
        obtain rfl : k = 10 := by omega
        rw [hgood.out.at_ten]
        all_goals rfl
end Go.Proofs.YtghcfmkmndldoaaDoor

/-
  The plain program's byte of a remainder, bit by bit.
-/
namespace Go.Proofs.YtghcfmkmndldoaaDoor
open Go.RowKit

set_option maxRecDepth 20000 in
set_option maxHeartbeats 400000 in
theorem step_any (c x : Nat) (w : World) (hc : c < 4294967296) (hx : x < 256) :
    Calls Tryd.prog 102 #[.int .u32 (c : Int), .int .u8 (x : Int)] w fun e w' => e = .returned (.int .u32 (crcByte c x : Nat)) ∧ w = w' := by
  have h1 : bits .xor .u32 (c : Int) (x : Int) = ((c ^^^ x : Nat) : Int) := u32_xor_nat c x hc (by omega)
  have hlt : c ^^^ x < 4294967296 := Nat.xor_lt_two_pow (n := 32) hc (by omega)
  have H1 := Lib.hid h1
  have Hlt := Lib.hid hlt
  clear h1 hlt
  go_enter Tryd.func102, Tryd.ntmps102
  go_wp2_with fail
  go_loop [0, 5] (fun d i => ∃ k : Nat, k ≤ 8 ∧ i = .int .i64 (k : Int) ∧ ∃ e : Nat, d = .int .u32 (e : Int) ∧ e < 4294967296 ∧ Hid (bitSteps 8 (c ^^^ x) = bitSteps (8 - k) e)) (fun _ i => (8 - intOf i).toNat)
  case atStart => exact ⟨0, by omega, rfl, c ^^^ x, by rw [H1.out], Hlt.out, rfl⟩
  case round =>
    obtain ⟨k, hk, rfl, e, rfl, he, heq⟩ := hrel
    have He := Lib.hid he
    clear he
    by_cases hk8 : k < 8
    · go_wp2_with fail
      all_goals
        have h7 : 8 - k = (8 - (k + 1)) + 1 := by omega
        have he := He.out
        have hq := heq.out
        have ha : bits .and .u32 (e : Int) 1 = ((e % 2 : Nat) : Int) := by
          have := u32_and_nat e 1 he (by omega)
          rw [Nat.and_one_is_mod] at this
          exact this
        rw [h7] at hq
      · have ho : (bits .and .u32 (e : Int) 1 == 1) = true := by assumption
        have ho : e % 2 = 1 := by rw [ha] at ho; have := eq_of_beq ho; omega
        have hx : bits .xor .u32 ((e : Int) / 2) 2197175160 = ((bitStep e : Nat) : Int) := by
          have := u32_xor_nat (e / 2) 2197175160 (by omega) (by omega)
          unfold bitStep
          rw [if_pos ho]
          exact this
        exact ⟨⟨k + 1, by omega, by go_num, bitStep e, by rw [hx], by rw [bitStep, if_pos ho]; exact Nat.xor_lt_two_pow (n := 32) (by omega) (by decide), hq⟩, by simp [intOf]; omega⟩
      · have ho : (bits .and .u32 (e : Int) 1 == 1) = false := by assumption
        have ho : ¬ e % 2 = 1 := by rw [ha] at ho; have := beq_eq_false_iff_ne.1 ho; omega
        exact ⟨⟨k + 1, by omega, by go_num, bitStep e, by rw [bitStep, if_neg ho]; go_num, by rw [bitStep, if_neg ho]; omega, hq⟩, by simp [intOf]; omega⟩
    · go_wp2_with fail
      go_ret
      obtain rfl : k = 8 := by omega
      have := heq.out
      refine ⟨?_, rfl⟩
      rw [crcByte_bits, this]
      rfl
end Go.Proofs.YtghcfmkmndldoaaDoor

/-
  The plain program's sum of one part.
-/
namespace Go.Proofs.YtghcfmkmndldoaaDoor
open Go.RowKit

theorem sum_end (c : Nat) (h : c < 4294967296) : bits .xor .u32 (c : Int) 4294967295 = ((4294967295 - c : Nat) : Int) := by
  have := u32_xor_nat c 4294967295 h (by omega)
  have e : c ^^^ 4294967295 = 4294967295 - c := by
    apply Nat.eq_of_testBit_eq
    intro i
    have h2 := Nat.testBit_two_pow_sub_succ (n := 32) (x := c) h i
    have h3 : (2 : Nat) ^ 32 - (c + 1) = 4294967295 - c := by omega
    rw [h3] at h2
    have h4 := Nat.testBit_two_pow_sub_one 32 i
    have h5 : (2 : Nat) ^ 32 - 1 = 4294967295 := by decide
    rw [h5] at h4
    rw [Nat.testBit_xor, h2, h4]
    by_cases hi : i < 32
    · simp [hi]
    · have := Nat.testBit_lt_two_pow (x := c) (i := i) (Nat.lt_of_lt_of_le h (Nat.pow_le_pow_right (n := 2) (by omega) (show 32 ≤ i by omega)))
      simp [hi, this]
  rw [e] at this
  exact this

theorem crc_take (l : List UInt8) (k c : Nat) (h : k < l.length) : crcFrom c (l.take (k + 1)) = crcByte (crcFrom c (l.take k)) l[k].toNat := by
  rw [List.take_succ_eq_append_getElem h, crcFrom_append]
  rfl

set_option maxRecDepth 20000 in
set_option maxHeartbeats 400000 in
theorem refSum_any (A : Option Addr) (c : Nat) (l : List UInt8) (w : World) (B : Nat) (hr : RB w B A l) (hl : l.length ≤ 1099511627776) :
    Calls Tryd.prog 66 #[.slice A l.length c] w fun e w' => e = .returned (.int .u32 (sumOf l : Nat)) ∧ w = w' := by
  have Hr := Lib.hid hr
  have Hl := Lib.hid hl
  clear hr hl
  go_enter Tryd.func66, Tryd.ntmps66
  go_wp2_with fail
  go_loop [3, 4] (fun d i => ∃ k : Nat, k ≤ l.length ∧ i = .int .i64 (k : Int) ∧ ∃ e : Nat, d = .int .u32 (e : Int) ∧ e < 4294967296 ∧ Hid (e = crcFrom 4294967295 (l.take k))) (fun _ i => (l.length - intOf i).toNat)
  case atStart => exact ⟨0, by omega, rfl, 4294967295, rfl, by omega, rfl⟩
  case round =>
    obtain ⟨k, hk, rfl, e, rfl, he, heq⟩ := hrel
    have hl2 : l.length ≤ 1099511627776 := Hl.out
    by_cases hk8 : k < l.length
    · obtain ⟨ad, rfl, hb, hc⟩ := Hr.out.at_ hk8
      go_wp2_with (go_at_call 102; refine (step_any e l[k].toNat _ he (by have := l[k].toNat_lt; omega)).mono ?_; rintro e w' ⟨rfl, rfl⟩)
      exact ⟨⟨k + 1, by omega, by go_num, _, rfl, lt32_byte _ _ he (by have := l[k].toNat_lt; omega), by have h := heq.out; show _ = _; rw [crc_take l k _ hk8, ← h]⟩, by simp [intOf]; omega⟩
    · go_wp2_with fail
      go_ret
      obtain rfl : k = l.length := by omega
      have := heq.out
      rw [List.take_length] at this
      refine ⟨?_, rfl⟩
      rw [sum_end e he]
      rw [this]
      rfl
end Go.Proofs.YtghcfmkmndldoaaDoor

/-
  The program's sum of parts, by its table.
-/
namespace Go.Proofs.YtghcfmkmndldoaaDoor
open Go.RowKit

/-- THE SLICE OF SLICES AT A READS AS ls, and all of it lies below block B. -/
def RBB (w : World) (B : Nat) (A : Option Addr) (ls : List (List UInt8)) : Prop :=
  ∀ k l, ls[k]? = some l → ∃ ad A' c, A = some ad ∧ ad.block < B ∧ w.cell? (ad.add k) = some (.slice A' l.length c) ∧ RB w B A' l ∧ l.length ≤ c
/-- a new slice of one slice -/
theorem RBB.one (w : World) {B : Nat} {A : Option Addr} {l : List UInt8} (c : Nat) (t : TypeId) (h : RB w B A l) (hB : B ≤ w.heap.size) (hc : l.length ≤ c) :
    RBB (w.alloc (.cells #[.slice A l.length c] t)) (w.heap.size + 1) (some ⟨w.heap.size, 0, none⟩) [l] := fun k l' hk => by
  have hk0 : k = 0 := by
    have := (List.getElem?_eq_some_iff.1 hk).1
    simp at this
    exact this
  subst hk0
  have : l' = l := by simpa using hk.symm
  subst this
  refine ⟨_, A, c, rfl, by show w.heap.size < _; omega, ?_, (h.alloc hB _).wide (by omega), hc⟩
  rw [show (⟨w.heap.size, 0, none⟩ : Addr).add 0 = ⟨w.heap.size, 0, none⟩ from rfl, World.cell?_alloc_new]
  rfl
/-- THE PROGRAM's TABLE lies in its first block. -/
def Tab (w : World) : Prop := ∀ r, r < 16 → w.cell? ⟨0, r, none⟩ = some (.int .u32 (halfOf r : Nat))

theorem Tab.below {w w' : World} {B : Nat} (h : Tab w) (hb : Below B w w') (hB : 0 < B) : Tab w' := fun r hr => (hb.cell (p := ⟨0, r, none⟩) hB).trans (h r hr)
theorem Tab.pos {w : World} (h : Tab w) : 0 < w.heap.size := World.block_lt_of_cell? w ⟨0, 0, none⟩ (h 0 (by omega))

theorem not_u32 (e : Nat) (h : e < 4294967296) : bits .xor .u32 IntKind.u32.max (e : Int) = ((4294967295 - e : Nat) : Int) := by
  have h1 := u32_xor_nat 4294967295 e (by omega) h
  have h2 := sum_end e h
  have h3 := u32_xor_nat e 4294967295 h (by omega)
  rw [Nat.xor_comm] at h1
  have h4 : IntKind.u32.max = ((4294967295 : Nat) : Int) := by decide
  rw [h4, h1, ← h3]
  exact h2
/-- what half a byte's turn tells the walk, every number a letter -/
theorem half_facts {w : World} (ht : Tab w) (a : Nat) (ha : a < 4294967296) : ∃ r h b : Nat, r < 16 ∧ bits .and .u32 (a : Int) 15 = (r : Int) ∧ w.cell? ⟨0, r, none⟩ = some (.int .u32 (h : Int)) ∧
    bits .xor .u32 ((a : Int) / 16) (h : Int) = (b : Int) ∧ b < 4294967296 ∧ Hid (b = halfStep a) := by
  have h1 : ∀ r : Fin 16, halfOf r.val < 4294967296 := by decide +kernel
  have h2 : halfOf (a % 16) < 4294967296 := h1 ⟨a % 16, by omega⟩
  refine ⟨a % 16, halfOf (a % 16), halfStep a, by omega, ?_, ht _ (by omega), ?_, lt32_half a ha, rfl⟩
  · have := u32_and_nat a 15 ha (by omega)
    rw [show a &&& 15 = a % 16 from Nat.and_two_pow_sub_one_eq_mod a 4] at this
    exact this
  · exact u32_xor_nat (a / 16) (halfOf (a % 16)) (by omega) h2

set_option maxRecDepth 20000 in
set_option maxHeartbeats 400000 in
theorem sum_any (A : Option Addr) (c : Nat) (ls : List (List UInt8)) (w : World) (B : Nat) (ht : Tab w) (hr : RBB w B A ls) (hl : ls.length ≤ 1099511627776) (hll : ∀ l ∈ ls, l.length ≤ 1099511627776) :
    Calls Tryd.prog 89 #[.slice A ls.length c] w fun e w' => e = .returned (.int .u32 (sumOf ls.flatten : Nat)) ∧ w = w' := by
  have Ht := Lib.hid ht
  have Hr := Lib.hid hr
  have Hl := Lib.hid hl
  have Hll := Lib.hid hll
  clear hr hl hll ht
  go_enter Tryd.func89, Tryd.ntmps89
  go_wp2_with fail
  go_loop [3, 10] (fun d i => ∃ k : Nat, k ≤ ls.length ∧ i = .int .i64 (k : Int) ∧ ∃ e : Nat, d = .int .u32 (e : Int) ∧ e < 4294967296 ∧ Hid (e = crcFrom 4294967295 (ls.take k).flatten)) (fun _ i => (ls.length - intOf i).toNat)
  case atStart => exact ⟨0, by omega, rfl, 4294967295, rfl, by omega, rfl⟩
  case round =>
    obtain ⟨k, hk, rfl, e, rfl, he, heq⟩ := hrel
    have hl2 : ls.length ≤ 1099511627776 := Hl.out
    by_cases hk8 : k < ls.length
    · obtain ⟨ad, A', c', rfl, hb, hc, hrb, hcap⟩ := Hr.out k _ (List.getElem?_eq_getElem hk8)
      have hl3 : ls[k].length ≤ 1099511627776 := Hll.out _ (List.getElem_mem hk8)
      have Hrb := Lib.hid hrb
      clear hrb
      go_wp2_with fail
      go_loop [3, 16] (fun d i => ∃ j : Nat, j ≤ ls[k].length ∧ i = .int .i64 (j : Int) ∧ ∃ e' : Nat, d = .int .u32 (e' : Int) ∧ e' < 4294967296 ∧ Hid (e' = crcFrom e (ls[k].take j))) (fun _ i => (ls[k].length - intOf i).toNat)
      case atStart => exact ⟨0, by omega, rfl, e, rfl, he, rfl⟩
      case round =>
        obtain ⟨j, hj, rfl, e', rfl, he', heq'⟩ := hrel
        by_cases hj8 : j < ls[k].length
        · obtain ⟨ad', rfl, hb', hc'⟩ := Hrb.out.at_ hj8
          have hx : ls[k][j].toNat < 256 := by have := ls[k][j].toNat_lt; omega
          have hcr := crc_take ls[k] j e hj8
          generalize ls[k][j].toNat = x at hc' hx hcr
          have hx' : (x : Int) < 256 := by omega
          have hxor : bits .xor .u32 (e' : Int) (x : Int) = ((e' ^^^ x : Nat) : Int) := u32_xor_nat e' x he' (by omega)
          have hlt : e' ^^^ x < 4294967296 := Nat.xor_lt_two_pow (n := 32) he' (by omega)
          have hby : Hid (crcByte e' x = halfStep (halfStep (e' ^^^ x))) := rfl
          generalize e' ^^^ x = a at hxor hlt hby
          obtain ⟨r1, h1, b1, hr1, hand1, hcell1, hxor1, hb1, hq1⟩ := half_facts Ht.out a hlt
          obtain ⟨r2, h2, b2, hr2, hand2, hcell2, hxor2, hb2, hq2⟩ := half_facts Ht.out b1 hb1
          have Hcr := Lib.hid hcr
          clear hcr
          go_wp2_with fail
          exact ⟨⟨j + 1, by omega, by go_num, b2, rfl, hb2, by
            have h := heq'.out
            have h3 := hby.out
            have h4 := hq1.out
            have h5 := hq2.out
            have h6 := Hcr.out
            show _ = _
            rw [h6, ← h, h3, h5, h4]⟩, by simp [intOf]; omega⟩
        · go_wp2_with fail
          obtain rfl : j = ls[k].length := by omega
          exact ⟨⟨k + 1, by omega, by go_num, e', rfl, he', by
            have h := heq'.out
            have h1 := heq.out
            show _ = _
            rw [h, h1, List.take_succ_eq_append_getElem hk8, List.flatten_append, crcFrom_append, List.take_length]
            simp⟩, by simp [intOf]; omega⟩
    · go_wp2_with fail
      go_ret
      obtain rfl : k = ls.length := by omega
      have h1 := heq.out
      rw [List.take_length] at h1
      have h2 := not_u32 e he
      refine ⟨?_, rfl⟩
      show Ending.returned (.int .u32 (bits .xor .u32 IntKind.u32.max (e : Int))) = _
      rw [h2, h1]
      rfl
end Go.Proofs.YtghcfmkmndldoaaDoor

/-
  Parts laid behind one another, if they aren't too many.
-/
namespace Go.Proofs.YtghcfmkmndldoaaDoor
open Go.RowKit

theorem RBB.below {w w' : World} {B : Nat} {A : Option Addr} {ls : List (List UInt8)} (h : RBB w B A ls) (hb : Below B w w') : RBB w' B A ls := fun k l hk => by
  obtain ⟨ad, A', c, e, hlt, hc, hr, hl⟩ := h k l hk
  exact ⟨ad, A', c, e, hlt, (hb.cell (by rw [add_block]; exact hlt)).trans hc, hr.below hb, hl⟩
theorem le_sum (l : List Nat) (n : Nat) (h : n ∈ l) : n ≤ l.sum := by
  induction l with
  | nil => cases h
  | cons x l ih =>
    rw [List.sum_cons]
    cases List.mem_cons.1 h with
    | inl e => subst e; omega
    | inr e => have := ih e; omega
theorem RBB.wide {w : World} {B B' : Nat} {A : Option Addr} {ls : List (List UInt8)} (h : RBB w B A ls) (hB : B ≤ B') : RBB w B' A ls := fun k l hk => by
  obtain ⟨ad, A', c, e, hlt, hc, hr, hl⟩ := h k l hk
  exact ⟨ad, A', c, e, Nat.lt_of_lt_of_le hlt hB, hc, hr.wide hB, hl⟩
theorem RBB.all_le {w : World} {B : Nat} {A : Option Addr} {ls : List (List UInt8)} (_h : RBB w B A ls) (hl : ls.flatten.length ≤ 65536) : ∀ l ∈ ls, l.length ≤ 65536 := by
  intro l hm
  have : l.length ≤ ls.flatten.length := by
    rw [List.length_flatten]
    exact le_sum _ _ (List.mem_map_of_mem hm)
  omega
theorem flatten_take (ls : List (List UInt8)) (k : Nat) (h : k < ls.length) : (ls.take (k + 1)).flatten = (ls.take k).flatten ++ ls[k] := by
  rw [List.take_succ_eq_append_getElem h, List.flatten_append]
  simp

end Go.Proofs.YtghcfmkmndldoaaDoor
