/-
  The plain program's reader of numbers.
-/
import Derived.Test.YtnphlaolinalkaaDoorBase
import Derived.Test.YtnphlaolinalkaaDoorRead1
namespace Go.Proofs.YtnphlaolinalkaaDoor
open Go.RowKit

/-- the three answers of a reader of numbers -/
def rnVal (r : Nat × Nat × Nat) : Value := .tuple #[.int .u64 (r.1 : Int), .int .i64 (r.2.1 : Int), .int .i64 (r.2.2 : Int)]

/-- what a byte's turn tells the walk -/
theorem rn_facts (n x k : Nat) (h : n < 128 ^ k) (hk : k < 10) (hx : x < 256) (h9 : ¬ (k = 9 ∧ 1 < x)) : ∃ m : Nat, Hid (m = n + x % 128 * 128 ^ k) ∧ Hid (m < 128 ^ (k + 1)) ∧
    bits .or .u64 (n : Int) (IntKind.u64.wrap (bits .and .u64 (x : Int) 127 * 2 ^ (7 * k))) = (m : Int) ∧
    ∃ y : Nat, y < 128 ∧ bits .and .u8 (x : Int) 127 = (y : Int) ∧ bits .or .u64 (n : Int) (IntKind.u64.wrap ((y : Int) * 2 ^ (7 * k))) = (m : Int) := by
  obtain ⟨h1, h2, h3⟩ := rn_room n x k h hk hx h9
  have e64 : (2 : Nat) ^ 64 = 18446744073709551616 := by decide
  have hn : n < 18446744073709551616 := by omega
  have hand : x &&& 127 = x % 128 := Nat.and_two_pow_sub_one_eq_mod x 7
  have a1 : bits .and .u64 (x : Int) 127 = ((x % 128 : Nat) : Int) := by
    have := u64_and_nat x 127 (by omega) (by omega)
    rw [hand] at this
    exact this
  have a2 : bits .and .u8 (x : Int) 127 = ((x % 128 : Nat) : Int) := by
    have := u8_and_nat x 127 (by omega) (by omega)
    rw [hand] at this
    exact this
  have e : (2 : Int) ^ (7 * k) = ((128 ^ k : Nat) : Int) := by
    have : (128 : Nat) ^ k = 2 ^ (7 * k) := by rw [Nat.pow_mul]
    rw [this]
    simp
  have hw : IntKind.u64.wrap (((x % 128 : Nat) : Int) * ((128 ^ k : Nat) : Int)) = ((x % 128 * 128 ^ k : Nat) : Int) := by
    rw [IntKind.wrap_u64, ← Int.natCast_mul]
    omega
  have ho : bits .or .u64 (n : Int) ((x % 128 * 128 ^ k : Nat) : Int) = ((n + x % 128 * 128 ^ k : Nat) : Int) := by
    rw [u64_or_nat n _ hn (by omega), rn_or n _ k h]
  refine ⟨_, rfl, h1, ?_, x % 128, by omega, a2, ?_⟩
  · rw [a1, e, hw, ho]
  · rw [e, hw, ho]
theorem drop_at (l : List UInt8) (k : Nat) (x8 : UInt8) (h : k < l.length) (e : l[k] = x8) : l.drop k = x8 :: l.drop (k + 1) := by
  rw [← e]; exact List.drop_eq_getElem_cons h

set_option maxRecDepth 20000 in
set_option maxHeartbeats 400000 in
theorem refRn_any (A : Option Addr) (c : Nat) (l : List UInt8) (w : World) (B : Nat) (hr : RB w B A l) (hl : l.length ≤ 1099511627776) :
    Calls Tryd.prog 15 #[.slice A l.length c] w fun e w' => e = .returned (rnVal (readNum l)) ∧ w = w' := by
  have Hr := Lib.hid hr
  clear hr
  go_enter Tryd.func15, Tryd.ntmps15
  go_wp2_with fail
  go_loop [5, 6] (fun d i => ∃ k : Nat, k ≤ 10 ∧ i = .int .i64 (k : Int) ∧ ∃ n : Nat, d = .int .u64 (n : Int) ∧ Hid (n < 128 ^ k) ∧ Hid (readNum l = rnGo (10 - k) k n (l.drop k))) (fun _ i => (10 - intOf i).toNat)
  case atStart => exact ⟨0, by omega, rfl, 0, rfl, (by decide : 0 < 128 ^ 0), rfl⟩
  case round =>
    obtain ⟨k, hk, rfl, n, rfl, hn, heq⟩ := hrel
    by_cases hk10 : k < 10
    · by_cases hkl : k < l.length
      · obtain ⟨ad, rfl, hb, hc⟩ := Hr.out.at_ hkl
        have hx : (l[k].toNat : Int) < 256 := by have := l[k].toNat_lt; omega
        generalize hgx : l[k] = x8 at hc hx
        generalize hgx2 : x8.toNat = x at hc hx
        have hd := drop_at l k x8 hkl hgx
        have hq : readNum l = rnGo ((9 - k) + 1) k n (x8 :: l.drop (k + 1)) := by
          rw [← hd, show (9 - k) + 1 = 10 - k from by omega]
          exact heq.out
        have hgx2' : Hid (x = x8.toNat) := hgx2.symm
        have Hq := Lib.hid hq
        clear hgx hgx2 hd hq heq
        by_cases hov : k = 9 ∧ 1 < x
        · obtain ⟨hk9', h1x⟩ := hov
          have hk9 : 9 ≤ k := by omega
          clear hk9'
          go_wp2_with fail
          go_ret3
          refine ⟨?_, rfl⟩
          obtain rfl : k = 9 := by omega
          rw [Hq.out, rnGo_over _ _ _ _ (by rw [← hgx2'.out]; exact h1x)]
          rfl
        · obtain ⟨m, hm, hm2, hor, _⟩ := rn_facts n x k hn.out hk10 (by omega) hov
          have Hov := Lib.hid hov
          clear hov
          by_cases hx128 : x < 128
          · by_cases hx0 : x = 0
            · have hx0' : x ≤ 0 := by omega
              have hx0'' : Hid (x8.toNat = 0) := by show _ = _; rw [← hgx2'.out]; exact hx0
              clear hx0
              by_cases hk0 : 0 < k
              · by_cases hk9 : 9 ≤ k
                all_goals
                  go_wp2_with fail
                  go_ret3
                  refine ⟨?_, rfl⟩
                  rw [Hq.out, rnGo_zero _ _ _ _ _ hx0''.out hk0]
                  rfl
              · go_wp2_with fail
                go_ret3
                refine ⟨?_, rfl⟩
                rw [Hq.out, rnGo_end _ _ _ _ _ (by omega) (by rw [← hgx2'.out]; omega) (by omega), ← hgx2'.out, ← hm.out]
                rfl
            · by_cases hk9 : 9 ≤ k
              · have hx1 : x ≤ 1 := by have := Hov.out; omega
                go_wp2_with fail
                go_ret3
                refine ⟨?_, rfl⟩
                obtain rfl : k = 9 := by omega
                rw [Hq.out, rnGo_end _ _ _ _ _ (by rw [← hgx2'.out]; exact Hov.out) (by rw [← hgx2'.out]; omega) (by rw [← hgx2'.out]; omega), ← hgx2'.out, ← hm.out]
                have hor9 : bits .or .u64 (n : Int) (IntKind.u64.wrap (bits .and .u64 (x : Int) 127 * 9223372036854775808)) = (m : Int) := hor
                show Ending.returned (.tuple #[.int .u64 (bits .or .u64 (n : Int) (IntKind.u64.wrap (bits .and .u64 (x : Int) 127 * 9223372036854775808))), .int .i64 10, .int .i64 0]) = _
                rw [hor9]
                rfl
              · go_wp2_with fail
                go_ret3
                refine ⟨?_, rfl⟩
                rw [Hq.out, rnGo_end _ _ _ _ _ (by rw [← hgx2'.out]; exact Hov.out) (by rw [← hgx2'.out]; omega) (by rw [← hgx2'.out]; omega), ← hgx2'.out, ← hm.out]
                rfl
          · by_cases hk9 : 9 ≤ k
            · exact absurd ⟨by omega, by omega⟩ Hov.out
            · go_wp2_with fail
              exact ⟨⟨k + 1, by omega, by go_num, m, rfl, hm2, by
                have h := Hq.out
                rw [rnGo_more _ _ _ _ _ (by rw [← hgx2'.out]; exact Hov.out) (by rw [← hgx2'.out]; exact hx128), ← hgx2'.out, ← hm.out] at h
                show _ = _
                rw [h, show 10 - (k + 1) = 9 - k from by omega]⟩, by simp [intOf]; omega⟩
      · go_wp2_with fail
        go_ret3
        refine ⟨?_, rfl⟩
        rw [heq.out, List.drop_eq_nil_of_le (by omega), show 10 - k = (9 - k) + 1 from by omega, rnGo_nil]
        rfl
    · go_wp2_with fail
      go_ret3
      refine ⟨?_, rfl⟩
      obtain rfl : k = 10 := by omega
      rw [heq.out]
      rfl
end Go.Proofs.YtnphlaolinalkaaDoor
