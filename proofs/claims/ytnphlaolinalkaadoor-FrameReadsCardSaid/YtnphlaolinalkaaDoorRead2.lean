/-
  More on bytes: four bytes, all noughts, a copy, a store into a slice, one behind the other.
-/
import Derived.Test.YtnphlaolinalkaaDoorGet
import Derived.BigQuiet
import Derived.Deep.QuietTactic
namespace Go.Proofs.YtnphlaolinalkaaDoor
open Go.RowKit

set_option maxRecDepth 20000 in
set_option maxHeartbeats 400000 in
theorem blank_any (A : Option Addr) (c : Nat) (l : List UInt8) (w : World) (B : Nat) (hr : RB w B A l) (hl : l.length ≤ 1099511627776) :
    Calls Tryd.prog 39 #[.slice A l.length c] w fun e w' => e = .returned (.bool (l.all (· == 0))) ∧ w = w' := by
  have Hr := Lib.hid hr
  clear hr
  go_enter Tryd.func39, Tryd.ntmps39
  go_wp2_with fail
  go_loop [7] (fun i => ∃ k : Nat, k ≤ l.length ∧ i = .int .i64 (k : Int) ∧ Hid ((l.take k).all (· == 0) = true)) (fun i => (l.length - intOf i).toNat)
  case atStart => exact ⟨0, by omega, rfl, rfl⟩
  case round =>
    obtain ⟨k, hk, rfl, heq⟩ := hrel
    by_cases hkl : k < l.length
    · obtain ⟨ad, rfl, hb, hcell⟩ := Hr.out.at_ hkl
      by_cases h0 : l[k] = 0
      · have hz : (l[k].toNat : Int) = 0 := by rw [h0]; rfl
        rw [hz] at hcell
        have H0 := Lib.hid h0
        clear h0 hz
        go_wp2_with fail
        exact ⟨⟨k + 1, by omega, by go_num, by
          have h1 := heq.out
          have h2 := H0.out
          show _ = _
          rw [List.take_succ_eq_append_getElem hkl, List.all_append, h1, h2]
          rfl⟩, by simp [intOf]; omega⟩
      · have hz : 0 < (l[k].toNat : Int) := by
          have : l[k].toNat ≠ 0 := fun e => h0 (UInt8.toNat_inj.1 e)
          omega
        generalize l[k].toNat = x at hcell hz
        go_wp2_with fail
        go_ret
        refine ⟨?_, rfl⟩
        have : l.all (· == 0) = false := by
          rw [List.all_eq_false]
          exact ⟨l[k], List.getElem_mem hkl, by simpa using h0⟩
        rw [this]
        rfl
    · go_wp2_with fail
      go_ret
      refine ⟨?_, rfl⟩
      obtain rfl : k = l.length := by omega
      have h := heq.out
      rw [List.take_length] at h
      rw [h]
      rfl

theorem leNat_drop (l : List UInt8) (j : Nat) (h : j < l.length) : leNat (l.drop j) = l[j].toNat + 256 * leNat (l.drop (j + 1)) := by
  rw [List.drop_eq_getElem_cons h]
  rfl
/-- what a byte's turn tells the walk -/
theorem low_facts (l : List UInt8) (n j : Nat) (h : j < n) (hn : n ≤ 8) (hl : n ≤ l.length) : ∃ q : Nat, Hid (q = leNat ((l.take n).drop j)) ∧
    bits .or .u64 (IntKind.u64.wrap ((leNat ((l.take n).drop (j + 1)) : Int) * 256)) (l[j].toNat : Int) = (q : Int) := by
  have hj : j < (l.take n).length := by rw [List.length_take]; omega
  have h1 := leNat_drop (l.take n) j hj
  have hx := l[j].toNat_lt
  have he : (l.take n)[j] = l[j] := List.getElem_take
  rw [he] at h1
  have h2 := leNat_lt ((l.take n).drop (j + 1))
  rw [List.length_drop, List.length_take, Nat.min_eq_left hl] at h2
  have h3 : (256 : Nat) ^ (n - (j + 1)) ≤ 256 ^ 7 := Nat.pow_le_pow_right (by omega) (by omega)
  have h4 : (256 : Nat) ^ 7 = 72057594037927936 := by decide
  refine ⟨_, rfl, ?_⟩
  rw [h1]
  generalize leNat ((l.take n).drop (j + 1)) = q at h2
  have hw : IntKind.u64.wrap ((q : Int) * 256) = ((q * 256 : Nat) : Int) := by
    rw [IntKind.wrap_u64]
    omega
  rw [hw, u64_or_nat _ _ (by omega) (by omega)]
  have := Nat.shiftLeft_add_eq_or_of_lt (b := l[j].toNat) (i := 8) (by omega) q
  rw [Nat.shiftLeft_eq] at this
  rw [show q * 256 = q * 2 ^ 8 from rfl, ← this, Nat.mul_comm, Nat.add_comm]

set_option maxRecDepth 20000 in
set_option maxHeartbeats 400000 in
theorem readLow_any (A : Option Addr) (c : Nat) (l : List UInt8) (n : Nat) (w : World) (B : Nat) (hr : RB w B A l) (hn : n ≤ 8) (hl : n ≤ l.length) (hll : l.length ≤ 1099511627776) :
    Calls Tryd.prog 38 #[.slice A l.length c, .int .i64 (n : Int)] w fun e w' => e = .returned (.int .u64 (leNat (l.take n) : Nat)) ∧ w = w' := by
  have Hr := Lib.hid hr
  clear hr
  go_enter Tryd.func38, Tryd.ntmps38
  go_wp2_with fail
  go_loop [5, 6] (fun d i => ∃ k : Nat, k ≤ n ∧ ∃ z : Int, i = .int .i64 z ∧ Hid (z + 1 = (k : Int)) ∧ ∃ m : Nat, d = .int .u64 (m : Int) ∧ Hid (m = leNat ((l.take n).drop k))) (fun _ i => (intOf i + 1).toNat)
  case atStart => exact ⟨n, by omega, _, rfl, (by omega : (n : Int) - 1 + 1 = n), 0, rfl, by show 0 = _; rw [List.drop_eq_nil_of_le (by simp; omega)]; rfl⟩
  case round =>
    obtain ⟨k, hk, z, rfl, hz, m, rfl, heq⟩ := hrel
    by_cases hkl : 0 < k
    · obtain ⟨j, rfl⟩ : ∃ j : Nat, z = (j : Int) := ⟨k - 1, by have := hz.out; omega⟩
      obtain rfl : k = j + 1 := by have := hz.out; omega
      have hjl : j < l.length := by omega
      obtain ⟨ad, rfl, hb, hcell⟩ := Hr.out.at_ hjl
      obtain ⟨q, hq, hor⟩ := low_facts l n j (by omega) hn hl
      rw [← heq.out] at hor
      have hx : (l[j].toNat : Int) < 256 := by have := l[j].toNat_lt; omega
      generalize l[j].toNat = x at hcell hor hx
      clear heq
      go_wp2_with fail
      exact ⟨⟨j, by omega, _, rfl, (by omega : (j : Int) - 1 + 1 = j), q, rfl, hq⟩, by simp [intOf]⟩
    · obtain rfl : z = -1 := by have := hz.out; omega
      go_wp2_with fail
      go_ret
      refine ⟨?_, rfl⟩
      obtain rfl : k = 0 := by omega
      rw [heq.out]
      rfl
end Go.Proofs.YtnphlaolinalkaaDoor
