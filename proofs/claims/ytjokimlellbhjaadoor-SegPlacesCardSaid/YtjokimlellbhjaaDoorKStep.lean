/-
  The plain program's byte of a remainder, bit by bit.
-/
import Derived.Test.YtjokimlellbhjaaDoorKBase
import Derived.Test.YtjokimlellbhjaaDoorCrc
namespace Go.Proofs.YtjokimlellbhjaaDoor
open Go.RowKit

set_option maxRecDepth 20000 in
set_option maxHeartbeats 400000 in
theorem step_any (c x : Nat) (w : World) (hc : c < 4294967296) (hx : x < 256) :
    Calls Tryd.prog 73 #[.int .u32 (c : Int), .int .u8 (x : Int)] w fun e w' => e = .returned (.int .u32 (crcByte c x : Nat)) ∧ w = w' := by
  have h1 : bits .xor .u32 (c : Int) (x : Int) = ((c ^^^ x : Nat) : Int) := u32_xor_nat c x hc (by omega)
  have hlt : c ^^^ x < 4294967296 := Nat.xor_lt_two_pow (n := 32) hc (by omega)
  have H1 := Lib.hid h1
  have Hlt := Lib.hid hlt
  clear h1 hlt
  go_enter Tryd.func73, Tryd.ntmps73
  go_wp2_with fail
  go_loop [0, 5] (fun d i => ∃ k : Nat, k ≤ 8 ∧ i = .int .i64 (k : Int) ∧ ∃ e : Nat, d = .int .u32 (e : Int) ∧ e < 4294967296 ∧ Hid (bitSteps 8 (c ^^^ x) = bitSteps (8 - k) e)) (fun _ i => (8 - intOf i).toNat)
  case atStart => exact ⟨0, by omega, rfl, c ^^^ x, by rw [H1.out], Hlt.out, rfl⟩
  case round =>
    obtain ⟨k, hk, rfl, e, rfl, he, heq⟩ := hrel
    have He := Lib.hid he
    clear he
    by_cases hk8 : k < 8
    · go_wp2_with fail
      all_goals
        have h7 : 8 - k = (8 - (k + 1)) + 1 := by omega
        have he := He.out
        have hq := heq.out
        have ha : bits .and .u32 (e : Int) 1 = ((e % 2 : Nat) : Int) := by
          have := u32_and_nat e 1 he (by omega)
          rw [Nat.and_one_is_mod] at this
          exact this
        rw [h7] at hq
      · have ho : (bits .and .u32 (e : Int) 1 == 1) = true := by assumption
        have ho : e % 2 = 1 := by rw [ha] at ho; have := eq_of_beq ho; omega
        have hx : bits .xor .u32 ((e : Int) / 2) 2197175160 = ((bitStep e : Nat) : Int) := by
          have := u32_xor_nat (e / 2) 2197175160 (by omega) (by omega)
          unfold bitStep
          rw [if_pos ho]
          exact this
        exact ⟨⟨k + 1, by omega, by go_num, bitStep e, by rw [hx], by rw [bitStep, if_pos ho]; exact Nat.xor_lt_two_pow (n := 32) (by omega) (by decide), hq⟩, by simp [intOf]; omega⟩
      · have ho : (bits .and .u32 (e : Int) 1 == 1) = false := by assumption
        have ho : ¬ e % 2 = 1 := by rw [ha] at ho; have := beq_eq_false_iff_ne.1 ho; omega
        exact ⟨⟨k + 1, by omega, by go_num, bitStep e, by rw [bitStep, if_neg ho]; go_num, by rw [bitStep, if_neg ho]; omega, hq⟩, by simp [intOf]; omega⟩
    · go_wp2_with fail
      go_ret
      obtain rfl : k = 8 := by omega
      have := heq.out
      refine ⟨?_, rfl⟩
      rw [crcByte_bits, this]
      rfl
end Go.Proofs.YtjokimlellbhjaaDoor

/-
  The plain program's sum of one part.
-/
namespace Go.Proofs.YtjokimlellbhjaaDoor
open Go.RowKit

theorem sum_end (c : Nat) (h : c < 4294967296) : bits .xor .u32 (c : Int) 4294967295 = ((4294967295 - c : Nat) : Int) := by
  have := u32_xor_nat c 4294967295 h (by omega)
  have e : c ^^^ 4294967295 = 4294967295 - c := by
    apply Nat.eq_of_testBit_eq
    intro i
    have h2 := Nat.testBit_two_pow_sub_succ (n := 32) (x := c) h i
    have h3 : (2 : Nat) ^ 32 - (c + 1) = 4294967295 - c := by omega
    rw [h3] at h2
    have h4 := Nat.testBit_two_pow_sub_one 32 i
    have h5 : (2 : Nat) ^ 32 - 1 = 4294967295 := by decide
    rw [h5] at h4
    rw [Nat.testBit_xor, h2, h4]
    by_cases hi : i < 32
    · simp [hi]
    · have := Nat.testBit_lt_two_pow (x := c) (i := i) (Nat.lt_of_lt_of_le h (Nat.pow_le_pow_right (n := 2) (by omega) (show 32 ≤ i by omega)))
      simp [hi, this]
  rw [e] at this
  exact this

theorem crc_take (l : List UInt8) (k c : Nat) (h : k < l.length) : crcFrom c (l.take (k + 1)) = crcByte (crcFrom c (l.take k)) l[k].toNat := by
  rw [List.take_succ_eq_append_getElem h, crcFrom_append]
  rfl

set_option maxRecDepth 20000 in
set_option maxHeartbeats 400000 in
theorem refSum_any (A : Option Addr) (c : Nat) (l : List UInt8) (w : World) (B : Nat) (hr : RB w B A l) (hl : l.length ≤ 1099511627776) :
    Calls Tryd.prog 56 #[.slice A l.length c] w fun e w' => e = .returned (.int .u32 (sumOf l : Nat)) ∧ w = w' := by
  have Hr := Lib.hid hr
  have Hl := Lib.hid hl
  clear hr hl
  go_enter Tryd.func56, Tryd.ntmps56
  go_wp2_with fail
  go_loop [3, 4] (fun d i => ∃ k : Nat, k ≤ l.length ∧ i = .int .i64 (k : Int) ∧ ∃ e : Nat, d = .int .u32 (e : Int) ∧ e < 4294967296 ∧ Hid (e = crcFrom 4294967295 (l.take k))) (fun _ i => (l.length - intOf i).toNat)
  case atStart => exact ⟨0, by omega, rfl, 4294967295, rfl, by omega, rfl⟩
  case round =>
    obtain ⟨k, hk, rfl, e, rfl, he, heq⟩ := hrel
    have hl2 : l.length ≤ 1099511627776 := Hl.out
    by_cases hk8 : k < l.length
    · obtain ⟨ad, rfl, hb, hc⟩ := Hr.out.at_ hk8
      go_wp2_with (go_at_call 73; refine (step_any e l[k].toNat _ he (by have := l[k].toNat_lt; omega)).mono ?_; rintro e w' ⟨rfl, rfl⟩)
      exact ⟨⟨k + 1, by omega, by go_num, _, rfl, lt32_byte _ _ he (by have := l[k].toNat_lt; omega), by have h := heq.out; show _ = _; rw [crc_take l k _ hk8, ← h]⟩, by simp [intOf]; omega⟩
    · go_wp2_with fail
      go_ret
      obtain rfl : k = l.length := by omega
      have := heq.out
      rw [List.take_length] at this
      refine ⟨?_, rfl⟩
      rw [sum_end e he]
      rw [this]
      rfl
end Go.Proofs.YtjokimlellbhjaaDoor

/-
  The program's sum of parts, by its table.
-/
namespace Go.Proofs.YtjokimlellbhjaaDoor
open Go.RowKit

/-- THE SLICE OF SLICES AT A READS AS ls, and all of it lies below block B. -/
def RBB (w : World) (B : Nat) (A : Option Addr) (ls : List (List UInt8)) : Prop :=
  ∀ k l, ls[k]? = some l → ∃ ad A' c, A = some ad ∧ ad.block < B ∧ w.cell? (ad.add k) = some (.slice A' l.length c) ∧ RB w B A' l ∧ l.length ≤ c
/-- a new slice of one slice -/
theorem RBB.one (w : World) {B : Nat} {A : Option Addr} {l : List UInt8} (c : Nat) (t : TypeId) (h : RB w B A l) (hB : B ≤ w.heap.size) (hc : l.length ≤ c) :
    RBB (w.alloc (.cells #[.slice A l.length c] t)) (w.heap.size + 1) (some ⟨w.heap.size, 0, none⟩) [l] := fun k l' hk => by
  have hk0 : k = 0 := by
    have := (List.getElem?_eq_some_iff.1 hk).1
    simp at this
    exact this
  subst hk0
  have : l' = l := by simpa using hk.symm
  subst this
  refine ⟨_, A, c, rfl, by show w.heap.size < _; omega, ?_, (h.alloc hB _).wide (by omega), hc⟩
  rw [show (⟨w.heap.size, 0, none⟩ : Addr).add 0 = ⟨w.heap.size, 0, none⟩ from rfl, World.cell?_alloc_new]
  rfl
/-- THE PROGRAM's TABLE lies in its first block. -/
def Tab (w : World) : Prop := ∀ r, r < 16 → w.cell? ⟨0, r, none⟩ = some (.int .u32 (halfOf r : Nat))

theorem Tab.below {w w' : World} {B : Nat} (h : Tab w) (hb : Below B w w') (hB : 0 < B) : Tab w' := fun r hr => (hb.cell (p := ⟨0, r, none⟩) hB).trans (h r hr)
theorem Tab.pos {w : World} (h : Tab w) : 0 < w.heap.size := World.block_lt_of_cell? w ⟨0, 0, none⟩ (h 0 (by omega))

theorem not_u32 (e : Nat) (h : e < 4294967296) : bits .xor .u32 IntKind.u32.max (e : Int) = ((4294967295 - e : Nat) : Int) := by
  have h1 := u32_xor_nat 4294967295 e (by omega) h
  have h2 := sum_end e h
  have h3 := u32_xor_nat e 4294967295 h (by omega)
  rw [Nat.xor_comm] at h1
  have h4 : IntKind.u32.max = ((4294967295 : Nat) : Int) := by decide
  rw [h4, h1, ← h3]
  exact h2
/-- what half a byte's turn tells the walk, every number a letter -/
theorem half_facts {w : World} (ht : Tab w) (a : Nat) (ha : a < 4294967296) : ∃ r h b : Nat, r < 16 ∧ bits .and .u32 (a : Int) 15 = (r : Int) ∧ w.cell? ⟨0, r, none⟩ = some (.int .u32 (h : Int)) ∧
    bits .xor .u32 ((a : Int) / 16) (h : Int) = (b : Int) ∧ b < 4294967296 ∧ Hid (b = halfStep a) := by
  have h1 : ∀ r : Fin 16, halfOf r.val < 4294967296 := by decide +kernel
  have h2 : halfOf (a % 16) < 4294967296 := h1 ⟨a % 16, by omega⟩
  refine ⟨a % 16, halfOf (a % 16), halfStep a, by omega, ?_, ht _ (by omega), ?_, lt32_half a ha, rfl⟩
  · have := u32_and_nat a 15 ha (by omega)
    rw [show a &&& 15 = a % 16 from Nat.and_two_pow_sub_one_eq_mod a 4] at this
    exact this
  · exact u32_xor_nat (a / 16) (halfOf (a % 16)) (by omega) h2

set_option maxRecDepth 20000 in
set_option maxHeartbeats 400000 in
theorem sum_any (A : Option Addr) (c : Nat) (ls : List (List UInt8)) (w : World) (B : Nat) (ht : Tab w) (hr : RBB w B A ls) (hl : ls.length ≤ 1099511627776) (hll : ∀ l ∈ ls, l.length ≤ 1099511627776) :
    Calls Tryd.prog 70 #[.slice A ls.length c] w fun e w' => e = .returned (.int .u32 (sumOf ls.flatten : Nat)) ∧ w = w' := by
  have Ht := Lib.hid ht
  have Hr := Lib.hid hr
  have Hl := Lib.hid hl
  have Hll := Lib.hid hll
  clear hr hl hll ht
  go_enter Tryd.func70, Tryd.ntmps70
  go_wp2_with fail
  go_loop [3, 10] (fun d i => ∃ k : Nat, k ≤ ls.length ∧ i = .int .i64 (k : Int) ∧ ∃ e : Nat, d = .int .u32 (e : Int) ∧ e < 4294967296 ∧ Hid (e = crcFrom 4294967295 (ls.take k).flatten)) (fun _ i => (ls.length - intOf i).toNat)
  case atStart => exact ⟨0, by omega, rfl, 4294967295, rfl, by omega, rfl⟩
  case round =>
    obtain ⟨k, hk, rfl, e, rfl, he, heq⟩ := hrel
    have hl2 : ls.length ≤ 1099511627776 := Hl.out
    by_cases hk8 : k < ls.length
    · obtain ⟨ad, A', c', rfl, hb, hc, hrb, hcap⟩ := Hr.out k _ (List.getElem?_eq_getElem hk8)
      have hl3 : ls[k].length ≤ 1099511627776 := Hll.out _ (List.getElem_mem hk8)
      have Hrb := Lib.hid hrb
      clear hrb
      go_wp2_with fail
      go_loop [3, 16] (fun d i => ∃ j : Nat, j ≤ ls[k].length ∧ i = .int .i64 (j : Int) ∧ ∃ e' : Nat, d = .int .u32 (e' : Int) ∧ e' < 4294967296 ∧ Hid (e' = crcFrom e (ls[k].take j))) (fun _ i => (ls[k].length - intOf i).toNat)
      case atStart => exact ⟨0, by omega, rfl, e, rfl, he, rfl⟩
      case round =>
        obtain ⟨j, hj, rfl, e', rfl, he', heq'⟩ := hrel
        by_cases hj8 : j < ls[k].length
        · obtain ⟨ad', rfl, hb', hc'⟩ := Hrb.out.at_ hj8
          have hx : ls[k][j].toNat < 256 := by have := ls[k][j].toNat_lt; omega
          have hcr := crc_take ls[k] j e hj8
          generalize ls[k][j].toNat = x at hc' hx hcr
          have hx' : (x : Int) < 256 := by omega
          have hxor : bits .xor .u32 (e' : Int) (x : Int) = ((e' ^^^ x : Nat) : Int) := u32_xor_nat e' x he' (by omega)
          have hlt : e' ^^^ x < 4294967296 := Nat.xor_lt_two_pow (n := 32) he' (by omega)
          have hby : Hid (crcByte e' x = halfStep (halfStep (e' ^^^ x))) := rfl
          generalize e' ^^^ x = a at hxor hlt hby
          obtain ⟨r1, h1, b1, hr1, hand1, hcell1, hxor1, hb1, hq1⟩ := half_facts Ht.out a hlt
          obtain ⟨r2, h2, b2, hr2, hand2, hcell2, hxor2, hb2, hq2⟩ := half_facts Ht.out b1 hb1
          have Hcr := Lib.hid hcr
          clear hcr
          go_wp2_with fail
          exact ⟨⟨j + 1, by omega, by go_num, b2, rfl, hb2, by
            have h := heq'.out
            have h3 := hby.out
            have h4 := hq1.out
            have h5 := hq2.out
            have h6 := Hcr.out
            show _ = _
            rw [h6, ← h, h3, h5, h4]⟩, by simp [intOf]; omega⟩
        · go_wp2_with fail
          obtain rfl : j = ls[k].length := by omega
          exact ⟨⟨k + 1, by omega, by go_num, e', rfl, he', by
            have h := heq'.out
            have h1 := heq.out
            show _ = _
            rw [h, h1, List.take_succ_eq_append_getElem hk8, List.flatten_append, crcFrom_append, List.take_length]
            simp⟩, by simp [intOf]; omega⟩
    · go_wp2_with fail
      go_ret
      obtain rfl : k = ls.length := by omega
      have h1 := heq.out
      rw [List.take_length] at h1
      have h2 := not_u32 e he
      refine ⟨?_, rfl⟩
      show Ending.returned (.int .u32 (bits .xor .u32 IntKind.u32.max (e : Int))) = _
      rw [h2, h1]
      rfl
end Go.Proofs.YtjokimlellbhjaaDoor
