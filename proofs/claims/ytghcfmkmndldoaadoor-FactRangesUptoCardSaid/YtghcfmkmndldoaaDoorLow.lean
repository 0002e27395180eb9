/-
  The plain program's writers of so many bytes, and of four.
-/
import Derived.Test.YtghcfmkmndldoaaDoorKGet
import Derived.Deep.DeepMust
namespace Go.Proofs.YtghcfmkmndldoaaDoor
open Go.RowKit

theorem byte_of (v : Nat) : (v : Int) % 256 = ((UInt8.ofNat v).toNat : Int) := by rw [UInt8.toNat_ofNat']; omega

set_option maxRecDepth 20000 in
set_option maxHeartbeats 400000 in
theorem low_any (base : Nat) (b : Value) (l : List UInt8) (v n : Nat) (w : World) (hn : n ≤ 8) (hv : v < two64) (hown : Own w base b l) (hbase : base ≤ w.heap.size) (hl : l.length ≤ 1099511627776) :
    Calls Tryd.prog 64 #[b, .int .u64 (v : Int), .int .i64 (n : Int)] w fun e w' => ∃ b', e = .returned b' ∧ Own w' base b' (l ++ leBytes n v) ∧ Below base w w' := by
  have Hown := Lib.hid hown
  have Hv := Lib.hid hv
  have Hl := Lib.hid hl
  clear hown hv hl
  go_enter Tryd.func64, Tryd.ntmps64
  go_wp2_with fail
  go_loopw [0, 7] (fun d i wr => ∃ k : Nat, k ≤ n ∧ i = .int .i64 (k : Int) ∧ Hid (Own wr base d (l ++ leBytes k v)) ∧ Hid (Below base w wr)) (fun _ i _ => (n - intOf i).toNat)
  case atStart => exact ⟨0, by omega, rfl, by show Own _ _ _ _; rw [leBytes, List.append_nil]; exact Hown.out, Below.refl _ _⟩
  case round =>
    obtain ⟨k, hk, rfl, hown, hbel⟩ := hrel
    have Hs : Hid (base ≤ wr.heap.size) := Nat.le_trans hbase hbel.out.size
    by_cases hkl : k < n
    · have Hr : Hid ((l ++ leBytes k v).length + 1 ≤ 140737488355327) := by
        have := Hl.out
        show _ ≤ _
        rw [List.length_append, leBytes_length]
        omega
      have hsh : (v : Int) / 2 ^ (8 * k) = ((v / 256 ^ k : Nat) : Int) := by
        have : (256 : Nat) ^ k = 2 ^ (8 * k) := by rw [Nat.pow_mul]
        rw [this]
        simp
      generalize hm : v / 256 ^ k = m at hsh
      have hby : (m : Int) % 256 = ((UInt8.ofNat m).toNat : Int) := byte_of m
      generalize hy : (UInt8.ofNat m).toNat = y at hby
      have Hb : Hid ([Value.int .u8 (y : Int)] = bvs [UInt8.ofNat m]) := by show _ = _; rw [← hy]; rfl
      have Hm := Lib.hid hm
      clear hm hy
      go_wp2_with (at_builtin; refine app_bytes rfl (.tmp 13) (.tmp 20) rfl base _ _ rfl (Own.alloc hown.out _) _ _ 1 1 [UInt8.ofNat m] rfl rfl (RB.new _ _ _ _ Hb.out) Hr.out (Nat.le_trans Hs.out (by simp)) ?_; intro v1 w1 hown2 hbel2 _)
      exact ⟨⟨k + 1, by omega, by go_num, by
          show Own _ _ _ _
          rw [leBytes_snoc, ← List.append_assoc, Hm.out]
          exact hown2, (hbel.out.alloc Hs.out _).trans hbel2⟩, by simp [intOf]; omega⟩
    · go_wp2_with fail
      go_ret
      obtain rfl : k = n := by omega
      exact ⟨_, rfl, hown.out, hbel.out⟩

set_option maxRecDepth 20000 in
set_option maxHeartbeats 400000 in
theorem four_any (base : Nat) (b : Value) (l : List UInt8) (v : Nat) (w : World) (hv : v < 4294967296) (hown : Own w base b l) (hbase : base ≤ w.heap.size) (hl : l.length ≤ 1099511627776) :
    Calls Tryd.prog 65 #[b, .int .u32 (v : Int)] w fun e w' => ∃ b', e = .returned b' ∧ Own w' base b' (l ++ leBytes 4 v) ∧ Below base w w' := by
  have Hown := Lib.hid hown
  have Hv := Lib.hid hv
  have Hl := Lib.hid hl
  have Hs := Lib.hid hbase
  have Hr : Hid (l.length + 4 ≤ 140737488355327) := by show _ ≤ _; omega
  clear hown hv hl
  have Hb : Hid ([Value.int .u8 ((v : Int) % 256), .int .u8 ((v : Int) / 256 % 256), .int .u8 ((v : Int) / 65536 % 256), .int .u8 ((v : Int) / 16777216 % 256)] = bvs (leBytes 4 v)) := by
    show _ = _
    simp only [leBytes, bvs, List.map_cons, List.map_nil, bv, UInt8.toNat_ofNat', Nat.div_div_eq_div_mul]
    simp
  go_enter Tryd.func65, Tryd.ntmps65
  go_wp2_with (at_builtin; go_must (refine app_bytes rfl (.tmp 5) (.tmp 17) rfl base _ _ rfl (Own.alloc Hown.out _) _ _ 4 4 (leBytes 4 v) rfl rfl (RB.new _ _ _ _ Hb.out) Hr.out (Nat.le_trans Hs.out (by simp)) ?_); intro v1 w1 hown2 hbel2 _)
  go_ret
  exact ⟨v1, rfl, hown2, ((Below.refl _ _).alloc Hs.out _).trans hbel2⟩

theorem four_nat (l : List UInt8) (h : 4 ≤ l.length) {x0 x1 x2 x3 : Nat} (h0 : l[0].toNat = x0) (h1 : l[1].toNat = x1) (h2 : l[2].toNat = x2) (h3 : l[3].toNat = x3) :
    leNat (l.take 4) = x0 + 256 * (x1 + 256 * (x2 + 256 * x3)) := by
  match l, h with
  | a :: b :: c :: d :: r, _ =>
    subst h0 h1 h2 h3
    simp [leNat]

theorem or_step (a x k : Nat) (ha : a < 2 ^ k) (hx : a + x * 2 ^ k < 4294967296) : bits .or .u32 (a : Int) ((x * 2 ^ k : Nat) : Int) = ((a + x * 2 ^ k : Nat) : Int) := by
  rw [u32_or_nat _ _ (by omega) (by omega)]
  have := Nat.shiftLeft_add_eq_or_of_lt ha x
  rw [Nat.shiftLeft_eq] at this
  rw [Nat.or_comm, ← this, Nat.add_comm]
theorem four_or (x0 x1 x2 x3 : Nat) (b0 : (x0 : Int) < 256) (b1 : (x1 : Int) < 256) (b2 : (x2 : Int) < 256) (b3 : (x3 : Int) < 256) :
    bits .or .u32 (bits .or .u32 (bits .or .u32 (x0 : Int) ((x1 : Int) * 256)) ((x2 : Int) * 65536)) ((x3 : Int) * 16777216) = ((x0 + 256 * (x1 + 256 * (x2 + 256 * x3)) : Nat) : Int) := by
  have s1 := or_step x0 x1 8 (by omega) (by omega)
  have s2 := or_step (x0 + x1 * 2 ^ 8) x2 16 (by omega) (by omega)
  have s3 := or_step (x0 + x1 * 2 ^ 8 + x2 * 2 ^ 16) x3 24 (by omega) (by omega)
  have e1 : ((x1 : Int) * 256) = ((x1 * 2 ^ 8 : Nat) : Int) := by omega
  have e2 : ((x2 : Int) * 65536) = ((x2 * 2 ^ 16 : Nat) : Int) := by omega
  have e3 : ((x3 : Int) * 16777216) = ((x3 * 2 ^ 24 : Nat) : Int) := by omega
  rw [e1, s1, e2, s2, e3, s3]
  omega

set_option maxRecDepth 20000 in
set_option maxHeartbeats 400000 in
theorem readFour_any (A : Option Addr) (c : Nat) (l : List UInt8) (w : World) (B : Nat) (hr : RB w B A l) (h4 : 4 ≤ l.length) (hl : l.length ≤ 1099511627776) :
    Calls Tryd.prog 70 #[.slice A l.length c] w fun e w' => e = .returned (.int .u32 (leNat (l.take 4) : Nat)) ∧ ∃ n, w' = w.drewN n := by
  obtain ⟨ad, rfl, _, h0⟩ := hr.at_ (show 0 < l.length by omega)
  obtain ⟨ad', e1, _, h1⟩ := hr.at_ (show 1 < l.length by omega)
  cases e1
  obtain ⟨ad', e1, _, h2⟩ := hr.at_ (show 2 < l.length by omega)
  cases e1
  obtain ⟨ad', e1, _, h3⟩ := hr.at_ (show 3 < l.length by omega)
  cases e1
  go_enter Tryd.func70, Tryd.ntmps70
  rw [show ad.add 0 = ad from rfl] at h0
  rw [show ad.add 1 = ⟨ad.block, ad.off + 1, none⟩ from rfl] at h1
  rw [show ad.add 2 = ⟨ad.block, ad.off + 2, none⟩ from rfl] at h2
  rw [show ad.add 3 = ⟨ad.block, ad.off + 3, none⟩ from rfl] at h3
  have b0 : (l[0].toNat : Int) < 256 := by have := l[0].toNat_lt; omega
  have b1 : (l[1].toNat : Int) < 256 := by have := l[1].toNat_lt; omega
  have b2 : (l[2].toNat : Int) < 256 := by have := l[2].toNat_lt; omega
  have b3 : (l[3].toNat : Int) < 256 := by have := l[3].toNat_lt; omega
  generalize hx0 : l[0].toNat = x0 at h0 b0
  generalize hx1 : l[1].toNat = x1 at h1 b1
  generalize hx2 : l[2].toNat = x2 at h2 b2
  generalize hx3 : l[3].toNat = x3 at h3 b3
  have Hx : Hid (leNat (l.take 4) = x0 + 256 * (x1 + 256 * (x2 + 256 * x3))) := four_nat l h4 hx0 hx1 hx2 hx3
  clear hx0 hx1 hx2 hx3
  have l0 : 0 < l.length := by omega
  have l1 : (1 : Int) < (l.length : Int) := by omega
  have l2 : (2 : Int) < (l.length : Int) := by omega
  have l3 : (3 : Int) < (l.length : Int) := by omega
  go_wp2_with fail
  go_quiet (fail)
  go_wp2_with fail
  go_ret
  refine ⟨?_, nq, rfl⟩
  rw [Hx.out, ← four_or x0 x1 x2 x3 b0 b1 b2 b3]
  rfl
end Go.Proofs.YtghcfmkmndldoaaDoor
