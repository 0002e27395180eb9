/-
  Numbers of 32 and 64 bits at the walk; turning.
-/
import Derived.Test.YtabhpgacnenacaaDoorOwnV
import Derived.Test.YtabhpgacnenacaaDoorSh1
namespace Go.Proofs.YtabhpgacnenacaaDoor
open Go.RowKit

/-- a number of 32 bits as a value's -/
def nv (x : UInt32) : Int := (x.toNat : Int)
theorem nv_inj {x y : UInt32} (h : nv x = nv y) : x = y := by
  unfold nv at h
  exact UInt32.toNat_inj.1 (by omega)
theorem u32_lt (x : UInt32) : x.toNat < 4294967296 := x.toNat_lt
theorem nv_nn (x : UInt32) : 0 ≤ nv x := by unfold nv; omega
theorem nv_lt (x : UInt32) : nv x < 4294967296 := by unfold nv; have := u32_lt x; omega
theorem u32_xor (x y : UInt32) : bits .xor .u32 (nv x) (nv y) = nv (x ^^^ y) := by unfold nv; rw [u32_xor_nat _ _ (u32_lt x) (u32_lt y), UInt32.toNat_xor]
theorem u32_and (x y : UInt32) : bits .and .u32 (nv x) (nv y) = nv (x &&& y) := by unfold nv; rw [u32_and_nat _ _ (u32_lt x) (u32_lt y), UInt32.toNat_and]
theorem u32_or (x y : UInt32) : bits .or .u32 (nv x) (nv y) = nv (x ||| y) := by unfold nv; rw [u32_or_nat _ _ (u32_lt x) (u32_lt y), UInt32.toNat_or]
theorem u32_add (x y : UInt32) : IntKind.u32.wrap (nv x + nv y) = nv (x + y) := by
  unfold nv
  rw [IntKind.wrap_u32', UInt32.toNat_add]
  omega
theorem u32_add' (x y : UInt32) : (nv x + nv y) % 4294967296 = nv (x + y) := by rw [← u32_add, IntKind.wrap_u32']
theorem u32_shl (x : UInt32) (n : Nat) (h : n < 32) : nv x * 2 ^ n % 4294967296 = nv (x <<< UInt32.ofNat n) := by
  unfold nv
  rw [UInt32.toNat_shiftLeft, UInt32.toNat_ofNat_of_lt' (by show n < 4294967296; omega), Nat.mod_eq_of_lt h, Nat.shiftLeft_eq]
  show _ = ((x.toNat * 2 ^ n % 4294967296 : Nat) : Int)
  rw [Int.natCast_emod, Int.natCast_mul, Int.natCast_pow]
  rfl
theorem u32_shr (x : UInt32) (n : Nat) (h : n < 32) : nv x / 2 ^ n = nv (x >>> UInt32.ofNat n) := by
  unfold nv
  rw [UInt32.toNat_shiftRight, UInt32.toNat_ofNat_of_lt' (by show n < 4294967296; omega), Nat.mod_eq_of_lt h, Nat.shiftRight_eq_div_pow]
  rw [Int.natCast_ediv, Int.natCast_pow]
  rfl
theorem u32_of8 (b : UInt8) : IntKind.u32.wrap (b.toNat : Int) = nv b.toUInt32 := by
  unfold nv
  rw [IntKind.wrap_u32', UInt8.toNat_toUInt32]
  have := b.toNat_lt
  omega
theorem u32_shl24 (x : UInt32) : IntKind.u32.wrap (nv x * 16777216) = nv (x <<< 24) := by rw [IntKind.wrap_u32']; exact u32_shl x 24 (by decide)
theorem u32_shl16 (x : UInt32) : IntKind.u32.wrap (nv x * 65536) = nv (x <<< 16) := by rw [IntKind.wrap_u32']; exact u32_shl x 16 (by decide)
theorem u32_shl8 (x : UInt32) : IntKind.u32.wrap (nv x * 256) = nv (x <<< 8) := by rw [IntKind.wrap_u32']; exact u32_shl x 8 (by decide)
theorem u32_shr3 (x : UInt32) : nv x / (8 : Int) = nv (x >>> 3) := u32_shr x 3 (by decide)
theorem u32_shr10 (x : UInt32) : nv x / (1024 : Int) = nv (x >>> 10) := u32_shr x 10 (by decide)
theorem u32_fdiv3 (x : UInt32) : (nv x).fdiv 8 = nv (x >>> 3) := by rw [Int.fdiv_eq_ediv_of_nonneg _ (by decide)]; exact u32_shr3 x
theorem u32_fdiv10 (x : UInt32) : (nv x).fdiv 1024 = nv (x >>> 10) := by rw [Int.fdiv_eq_ediv_of_nonneg _ (by decide)]; exact u32_shr10 x
theorem u32_not (x : UInt32) : 4294967295 - nv x = nv (~~~x) := by
  have e : (~~~x).toNat = 4294967295 - x.toNat := by
    rw [UInt32.toNat_not]; rfl
  have := u32_lt x
  unfold nv
  rw [e]; omega
theorem u32_cpl (x : UInt32) : bits .xor .u32 IntKind.u32.max (nv x) = nv (~~~x) := by
  rw [show IntKind.u32.max = nv 4294967295 from by decide, u32_xor]
  exact congrArg nv UInt32.neg_one_xor
theorem rot_eq (x : UInt32) {n s : Nat} (h : s + n = 32) (h1 : 1 ≤ n) (h2 : n ≤ 31) : rot x (UInt32.ofNat n) = x <<< UInt32.ofNat s ||| x >>> UInt32.ofNat n := by
  have e : ∀ n : Fin 32, 1 ≤ n.val → (32 : UInt32) - UInt32.ofNat n.val = UInt32.ofNat (32 - n.val) := by decide
  obtain rfl : s = 32 - n := by omega
  unfold rot
  rw [e ⟨n, by omega⟩ h1]
theorem neg_and (n s : Nat) (h : s + n = 32) (h1 : 1 ≤ n) (h2 : n ≤ 31) : bits .and .u64 (IntKind.u64.wrap (-(n : Int))) 31 = (s : Int) := by
  have e : ∀ n : Fin 32, 1 ≤ n.val → bits .and .u64 (IntKind.u64.wrap (-(n.val : Int))) 31 = ((32 - n.val : Nat) : Int) := by decide +kernel
  obtain rfl : s = 32 - n := by omega
  exact e ⟨n, by omega⟩ h1
section
attribute [local go_sem] u32_xor u32_and u32_or u32_add
set_option maxRecDepth 20000
theorem rotl_any (x : UInt32) (n s : Nat) (h : s + n = 32) (h1 : 1 ≤ n) (h2 : n ≤ 31) (w : World) : Calls Tryd.prog 35 #[.int .u32 (nv x), .int .i64 (-(n : Int))] w fun e w' => e = .returned (.int .u32 (nv (rot x (UInt32.ofNat n)))) ∧ w' = w := by
  have hs := neg_and n s h h1 h2
  have hn := Lib.hid h
  have e1 := u32_shl x s (by omega)
  have e2 := u32_shr x n (by omega)
  have hr := rot_eq x h h1 h2
  rw [hr]
  have hs1 : (s : Int) ≤ 31 := by omega
  have hs2 : 32 - (s : Int) = (n : Int) := by omega
  have hx0 := nv_nn x
  have hx1 := nv_lt x
  clear h hr
  go_enter Tryd.func35, Tryd.ntmps35
  go_wp2_with fail
  go_ret
  exact ⟨rfl, rfl⟩
theorem turned_any (x : UInt32) (n s : Nat) (h : s + n = 32) (h1 : 1 ≤ n) (h2 : n ≤ 31) (w : World) : Calls Tryd.prog 27 #[.int .u32 (nv x), .int .u64 (n : Int)] w fun e w' => e = .returned (.int .u32 (nv (rot x (UInt32.ofNat n)))) ∧ w' = w := by
  have e1 := u32_shl x s (by omega)
  have e2 := u32_shr x n (by omega)
  have hr := rot_eq x h h1 h2
  rw [hr, UInt32.or_comm]
  have hs1 : (s : Int) ≤ 31 := by omega
  have hs2 : 32 - (n : Int) = (s : Int) := by omega
  have hx0 := nv_nn x
  have hx1 := nv_lt x
  clear h hr
  go_enter Tryd.func27, Tryd.ntmps27
  go_wp2_with fail
  go_ret
  exact ⟨rfl, rfl⟩
theorem turn_any (x : UInt32) (n s : Nat) (k : UInt32) (z : Int) (hz : z = (n : Int)) (hk : k = UInt32.ofNat n) (h : s + n = 32) (h1 : 1 ≤ n) (h2 : n ≤ 31) (w : World) : Calls Tryd.prog 32 #[.int .u32 (nv x), .int .i64 z] w fun e w' => e = .returned (.int .u32 (nv (rot x k))) ∧ w' = w := by
  subst hz hk
  have hc := rotl_any x n s h h1 h2 w
  have hz : IntKind.i64.wrap (-(n : Int)) = -(n : Int) := IntWalk.i64_in _ (by omega)
  have hn : (n : Int) ≤ 31 := by omega
  have Hc := Lib.hid hc
  clear hc h h1 h2
  go_enter Tryd.func32, Tryd.ntmps32
  go_wp2_with fail
  refine Hc.out.mono ?_
  rintro e w' ⟨rfl, rfl⟩
  go_wp2_with fail
  go_ret
  exact ⟨rfl, rfl⟩
theorem turned_lit (x : UInt32) (n s : Nat) (k : UInt32) (z : Int) (hz : z = (n : Int)) (hk : k = UInt32.ofNat n) (h : s + n = 32) (h1 : 1 ≤ n) (h2 : n ≤ 31) (w : World) : Calls Tryd.prog 27 #[.int .u32 (nv x), .int .u64 z] w fun e w' => e = .returned (.int .u32 (nv (rot x k))) ∧ w' = w := by
  subst hz hk
  exact turned_any x n s h h1 h2 w
theorem turn2 (x : UInt32) (w : World) : Calls Tryd.prog 32 #[.int .u32 (nv x), .int .i64 2] w fun e w' => e = .returned (.int .u32 (nv (rot x 2))) ∧ w' = w := turn_any x 2 30 2 2 rfl rfl rfl (by decide) (by decide) w
theorem turned2 (x : UInt32) (w : World) : Calls Tryd.prog 27 #[.int .u32 (nv x), .int .u64 2] w fun e w' => e = .returned (.int .u32 (nv (rot x 2))) ∧ w' = w := turned_lit x 2 30 2 2 rfl rfl rfl (by decide) (by decide) w
theorem turn6 (x : UInt32) (w : World) : Calls Tryd.prog 32 #[.int .u32 (nv x), .int .i64 6] w fun e w' => e = .returned (.int .u32 (nv (rot x 6))) ∧ w' = w := turn_any x 6 26 6 6 rfl rfl rfl (by decide) (by decide) w
theorem turned6 (x : UInt32) (w : World) : Calls Tryd.prog 27 #[.int .u32 (nv x), .int .u64 6] w fun e w' => e = .returned (.int .u32 (nv (rot x 6))) ∧ w' = w := turned_lit x 6 26 6 6 rfl rfl rfl (by decide) (by decide) w
theorem turn7 (x : UInt32) (w : World) : Calls Tryd.prog 32 #[.int .u32 (nv x), .int .i64 7] w fun e w' => e = .returned (.int .u32 (nv (rot x 7))) ∧ w' = w := turn_any x 7 25 7 7 rfl rfl rfl (by decide) (by decide) w
theorem turned7 (x : UInt32) (w : World) : Calls Tryd.prog 27 #[.int .u32 (nv x), .int .u64 7] w fun e w' => e = .returned (.int .u32 (nv (rot x 7))) ∧ w' = w := turned_lit x 7 25 7 7 rfl rfl rfl (by decide) (by decide) w
theorem turn11 (x : UInt32) (w : World) : Calls Tryd.prog 32 #[.int .u32 (nv x), .int .i64 11] w fun e w' => e = .returned (.int .u32 (nv (rot x 11))) ∧ w' = w := turn_any x 11 21 11 11 rfl rfl rfl (by decide) (by decide) w
theorem turned11 (x : UInt32) (w : World) : Calls Tryd.prog 27 #[.int .u32 (nv x), .int .u64 11] w fun e w' => e = .returned (.int .u32 (nv (rot x 11))) ∧ w' = w := turned_lit x 11 21 11 11 rfl rfl rfl (by decide) (by decide) w
theorem turn13 (x : UInt32) (w : World) : Calls Tryd.prog 32 #[.int .u32 (nv x), .int .i64 13] w fun e w' => e = .returned (.int .u32 (nv (rot x 13))) ∧ w' = w := turn_any x 13 19 13 13 rfl rfl rfl (by decide) (by decide) w
theorem turned13 (x : UInt32) (w : World) : Calls Tryd.prog 27 #[.int .u32 (nv x), .int .u64 13] w fun e w' => e = .returned (.int .u32 (nv (rot x 13))) ∧ w' = w := turned_lit x 13 19 13 13 rfl rfl rfl (by decide) (by decide) w
theorem turn17 (x : UInt32) (w : World) : Calls Tryd.prog 32 #[.int .u32 (nv x), .int .i64 17] w fun e w' => e = .returned (.int .u32 (nv (rot x 17))) ∧ w' = w := turn_any x 17 15 17 17 rfl rfl rfl (by decide) (by decide) w
theorem turned17 (x : UInt32) (w : World) : Calls Tryd.prog 27 #[.int .u32 (nv x), .int .u64 17] w fun e w' => e = .returned (.int .u32 (nv (rot x 17))) ∧ w' = w := turned_lit x 17 15 17 17 rfl rfl rfl (by decide) (by decide) w
theorem turn18 (x : UInt32) (w : World) : Calls Tryd.prog 32 #[.int .u32 (nv x), .int .i64 18] w fun e w' => e = .returned (.int .u32 (nv (rot x 18))) ∧ w' = w := turn_any x 18 14 18 18 rfl rfl rfl (by decide) (by decide) w
theorem turned18 (x : UInt32) (w : World) : Calls Tryd.prog 27 #[.int .u32 (nv x), .int .u64 18] w fun e w' => e = .returned (.int .u32 (nv (rot x 18))) ∧ w' = w := turned_lit x 18 14 18 18 rfl rfl rfl (by decide) (by decide) w
theorem turn19 (x : UInt32) (w : World) : Calls Tryd.prog 32 #[.int .u32 (nv x), .int .i64 19] w fun e w' => e = .returned (.int .u32 (nv (rot x 19))) ∧ w' = w := turn_any x 19 13 19 19 rfl rfl rfl (by decide) (by decide) w
theorem turned19 (x : UInt32) (w : World) : Calls Tryd.prog 27 #[.int .u32 (nv x), .int .u64 19] w fun e w' => e = .returned (.int .u32 (nv (rot x 19))) ∧ w' = w := turned_lit x 19 13 19 19 rfl rfl rfl (by decide) (by decide) w
theorem turn22 (x : UInt32) (w : World) : Calls Tryd.prog 32 #[.int .u32 (nv x), .int .i64 22] w fun e w' => e = .returned (.int .u32 (nv (rot x 22))) ∧ w' = w := turn_any x 22 10 22 22 rfl rfl rfl (by decide) (by decide) w
theorem turned22 (x : UInt32) (w : World) : Calls Tryd.prog 27 #[.int .u32 (nv x), .int .u64 22] w fun e w' => e = .returned (.int .u32 (nv (rot x 22))) ∧ w' = w := turned_lit x 22 10 22 22 rfl rfl rfl (by decide) (by decide) w
theorem turn25 (x : UInt32) (w : World) : Calls Tryd.prog 32 #[.int .u32 (nv x), .int .i64 25] w fun e w' => e = .returned (.int .u32 (nv (rot x 25))) ∧ w' = w := turn_any x 25 7 25 25 rfl rfl rfl (by decide) (by decide) w
theorem turned25 (x : UInt32) (w : World) : Calls Tryd.prog 27 #[.int .u32 (nv x), .int .u64 25] w fun e w' => e = .returned (.int .u32 (nv (rot x 25))) ∧ w' = w := turned_lit x 25 7 25 25 rfl rfl rfl (by decide) (by decide) w
end
end Go.Proofs.YtabhpgacnenacaaDoor
