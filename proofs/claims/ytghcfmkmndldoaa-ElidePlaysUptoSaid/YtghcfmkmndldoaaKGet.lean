/-
  Numbers of so many bytes, the lowest first: written and read, by both programs; bytes that are all noughts; a copy.
-/
import Derived.Test.YtghcfmkmndldoaaKBase
import Derived.BigQuiet
import Derived.Deep.QuietTactic
namespace Go.Proofs.Ytghcfmkmndldoaa
open Go.RowKit

/-- so many bytes of a number, the lowest first -/
def leBytes : Nat → Nat → List UInt8
  | 0, _ => []
  | n + 1, v => UInt8.ofNat v :: leBytes n (v / 256)
/-- bytes as a number, the lowest first -/
def leNat : List UInt8 → Nat
  | [] => 0
  | x :: l => x.toNat + 256 * leNat l
theorem leBytes_length (n : Nat) : ∀ v, (leBytes n v).length = n := by
  induction n with
  | zero => intro v; rfl
  | succ n ih => intro v; simp [leBytes, ih]
theorem leNat_lt (l : List UInt8) : leNat l < 256 ^ l.length := by
  induction l with
  | nil => simp [leNat]
  | cons x l ih =>
    have := x.toNat_lt
    simp only [leNat, List.length_cons, Nat.pow_succ]
    omega
theorem leNat_append (l r : List UInt8) : leNat (l ++ r) = leNat l + 256 ^ l.length * leNat r := by
  induction l with
  | nil => simp [leNat]
  | cons x l ih => simp only [List.cons_append, leNat, ih, List.length_cons, Nat.pow_succ, Nat.mul_add, Nat.add_assoc, ← Nat.mul_assoc]; rw [Nat.mul_comm 256 (256 ^ l.length)]
theorem leNat_leBytes (n : Nat) : ∀ v, leNat (leBytes n v) = v % 256 ^ n := by
  induction n with
  | zero => intro v; simp [leBytes, leNat]; omega
  | succ n ih =>
    intro v
    show (UInt8.ofNat v).toNat + 256 * leNat (leBytes n (v / 256)) = _
    rw [ih, UInt8.toNat_ofNat']
    show _ = v % (256 ^ n * 256)
    rw [Nat.mul_comm (256 ^ n) 256, Nat.mod_mul]
theorem leBytes_leNat (l : List UInt8) : leBytes l.length (leNat l) = l := by
  induction l with
  | nil => rfl
  | cons x l ih =>
    have := x.toNat_lt
    simp only [List.length_cons, leBytes, leNat]
    rw [show (x.toNat + 256 * leNat l) / 256 = leNat l from by omega, ih]
    congr 1
    apply UInt8.toNat_inj.1
    rw [UInt8.toNat_ofNat']
    omega
theorem leBytes_snoc (n : Nat) : ∀ v, leBytes (n + 1) v = leBytes n v ++ [UInt8.ofNat (v / 256 ^ n)] := by
  induction n with
  | zero => intro v; simp [leBytes]
  | succ n ih =>
    intro v
    rw [leBytes, ih, leBytes, Nat.div_div_eq_div_mul, Nat.pow_succ, Nat.mul_comm 256]
    rfl

theorem leNat_take (l : List UInt8) (k : Nat) (h : k < l.length) : leNat (l.take (k + 1)) = leNat (l.take k) + l[k].toNat * 256 ^ k := by
  rw [List.take_succ_eq_append_getElem h, leNat_append, List.length_take, Nat.min_eq_left (by omega)]
  simp only [leNat]
  rw [Nat.mul_comm]
  simp
theorem join_bits (n x k : Nat) (h : n < 256 ^ k) : n ||| x * 256 ^ k = n + x * 256 ^ k := by
  have e : (256 : Nat) ^ k = 2 ^ (8 * k) := by rw [Nat.pow_mul]
  rw [e] at h ⊢
  have := Nat.shiftLeft_add_eq_or_of_lt h x
  rw [Nat.shiftLeft_eq] at this
  rw [Nat.or_comm, ← this]
  omega
theorem pow_room (k : Nat) (h : k < 8) (n x : Nat) (hn : n < 256 ^ k) (hx : x < 256) : n + x * 256 ^ k < 18446744073709551616 := by
  have h1 : x * 256 ^ k ≤ 255 * 256 ^ k := Nat.mul_le_mul_right _ (by omega)
  have h2 : (256 : Nat) ^ k ≤ 256 ^ 7 := Nat.pow_le_pow_right (by omega) (by omega)
  have h3 : (256 : Nat) ^ 7 = 72057594037927936 := by decide
  omega
/-- what a byte's turn tells the walk -/
theorem get_facts (l : List UInt8) (k : Nat) (h : k < l.length) (hl : l.length ≤ 8) : ∃ m : Nat, Hid (m = leNat (l.take (k + 1))) ∧
    bits .or .u64 (leNat (l.take k) : Int) (IntKind.u64.wrap ((l[k].toNat : Int) * 2 ^ (8 * k))) = (m : Int) := by
  have hn := leNat_lt (l.take k)
  rw [List.length_take, Nat.min_eq_left (by omega)] at hn
  have hx := l[k].toNat_lt
  have hr := pow_room k (by omega) _ _ hn (by omega : l[k].toNat < 256)
  refine ⟨_, rfl, ?_⟩
  have e : (2 : Int) ^ (8 * k) = ((256 ^ k : Nat) : Int) := by
    have : (256 : Nat) ^ k = 2 ^ (8 * k) := by rw [Nat.pow_mul]
    rw [this]
    simp
  have hw : IntKind.u64.wrap ((l[k].toNat : Int) * ((256 ^ k : Nat) : Int)) = ((l[k].toNat * 256 ^ k : Nat) : Int) := by
    rw [IntKind.wrap_u64, ← Int.natCast_mul]
    omega
  rw [e, hw, u64_or_nat _ _ (by omega) (by omega), join_bits _ _ _ hn, leNat_take l k h]

end Go.Proofs.Ytghcfmkmndldoaa

/-
  A copy of bytes.
-/
namespace Go.Proofs.Ytghcfmkmndldoaa
open Go.RowKit

theorem eql_nil (w : World) (A : Option Addr) (n c : Nat) : (binOp .eql 48 (.slice A n c) (.slice none 0 0)).run Try.prog w = .ok (.bool A.isNone) w :=
  Lib.run_eql_slice_nil w _ 5 A n c 0 0 Try.underlying48

set_option maxRecDepth 20000 in
set_option maxHeartbeats 400000 in
theorem clone_any (A : Option Addr) (c : Nat) (l : List UInt8) (w : World) (B : Nat) (hr : RB w B A l) (hB : B ≤ w.heap.size) (hl : l.length ≤ 1099511627776) :
    Calls Try.prog 68 #[.slice A l.length c] w fun e w' => ∃ v, e = .returned v ∧ Own w' w.heap.size v l ∧ Below w.heap.size w w' := by
  have Hr := Lib.hid hr
  have Hl := Lib.hid hl
  have HB := Lib.hid hB
  clear hr hl hB
  rcases A with _ | ad
  · have h0 : l = [] := by
      rcases l with _ | ⟨x, l⟩
      · rfl
      · obtain ⟨ad, e, _⟩ := Hr.out 0 x rfl
        cases e
    subst h0
    have hq := fun W => eql_nil W none 0 c
    go_enter Try.func68, Try.ntmps68
    go_wp2_with fail
    go_ret
    exact ⟨_, rfl, Own.nil _ _, Below.refl _ _⟩
  · have hq := fun W => eql_nil W (some ad) l.length c
    go_enter Try.func68, Try.ntmps68
    go_wp2_with (at_builtin; refine app_bytes rfl (.tmp 5) (.tmp 6) rfl w.heap.size _ [] rfl (Own.made w _ (Nat.le_refl _)) _ (some ad) l.length c l rfl rfl (Hr.out.alloc HB.out _) (by have := Hl.out; simp; omega) (by simp) ?_; intro v1 w1 hown hbel _)
    go_ret
    exact ⟨v1, rfl, by simpa using hown, ((Below.refl _ _).alloc (Nat.le_refl _) _).trans hbel⟩
end Go.Proofs.Ytghcfmkmndldoaa

/-
  So many bytes of a number stored into a stretch of a block.
-/
namespace Go.Proofs.Ytghcfmkmndldoaa
open Go.RowKit

/-- l with the stretch from off on being r -/
def splat (l : List UInt8) (off : Nat) (r : List UInt8) : List UInt8 := l.take off ++ (r ++ l.drop (off + r.length))
theorem splat_length (l : List UInt8) (off : Nat) (r : List UInt8) (h : off + r.length ≤ l.length) : (splat l off r).length = l.length := by
  simp [splat]; omega
theorem splat_nil (l : List UInt8) (off : Nat) : splat l off [] = l := by simp [splat]
theorem splat_snoc (l : List UInt8) (off : Nat) (r : List UInt8) (x : UInt8) (h : off + r.length < l.length) : (splat l off r).set (off + r.length) x = splat l off (r ++ [x]) := by
  unfold splat
  rw [List.set_append, if_neg (by simp; omega), List.set_append, if_neg (by simp; omega)]
  have e : off + r.length - (l.take off).length - r.length = 0 := by simp; omega
  rw [e, List.drop_eq_getElem_cons h]
  simp [Nat.add_assoc]

theorem size8 : (Try.prog.info? 5).map (·.size) = some 1 := by kernel_rfl
/-- copy into a stretch of a block, as one run equation -/
theorem copy_run (W : World) (g off dLen dCap : Nat) (A : Option Addr) (x l : List UInt8) (c B : Nat) (hr : RB W B A x) (hb : Blk W g l) (hd : x.length ≤ dLen) (hfit : off + x.length ≤ l.length) :
    ∃ W', (Builtin.copy_ #[48, 48] 3 #[.slice (some ⟨g, off, none⟩) dLen dCap, .slice A x.length c]).run Try.prog W = .ok (.int .i64 (x.length : Int)) W' ∧ Blk W' g (splat l off x) ∧ Below g W W' := by
  by_cases h0 : x.length = 0
  · obtain rfl : x = [] := List.eq_nil_of_length_eq_zero h0
    refine ⟨W, run_copy_none (P := Try.prog) W _ _ 3 5 _ _ _ _ _ _ Try.underlying48 size8 (by simp), by rw [splat_nil]; exact hb, Below.refl _ _⟩
  · obtain ⟨ad, rfl, _, _⟩ := hr.at_ (show 0 < x.length by omega)
    have hrun := run_copy_row (P := Try.prog) W 48 48 3 5 g off dLen dCap ad x.length c (bvs l).toArray 5 (bvs x) Try.underlying48 size8 hb
      (by rw [bvs_length]; exact (Nat.min_eq_left hd).symm) (fun j u hu => by
        simp only [bvs, List.getElem?_map, Option.map_eq_some_iff] at hu
        obtain ⟨y, hy, rfl⟩ := hu
        obtain ⟨ad', e, _, hc⟩ := hr j y hy
        cases e
        exact hc) (by simp [bvs]; omega) (bvs_one x)
    have e : (bvs l).take off ++ bvs x ++ (bvs l).drop (off + (bvs x).length) = bvs (splat l off x) := by
      simp [bvs, splat]
    rw [show (bvs l).toArray.toList = bvs l from rfl, e, bvs_length] at hrun
    exact ⟨_, hrun, setRow_heap W g _ _ _ _ hb, (Below.refl _ _).grown (row := some g) ⟨rfl, rfl, rfl, by simp, fun k _ hk => setRow_other W g k _ (fun e => hk (by rw [e]))⟩ (Nat.le_of_lt hb.lt) (fun k hk => by cases hk; exact Nat.le_refl _)⟩
end Go.Proofs.Ytghcfmkmndldoaa

/-
  How many bytes a page holds; new slices of noughts.
-/
namespace Go.Proofs.Ytghcfmkmndldoaa
open Go.RowKit
set_option maxRecDepth 20000

/-- how many bytes of payload a page of s bytes holds -/
def roomOf (s : Int) : Int := if s < 32 ∨ 65536 < s then 0 else if 65535 < s - 19 then 65535 else s - 19

/-- make([]byte, n): the block's cells behind a letter -/
theorem make_run (n : Nat) (hn : n ≤ 1099511627776) : ∃ cs : Array Value, Hid (cs = (bvs (List.replicate n 0)).toArray) ∧
    ∀ u : World, (Instr.makeSlice 48 (.int .i64 (n : Int)) (.int .i64 (n : Int))).run Try.prog u = .ok (.slice (some ⟨u.heap.size, 0, none⟩) n n) (u.alloc (.cells cs 5)) := by
  obtain ⟨i0, hi, hz0, hz1, hz2⟩ := info_parts info8
  refine ⟨_, rfl, fun u => ?_⟩
  have h := run_make (P := Try.prog) u 48 5 i0 (.int .u8 0) Try.underlying48 hi hz0 .i64 .i64 (n : Int) (n : Int) (by omega) (Int.le_refl _) (by rw [hz2]; omega) (by omega)
  rw [h]
  simp only [Int.toNat_natCast, hz1, Nat.mul_one]
  congr 3
  apply Array.toList_inj.1
  show (madeCells #[Value.int .u8 0] n).toList = _
  rw [toList_madeCells_one]
  simp [bvs, bv]
end Go.Proofs.Ytghcfmkmndldoaa
