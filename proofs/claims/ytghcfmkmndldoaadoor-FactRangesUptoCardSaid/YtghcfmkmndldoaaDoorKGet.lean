/-
  Numbers of so many bytes, the lowest first: written and read, by both programs; bytes that are all noughts; a copy.
-/
import Derived.Test.YtghcfmkmndldoaaDoorKBase
import Derived.BigQuiet
import Derived.Deep.QuietTactic
namespace Go.Proofs.YtghcfmkmndldoaaDoor
open Go.RowKit

/-- so many bytes of a number, the lowest first -/
def leBytes : Nat → Nat → List UInt8
  | 0, _ => []
  | n + 1, v => UInt8.ofNat v :: leBytes n (v / 256)
/-- bytes as a number, the lowest first -/
def leNat : List UInt8 → Nat
  | [] => 0
  | x :: l => x.toNat + 256 * leNat l
theorem leBytes_length (n : Nat) : ∀ v, (leBytes n v).length = n := by
  induction n with
  | zero => intro v; rfl
  | succ n ih => intro v; simp [leBytes, ih]
theorem leNat_lt (l : List UInt8) : leNat l < 256 ^ l.length := by
  induction l with
  | nil => simp [leNat]
  | cons x l ih =>
    have := x.toNat_lt
    simp only [leNat, List.length_cons, Nat.pow_succ]
    omega
theorem leNat_append (l r : List UInt8) : leNat (l ++ r) = leNat l + 256 ^ l.length * leNat r := by
  induction l with
  | nil => simp [leNat]
  | cons x l ih => simp only [List.cons_append, leNat, ih, List.length_cons, Nat.pow_succ, Nat.mul_add, Nat.add_assoc, ← Nat.mul_assoc]; rw [Nat.mul_comm 256 (256 ^ l.length)]
theorem leNat_leBytes (n : Nat) : ∀ v, leNat (leBytes n v) = v % 256 ^ n := by
  induction n with
  | zero => intro v; simp [leBytes, leNat]; omega
  | succ n ih =>
    intro v
    show (UInt8.ofNat v).toNat + 256 * leNat (leBytes n (v / 256)) = _
    rw [ih, UInt8.toNat_ofNat']
    show _ = v % (256 ^ n * 256)
    rw [Nat.mul_comm (256 ^ n) 256, Nat.mod_mul]
theorem leBytes_leNat (l : List UInt8) : leBytes l.length (leNat l) = l := by
  induction l with
  | nil => rfl
  | cons x l ih =>
    have := x.toNat_lt
    simp only [List.length_cons, leBytes, leNat]
    rw [show (x.toNat + 256 * leNat l) / 256 = leNat l from by omega, ih]
    congr 1
    apply UInt8.toNat_inj.1
    rw [UInt8.toNat_ofNat']
    omega
theorem leBytes_snoc (n : Nat) : ∀ v, leBytes (n + 1) v = leBytes n v ++ [UInt8.ofNat (v / 256 ^ n)] := by
  induction n with
  | zero => intro v; simp [leBytes]
  | succ n ih =>
    intro v
    rw [leBytes, ih, leBytes, Nat.div_div_eq_div_mul, Nat.pow_succ, Nat.mul_comm 256]
    rfl

theorem leNat_take (l : List UInt8) (k : Nat) (h : k < l.length) : leNat (l.take (k + 1)) = leNat (l.take k) + l[k].toNat * 256 ^ k := by
  rw [List.take_succ_eq_append_getElem h, leNat_append, List.length_take, Nat.min_eq_left (by omega)]
  simp only [leNat]
  rw [Nat.mul_comm]
  simp
theorem join_bits (n x k : Nat) (h : n < 256 ^ k) : n ||| x * 256 ^ k = n + x * 256 ^ k := by
  have e : (256 : Nat) ^ k = 2 ^ (8 * k) := by rw [Nat.pow_mul]
  rw [e] at h ⊢
  have := Nat.shiftLeft_add_eq_or_of_lt h x
  rw [Nat.shiftLeft_eq] at this
  rw [Nat.or_comm, ← this]
  omega
theorem pow_room (k : Nat) (h : k < 8) (n x : Nat) (hn : n < 256 ^ k) (hx : x < 256) : n + x * 256 ^ k < 18446744073709551616 := by
  have h1 : x * 256 ^ k ≤ 255 * 256 ^ k := Nat.mul_le_mul_right _ (by omega)
  have h2 : (256 : Nat) ^ k ≤ 256 ^ 7 := Nat.pow_le_pow_right (by omega) (by omega)
  have h3 : (256 : Nat) ^ 7 = 72057594037927936 := by decide
  omega
/-- what a byte's turn tells the walk -/
theorem get_facts (l : List UInt8) (k : Nat) (h : k < l.length) (hl : l.length ≤ 8) : ∃ m : Nat, Hid (m = leNat (l.take (k + 1))) ∧
    bits .or .u64 (leNat (l.take k) : Int) (IntKind.u64.wrap ((l[k].toNat : Int) * 2 ^ (8 * k))) = (m : Int) := by
  have hn := leNat_lt (l.take k)
  rw [List.length_take, Nat.min_eq_left (by omega)] at hn
  have hx := l[k].toNat_lt
  have hr := pow_room k (by omega) _ _ hn (by omega : l[k].toNat < 256)
  refine ⟨_, rfl, ?_⟩
  have e : (2 : Int) ^ (8 * k) = ((256 ^ k : Nat) : Int) := by
    have : (256 : Nat) ^ k = 2 ^ (8 * k) := by rw [Nat.pow_mul]
    rw [this]
    simp
  have hw : IntKind.u64.wrap ((l[k].toNat : Int) * ((256 ^ k : Nat) : Int)) = ((l[k].toNat * 256 ^ k : Nat) : Int) := by
    rw [IntKind.wrap_u64, ← Int.natCast_mul]
    omega
  rw [e, hw, u64_or_nat _ _ (by omega) (by omega), join_bits _ _ _ hn, leNat_take l k h]

set_option maxRecDepth 20000 in
set_option maxHeartbeats 400000 in
theorem get_any (A : Option Addr) (c : Nat) (l : List UInt8) (w : World) (B : Nat) (hr : RB w B A l) (hl : l.length ≤ 8) :
    Calls Tryd.prog 88 #[.slice A l.length c] w fun e w' => e = .returned (.int .u64 (leNat l : Nat)) ∧ w = w' := by
  have Hr := Lib.hid hr
  clear hr
  go_enter Tryd.func88, Tryd.ntmps88
  go_wp2_with fail
  go_loop [3, 8] (fun d i => ∃ k : Nat, k ≤ l.length ∧ i = .int .i64 (k : Int) ∧ ∃ n : Nat, d = .int .u64 (n : Int) ∧ Hid (n = leNat (l.take k))) (fun _ i => (l.length - intOf i).toNat)
  case atStart => exact ⟨0, by omega, rfl, 0, rfl, rfl⟩
  case round =>
    obtain ⟨k, hk, rfl, n, rfl, heq⟩ := hrel
    by_cases hkl : k < l.length
    · obtain ⟨ad, rfl, hb, hcell⟩ := Hr.out.at_ hkl
      have hx : (l[k].toNat : Int) < 256 := by have := l[k].toNat_lt; omega
      obtain ⟨m, hm, hor⟩ := get_facts l k hkl hl
      rw [← heq.out] at hor
      generalize l[k].toNat = x at hcell hx hor
      go_wp2_with fail
      exact ⟨⟨k + 1, by omega, by go_num, m, rfl, hm⟩, by simp [intOf]; omega⟩
    · go_wp2_with fail
      go_ret
      refine ⟨?_, rfl⟩
      obtain rfl : k = l.length := by omega
      rw [heq.out, List.take_length]
      rfl
end Go.Proofs.YtghcfmkmndldoaaDoor

/-
  A copy of bytes.
-/
namespace Go.Proofs.YtghcfmkmndldoaaDoor
open Go.RowKit

theorem eql_nil (w : World) (A : Option Addr) (n c : Nat) : (binOp .eql 25 (.slice A n c) (.slice none 0 0)).run Tryd.prog w = .ok (.bool A.isNone) w :=
  Lib.run_eql_slice_nil w _ 5 A n c 0 0 Tryd.underlying25

set_option maxRecDepth 20000 in
set_option maxHeartbeats 400000 in
theorem clone_any (A : Option Addr) (c : Nat) (l : List UInt8) (w : World) (B : Nat) (hr : RB w B A l) (hB : B ≤ w.heap.size) (hl : l.length ≤ 1099511627776) :
    Calls Tryd.prog 91 #[.slice A l.length c] w fun e w' => ∃ v, e = .returned v ∧ Own w' w.heap.size v l ∧ Below w.heap.size w w' := by
  have Hr := Lib.hid hr
  have Hl := Lib.hid hl
  have HB := Lib.hid hB
  clear hr hl hB
  rcases A with _ | ad
  · have h0 : l = [] := by
      rcases l with _ | ⟨x, l⟩
      · rfl
      · obtain ⟨ad, e, _⟩ := Hr.out 0 x rfl
        cases e
    subst h0
    have hq := fun W => eql_nil W none 0 c
    go_enter Tryd.func91, Tryd.ntmps91
    go_wp2_with fail
    go_ret
    exact ⟨_, rfl, Own.nil _ _, Below.refl _ _⟩
  · have hq := fun W => eql_nil W (some ad) l.length c
    go_enter Tryd.func91, Tryd.ntmps91
    go_wp2_with (at_builtin; refine app_bytes rfl (.tmp 5) (.tmp 6) rfl w.heap.size _ [] rfl (Own.made w _ (Nat.le_refl _)) _ (some ad) l.length c l rfl rfl (Hr.out.alloc HB.out _) (by have := Hl.out; simp; omega) (by simp) ?_; intro v1 w1 hown hbel _)
    go_ret
    exact ⟨v1, rfl, by simpa using hown, ((Below.refl _ _).alloc (Nat.le_refl _) _).trans hbel⟩
end Go.Proofs.YtghcfmkmndldoaaDoor

/-
  So many bytes of a number stored into a stretch of a block.
-/
namespace Go.Proofs.YtghcfmkmndldoaaDoor
open Go.RowKit

/-- l with the stretch from off on being r -/
def splat (l : List UInt8) (off : Nat) (r : List UInt8) : List UInt8 := l.take off ++ (r ++ l.drop (off + r.length))
theorem splat_length (l : List UInt8) (off : Nat) (r : List UInt8) (h : off + r.length ≤ l.length) : (splat l off r).length = l.length := by
  simp [splat]; omega
theorem splat_nil (l : List UInt8) (off : Nat) : splat l off [] = l := by simp [splat]
theorem splat_snoc (l : List UInt8) (off : Nat) (r : List UInt8) (x : UInt8) (h : off + r.length < l.length) : (splat l off r).set (off + r.length) x = splat l off (r ++ [x]) := by
  unfold splat
  rw [List.set_append, if_neg (by simp; omega), List.set_append, if_neg (by simp; omega)]
  have e : off + r.length - (l.take off).length - r.length = 0 := by simp; omega
  rw [e, List.drop_eq_getElem_cons h]
  simp [Nat.add_assoc]

theorem size8 : (Tryd.prog.info? 5).map (·.size) = some 1 := by kernel_rfl
/-- copy into a stretch of a block, as one run equation -/
theorem copy_run (W : World) (g off dLen dCap : Nat) (A : Option Addr) (x l : List UInt8) (c B : Nat) (hr : RB W B A x) (hb : Blk W g l) (hd : x.length ≤ dLen) (hfit : off + x.length ≤ l.length) :
    ∃ W', (Builtin.copy_ #[25, 25] 3 #[.slice (some ⟨g, off, none⟩) dLen dCap, .slice A x.length c]).run Tryd.prog W = .ok (.int .i64 (x.length : Int)) W' ∧ Blk W' g (splat l off x) ∧ Below g W W' := by
  by_cases h0 : x.length = 0
  · obtain rfl : x = [] := List.eq_nil_of_length_eq_zero h0
    refine ⟨W, run_copy_none (P := Tryd.prog) W _ _ 3 5 _ _ _ _ _ _ Tryd.underlying25 size8 (by simp), by rw [splat_nil]; exact hb, Below.refl _ _⟩
  · obtain ⟨ad, rfl, _, _⟩ := hr.at_ (show 0 < x.length by omega)
    have hrun := run_copy_row (P := Tryd.prog) W 25 25 3 5 g off dLen dCap ad x.length c (bvs l).toArray 5 (bvs x) Tryd.underlying25 size8 hb
      (by rw [bvs_length]; exact (Nat.min_eq_left hd).symm) (fun j u hu => by
        simp only [bvs, List.getElem?_map, Option.map_eq_some_iff] at hu
        obtain ⟨y, hy, rfl⟩ := hu
        obtain ⟨ad', e, _, hc⟩ := hr j y hy
        cases e
        exact hc) (by simp [bvs]; omega) (bvs_one x)
    have e : (bvs l).take off ++ bvs x ++ (bvs l).drop (off + (bvs x).length) = bvs (splat l off x) := by
      simp [bvs, splat]
    rw [show (bvs l).toArray.toList = bvs l from rfl, e, bvs_length] at hrun
    exact ⟨_, hrun, setRow_heap W g _ _ _ _ hb, (Below.refl _ _).grown (row := some g) ⟨rfl, rfl, rfl, by simp, fun k _ hk => setRow_other W g k _ (fun e => hk (by rw [e]))⟩ (Nat.le_of_lt hb.lt) (fun k hk => by cases hk; exact Nat.le_refl _)⟩
end Go.Proofs.YtghcfmkmndldoaaDoor

/-
  How many bytes a page holds; new slices of noughts.
-/
namespace Go.Proofs.YtghcfmkmndldoaaDoor
open Go.RowKit
set_option maxRecDepth 20000

/-- how many bytes of payload a page of s bytes holds -/
def roomOf (s : Int) : Int := if s < 32 ∨ 65536 < s then 0 else if 65535 < s - 19 then 65535 else s - 19

set_option maxHeartbeats 400000 in
theorem room_any (s : Int) (w : World) :
    Calls Tryd.prog 87 #[.int .i64 s] w fun e w' => e = .returned (.int .i64 (roomOf s)) ∧ w = w' := by
  by_cases h1 : s < 32
  · go_enter Tryd.func87, Tryd.ntmps87
    go_wp2
    go_ret
    exact ⟨by simp [roomOf, h1], rfl⟩
  · by_cases h2 : 65536 < s
    · go_enter Tryd.func87, Tryd.ntmps87
      go_wp2
      go_ret
      exact ⟨by simp [roomOf, h2], rfl⟩
    · have e : roomOf s = if 65535 < s - 19 then 65535 else s - 19 := by unfold roomOf; rw [if_neg (by omega)]
      have E := Lib.hid e
      clear e
      by_cases h3 : 65535 < s - 19
      · go_enter Tryd.func87, Tryd.ntmps87
        go_wp2
        go_ret
        exact ⟨by rw [E.out, if_pos h3]; rfl, rfl⟩
      · go_enter Tryd.func87, Tryd.ntmps87
        go_wp2
        go_ret
        exact ⟨by rw [E.out, if_neg (by omega)]; rfl, rfl⟩

set_option maxHeartbeats 400000 in
theorem refRoom_any (s : Int) (w : World) :
    Calls Tryd.prog 40 #[.int .i64 s] w fun e w' => e = .returned (.int .i64 (roomOf s)) ∧ w = w' := by
  by_cases h1 : s < 32
  · go_enter Tryd.func40, Tryd.ntmps40
    go_wp2
    go_ret
    exact ⟨by simp [roomOf, h1], rfl⟩
  · by_cases h2 : 65536 < s
    · go_enter Tryd.func40, Tryd.ntmps40
      go_wp2
      go_ret
      exact ⟨by simp [roomOf, h2], rfl⟩
    · have e : roomOf s = if 65535 < s - 19 then 65535 else s - 19 := by unfold roomOf; rw [if_neg (by omega)]
      have E := Lib.hid e
      clear e
      by_cases h3 : 65535 < s - 19
      · go_enter Tryd.func40, Tryd.ntmps40
        go_wp2
        go_ret
        exact ⟨by rw [E.out, if_pos h3]; rfl, rfl⟩
      · go_enter Tryd.func40, Tryd.ntmps40
        go_wp2
        go_ret
        exact ⟨by rw [E.out, if_neg (by omega)]; rfl, rfl⟩

/-- make([]byte, n): the block's cells behind a letter -/
theorem make_run (n : Nat) (hn : n ≤ 1099511627776) : ∃ cs : Array Value, Hid (cs = (bvs (List.replicate n 0)).toArray) ∧
    ∀ u : World, (Instr.makeSlice 25 (.int .i64 (n : Int)) (.int .i64 (n : Int))).run Tryd.prog u = .ok (.slice (some ⟨u.heap.size, 0, none⟩) n n) (u.alloc (.cells cs 5)) := by
  obtain ⟨i0, hi, hz0, hz1, hz2⟩ := info_parts info8
  refine ⟨_, rfl, fun u => ?_⟩
  have h := run_make (P := Tryd.prog) u 25 5 i0 (.int .u8 0) Tryd.underlying25 hi hz0 .i64 .i64 (n : Int) (n : Int) (by omega) (Int.le_refl _) (by rw [hz2]; omega) (by omega)
  rw [h]
  simp only [Int.toNat_natCast, hz1, Nat.mul_one]
  congr 3
  apply Array.toList_inj.1
  show (madeCells #[Value.int .u8 0] n).toList = _
  rw [toList_madeCells_one]
  simp [bvs, bv]
end Go.Proofs.YtghcfmkmndldoaaDoor

/-
  The program's writer of numbers.
-/
namespace Go.Proofs.YtghcfmkmndldoaaDoor
open Go.RowKit

/-- make([]byte, 0, n): the block's cells behind a letter -/
theorem make_cap (n : Nat) (hn : n ≤ 2199023255552) : ∃ cs : Array Value, (∀ (u : World) (base : Nat), base ≤ u.heap.size → Own (u.alloc (.cells cs 5)) base (.slice (some ⟨u.heap.size, 0, none⟩) 0 n) []) ∧
    ∀ u : World, (Instr.makeSlice 25 (.int .i64 0) (.int .i64 (n : Int))).run Tryd.prog u = .ok (.slice (some ⟨u.heap.size, 0, none⟩) 0 n) (u.alloc (.cells cs 5)) := by
  obtain ⟨i0, hi, hz0, hz1, hz2⟩ := info_parts info8
  refine ⟨madeCells #[Value.int .u8 0] n, fun u base hb => World.ownsRow_made u _ n hb (by simp only [maxLen]; omega) (by rw [size_madeCells]; omega), fun u => ?_⟩
  have h := run_make (P := Tryd.prog) u 25 5 i0 (.int .u8 0) Tryd.underlying25 hi hz0 .i64 .i64 0 (n : Int) (by omega) (by omega) (by rw [hz2]; omega) (by omega)
  rw [h]
  simp only [Int.toNat_natCast, hz1, Nat.mul_one]
  rfl

set_option maxRecDepth 20000 in
set_option maxHeartbeats 400000 in
theorem number_any (A : Option Addr) (c : Nat) (l : List UInt8) (v : Nat) (w : World) (B : Nat) (hr : RB w B A l) (hB : B ≤ w.heap.size) (hl : l.length ≤ 1099511627776) (hv : v < two64) :
    Calls Tryd.prog 100 #[.slice A l.length c, .int .u64 (v : Int)] w fun e w' => ∃ b', e = .returned b' ∧ Own w' w.heap.size b' (l ++ numBytes v) ∧ Below w.heap.size w w' := by
  obtain ⟨cs, hown, hmk⟩ := make_cap (l.length + 10) (by omega)
  have hmk' : ∀ u : World, (Instr.makeSlice 25 (.int .i64 0) (.int .i64 ((l.length : Int) + 10))).run Tryd.prog u = .ok (.slice (some ⟨u.heap.size, 0, none⟩) 0 (l.length + 10)) (u.alloc (.cells cs 5)) := hmk
  have Hr := Lib.hid hr
  have HB := Lib.hid hB
  have Hl := Lib.hid hl
  have Hv := Lib.hid hv
  have Hown := Lib.hid hown
  have Hlen : Hid (([] : List UInt8).length + l.length ≤ 140737488355327) := by show _ ≤ _; simp; omega
  clear hr hB hv hown hmk
  go_enter Tryd.func100, Tryd.ntmps100
  go_wp2_with (at_builtin; refine app_bytes rfl (.tmp 10) (.tmp 11) rfl w.heap.size _ [] rfl (Hown.out w _ (Nat.le_refl _)) _ A l.length c l rfl rfl (Hr.out.alloc HB.out _) Hlen.out (by simp) ?_; intro v1 w1 hown1 hbel1 _)
  have Hown1 := Lib.hid hown1
  have Hbel1 := Lib.hid hbel1
  clear hown1 hbel1 hmk'
  go_wp2_with fail
  refine (add_any w.heap.size v1 _ v _ Hv.out Hown1.out (Nat.le_trans (by simp) Hbel1.out.size) (by have := Hl.out; simpa using this)).mono ?_
  rintro e w2 ⟨b', rfl, hown2, hbel2⟩
  have hb := (((Below.refl w.heap.size w).alloc (Nat.le_refl _) (.cells cs 5)).trans Hbel1.out).trans hbel2
  clear hbel2
  go_wp2_with fail
  go_ret
  exact ⟨b', rfl, by simpa using hown2, hb⟩
end Go.Proofs.YtghcfmkmndldoaaDoor

/-
  More on bytes: four bytes, all noughts, a copy, a store into a slice, one behind the other.
-/
namespace Go.Proofs.YtghcfmkmndldoaaDoor
open Go.RowKit

set_option maxRecDepth 20000 in
set_option maxHeartbeats 400000 in
theorem blank_any (A : Option Addr) (c : Nat) (l : List UInt8) (w : World) (B : Nat) (hr : RB w B A l) (hl : l.length ≤ 1099511627776) :
    Calls Tryd.prog 90 #[.slice A l.length c] w fun e w' => e = .returned (.bool (l.all (· == 0))) ∧ w = w' := by
  have Hr := Lib.hid hr
  clear hr
  go_enter Tryd.func90, Tryd.ntmps90
  go_wp2_with fail
  go_loop [7] (fun i => ∃ k : Nat, k ≤ l.length ∧ i = .int .i64 (k : Int) ∧ Hid ((l.take k).all (· == 0) = true)) (fun i => (l.length - intOf i).toNat)
  case atStart => exact ⟨0, by omega, rfl, rfl⟩
  case round =>
    obtain ⟨k, hk, rfl, heq⟩ := hrel
    by_cases hkl : k < l.length
    · obtain ⟨ad, rfl, hb, hcell⟩ := Hr.out.at_ hkl
      by_cases h0 : l[k] = 0
      · have hz : (l[k].toNat : Int) = 0 := by rw [h0]; rfl
        rw [hz] at hcell
        have H0 := Lib.hid h0
        clear h0 hz
        go_wp2_with fail
        exact ⟨⟨k + 1, by omega, by go_num, by
          have h1 := heq.out
          have h2 := H0.out
          show _ = _
          rw [List.take_succ_eq_append_getElem hkl, List.all_append, h1, h2]
          rfl⟩, by simp [intOf]; omega⟩
      · have hz : 0 < (l[k].toNat : Int) := by
          have : l[k].toNat ≠ 0 := fun e => h0 (UInt8.toNat_inj.1 e)
          omega
        generalize l[k].toNat = x at hcell hz
        go_wp2_with fail
        go_ret
        refine ⟨?_, rfl⟩
        have : l.all (· == 0) = false := by
          rw [List.all_eq_false]
          exact ⟨l[k], List.getElem_mem hkl, by simpa using h0⟩
        rw [this]
        rfl
    · go_wp2_with fail
      go_ret
      refine ⟨?_, rfl⟩
      obtain rfl : k = l.length := by omega
      have h := heq.out
      rw [List.take_length] at h
      rw [h]
      rfl

theorem leNat_drop (l : List UInt8) (j : Nat) (h : j < l.length) : leNat (l.drop j) = l[j].toNat + 256 * leNat (l.drop (j + 1)) := by
  rw [List.drop_eq_getElem_cons h]
  rfl
/-- what a byte's turn tells the walk -/
theorem low_facts (l : List UInt8) (n j : Nat) (h : j < n) (hn : n ≤ 8) (hl : n ≤ l.length) : ∃ q : Nat, Hid (q = leNat ((l.take n).drop j)) ∧
    bits .or .u64 (IntKind.u64.wrap ((leNat ((l.take n).drop (j + 1)) : Int) * 256)) (l[j].toNat : Int) = (q : Int) := by
  have hj : j < (l.take n).length := by rw [List.length_take]; omega
  have h1 := leNat_drop (l.take n) j hj
  have hx := l[j].toNat_lt
  have he : (l.take n)[j] = l[j] := List.getElem_take
  rw [he] at h1
  have h2 := leNat_lt ((l.take n).drop (j + 1))
  rw [List.length_drop, List.length_take, Nat.min_eq_left hl] at h2
  have h3 : (256 : Nat) ^ (n - (j + 1)) ≤ 256 ^ 7 := Nat.pow_le_pow_right (by omega) (by omega)
  have h4 : (256 : Nat) ^ 7 = 72057594037927936 := by decide
  refine ⟨_, rfl, ?_⟩
  rw [h1]
  generalize leNat ((l.take n).drop (j + 1)) = q at h2
  have hw : IntKind.u64.wrap ((q : Int) * 256) = ((q * 256 : Nat) : Int) := by
    rw [IntKind.wrap_u64]
    omega
  rw [hw, u64_or_nat _ _ (by omega) (by omega)]
  have := Nat.shiftLeft_add_eq_or_of_lt (b := l[j].toNat) (i := 8) (by omega) q
  rw [Nat.shiftLeft_eq] at this
  rw [show q * 256 = q * 2 ^ 8 from rfl, ← this, Nat.mul_comm, Nat.add_comm]

set_option maxRecDepth 20000 in
set_option maxHeartbeats 400000 in
theorem readLow_any (A : Option Addr) (c : Nat) (l : List UInt8) (n : Nat) (w : World) (B : Nat) (hr : RB w B A l) (hn : n ≤ 8) (hl : n ≤ l.length) (hll : l.length ≤ 1099511627776) :
    Calls Tryd.prog 71 #[.slice A l.length c, .int .i64 (n : Int)] w fun e w' => e = .returned (.int .u64 (leNat (l.take n) : Nat)) ∧ w = w' := by
  have Hr := Lib.hid hr
  clear hr
  go_enter Tryd.func71, Tryd.ntmps71
  go_wp2_with fail
  go_loop [5, 6] (fun d i => ∃ k : Nat, k ≤ n ∧ ∃ z : Int, i = .int .i64 z ∧ Hid (z + 1 = (k : Int)) ∧ ∃ m : Nat, d = .int .u64 (m : Int) ∧ Hid (m = leNat ((l.take n).drop k))) (fun _ i => (intOf i + 1).toNat)
  case atStart => exact ⟨n, by omega, _, rfl, (by omega : (n : Int) - 1 + 1 = n), 0, rfl, by show 0 = _; rw [List.drop_eq_nil_of_le (by simp; omega)]; rfl⟩
  case round =>
    obtain ⟨k, hk, z, rfl, hz, m, rfl, heq⟩ := hrel
    by_cases hkl : 0 < k
    · obtain ⟨j, rfl⟩ : ∃ j : Nat, z = (j : Int) := ⟨k - 1, by have := hz.out; omega⟩
      obtain rfl : k = j + 1 := by have := hz.out; omega
      have hjl : j < l.length := by omega
      obtain ⟨ad, rfl, hb, hcell⟩ := Hr.out.at_ hjl
      obtain ⟨q, hq, hor⟩ := low_facts l n j (by omega) hn hl
      rw [← heq.out] at hor
      have hx : (l[j].toNat : Int) < 256 := by have := l[j].toNat_lt; omega
      generalize l[j].toNat = x at hcell hor hx
      clear heq
      go_wp2_with fail
      exact ⟨⟨j, by omega, _, rfl, (by omega : (j : Int) - 1 + 1 = j), q, rfl, hq⟩, by simp [intOf]⟩
    · obtain rfl : z = -1 := by have := hz.out; omega
      go_wp2_with fail
      go_ret
      refine ⟨?_, rfl⟩
      obtain rfl : k = 0 := by omega
      rw [heq.out]
      rfl
end Go.Proofs.YtghcfmkmndldoaaDoor
