/-
  So many bytes of a number stored into a stretch of a block.
-/
import Derived.Test.YtnphlaolinalkaaDoorGet
namespace Go.Proofs.YtnphlaolinalkaaDoor
open Go.RowKit

/-- l with the stretch from off on being r -/
def splat (l : List UInt8) (off : Nat) (r : List UInt8) : List UInt8 := l.take off ++ (r ++ l.drop (off + r.length))
theorem splat_length (l : List UInt8) (off : Nat) (r : List UInt8) (h : off + r.length ≤ l.length) : (splat l off r).length = l.length := by
  simp [splat]; omega
theorem splat_nil (l : List UInt8) (off : Nat) : splat l off [] = l := by simp [splat]
theorem splat_snoc (l : List UInt8) (off : Nat) (r : List UInt8) (x : UInt8) (h : off + r.length < l.length) : (splat l off r).set (off + r.length) x = splat l off (r ++ [x]) := by
  unfold splat
  rw [List.set_append, if_neg (by simp; omega), List.set_append, if_neg (by simp; omega)]
  have e : off + r.length - (l.take off).length - r.length = 0 := by simp; omega
  rw [e, List.drop_eq_getElem_cons h]
  simp [Nat.add_assoc]

set_option maxRecDepth 20000 in
set_option maxHeartbeats 400000 in
theorem put_any (g off n c : Nat) (l : List UInt8) (v : Nat) (w : World) (hb : Blk w g l) (hfit : off + n ≤ l.length) (hl : l.length ≤ 1099511627776) (hv : v < two64) :
    Calls Tryd.prog 41 #[.slice (some ⟨g, off, none⟩) n c, .int .u64 (v : Int)] w fun e w' => e = .returned (.tuple #[]) ∧ Blk w' g (splat l off (leBytes n v)) ∧ Below g w w' := by
  have Hb := Lib.hid hb
  have Hv := Lib.hid hv
  clear hb hv
  go_enter Tryd.func41, Tryd.ntmps41
  go_wp2_with fail
  go_loopw [1, 4, 7] (fun d _ i wr => ∃ k : Nat, k ≤ n ∧ i = .int .i64 (k : Int) ∧ ∃ m : Nat, d = .int .u64 (m : Int) ∧ Hid (m = v / 256 ^ k) ∧ Hid (Blk wr g (splat l off (leBytes k v))) ∧ Hid (Below g w wr)) (fun _ _ i _ => (n - intOf i).toNat)
  case atStart => exact ⟨0, by omega, rfl, v, rfl, by show _ = _; simp, by show Blk _ _ _; rw [leBytes, splat_nil]; exact Hb.out, Below.refl _ _⟩
  case round =>
    obtain ⟨k, hk, rfl, m, rfl, hm, hblk, hbel⟩ := hrel
    by_cases hkl : k < n
    · have hlen : off + k < (splat l off (leBytes k v)).length := by rw [splat_length _ _ _ (by rw [leBytes_length]; omega)]; omega
      have hcell := hblk.out.cell hlen
      have hfz := hblk.out.frozen (off + k)
      have hx : (m : Int) % 256 = ((UInt8.ofNat m).toNat : Int) := by rw [UInt8.toNat_ofNat']; omega
      have hset := hblk.out.set (off + k) (UInt8.ofNat m)
      generalize hy : (UInt8.ofNat m).toNat = y at hx hset
      clear hy
      have Hset := Lib.hid hset
      clear hset
      generalize (splat l off (leBytes k v))[off + k].toNat = old at hcell
      clear hlen
      go_wp2_with fail
      exact ⟨⟨k + 1, by omega, by go_num, m / 256, by go_num, by
          have := hm.out
          show _ = _
          rw [this, Nat.div_div_eq_div_mul, Nat.pow_succ], by
          have h1 := Hset.out
          rw [show off + k = off + (leBytes k v).length from by rw [leBytes_length], splat_snoc _ _ _ _ (by rw [leBytes_length]; omega), hm.out, ← leBytes_snoc] at h1
          rw [leBytes_length] at h1
          exact h1, hbel.out.setCell (p := ⟨g, off + k, none⟩) (Nat.le_refl _) _⟩, by simp [intOf]; omega⟩
    · go_wp2_with fail
      go_end0
      obtain rfl : k = n := by omega
      exact ⟨rfl, hblk.out, hbel.out⟩

theorem size8 : (Tryd.prog.info? 5).map (·.size) = some 1 := by kernel_rfl
/-- copy into a stretch of a block, as one run equation -/
theorem copy_run (W : World) (g off dLen dCap : Nat) (A : Option Addr) (x l : List UInt8) (c B : Nat) (hr : RB W B A x) (hb : Blk W g l) (hd : x.length ≤ dLen) (hfit : off + x.length ≤ l.length) :
    ∃ W', (Builtin.copy_ #[24, 24] 3 #[.slice (some ⟨g, off, none⟩) dLen dCap, .slice A x.length c]).run Tryd.prog W = .ok (.int .i64 (x.length : Int)) W' ∧ Blk W' g (splat l off x) ∧ Below g W W' := by
  by_cases h0 : x.length = 0
  · obtain rfl : x = [] := List.eq_nil_of_length_eq_zero h0
    refine ⟨W, run_copy_none (P := Tryd.prog) W _ _ 3 5 _ _ _ _ _ _ Tryd.underlying24 size8 (by simp), by rw [splat_nil]; exact hb, Below.refl _ _⟩
  · obtain ⟨ad, rfl, _, _⟩ := hr.at_ (show 0 < x.length by omega)
    have hrun := run_copy_row (P := Tryd.prog) W 24 24 3 5 g off dLen dCap ad x.length c (bvs l).toArray 5 (bvs x) Tryd.underlying24 size8 hb
      (by rw [bvs_length]; exact (Nat.min_eq_left hd).symm) (fun j u hu => by
        simp only [bvs, List.getElem?_map, Option.map_eq_some_iff] at hu
        obtain ⟨y, hy, rfl⟩ := hu
        obtain ⟨ad', e, _, hc⟩ := hr j y hy
        cases e
        exact hc) (by simp [bvs]; omega) (bvs_one x)
    have e : (bvs l).take off ++ bvs x ++ (bvs l).drop (off + (bvs x).length) = bvs (splat l off x) := by
      simp [bvs, splat]
    rw [show (bvs l).toArray.toList = bvs l from rfl, e, bvs_length] at hrun
    exact ⟨_, hrun, setRow_heap W g _ _ _ _ hb, (Below.refl _ _).grown (row := some g) ⟨rfl, rfl, rfl, by simp, fun k _ hk => setRow_other W g k _ (fun e => hk (by rw [e]))⟩ (Nat.le_of_lt hb.lt) (fun k hk => by cases hk; exact Nat.le_refl _)⟩
end Go.Proofs.YtnphlaolinalkaaDoor
