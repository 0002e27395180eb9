/-
  So many bytes of a number stored into a stretch of a block.
-/
import Derived.Test.YtghcfmkmndldoaaGet
namespace Go.Proofs.Ytghcfmkmndldoaa
open Go.RowKit

/-- l with the stretch from off on being r -/
def splat (l : List UInt8) (off : Nat) (r : List UInt8) : List UInt8 := l.take off ++ (r ++ l.drop (off + r.length))
theorem splat_length (l : List UInt8) (off : Nat) (r : List UInt8) (h : off + r.length ≤ l.length) : (splat l off r).length = l.length := by
  simp [splat]; omega
theorem splat_nil (l : List UInt8) (off : Nat) : splat l off [] = l := by simp [splat]
theorem splat_snoc (l : List UInt8) (off : Nat) (r : List UInt8) (x : UInt8) (h : off + r.length < l.length) : (splat l off r).set (off + r.length) x = splat l off (r ++ [x]) := by
  unfold splat
  rw [List.set_append, if_neg (by simp; omega), List.set_append, if_neg (by simp; omega)]
  have e : off + r.length - (l.take off).length - r.length = 0 := by simp; omega
  rw [e, List.drop_eq_getElem_cons h]
  simp [Nat.add_assoc]

theorem size8 : (Try.prog.info? 5).map (·.size) = some 1 := by kernel_rfl
/-- copy into a stretch of a block, as one run equation -/
theorem copy_run (W : World) (g off dLen dCap : Nat) (A : Option Addr) (x l : List UInt8) (c B : Nat) (hr : RB W B A x) (hb : Blk W g l) (hd : x.length ≤ dLen) (hfit : off + x.length ≤ l.length) :
    ∃ W', (Builtin.copy_ #[48, 48] 3 #[.slice (some ⟨g, off, none⟩) dLen dCap, .slice A x.length c]).run Try.prog W = .ok (.int .i64 (x.length : Int)) W' ∧ Blk W' g (splat l off x) ∧ Below g W W' := by
  by_cases h0 : x.length = 0
  · obtain rfl : x = [] := List.eq_nil_of_length_eq_zero h0
    refine ⟨W, run_copy_none (P := Try.prog) W _ _ 3 5 _ _ _ _ _ _ Try.underlying48 size8 (by simp), by rw [splat_nil]; exact hb, Below.refl _ _⟩
  · obtain ⟨ad, rfl, _, _⟩ := hr.at_ (show 0 < x.length by omega)
    have hrun := run_copy_row (P := Try.prog) W 48 48 3 5 g off dLen dCap ad x.length c (bvs l).toArray 5 (bvs x) Try.underlying48 size8 hb
      (by rw [bvs_length]; exact (Nat.min_eq_left hd).symm) (fun j u hu => by
        simp only [bvs, List.getElem?_map, Option.map_eq_some_iff] at hu
        obtain ⟨y, hy, rfl⟩ := hu
        obtain ⟨ad', e, _, hc⟩ := hr j y hy
        cases e
        exact hc) (by simp [bvs]; omega) (bvs_one x)
    have e : (bvs l).take off ++ bvs x ++ (bvs l).drop (off + (bvs x).length) = bvs (splat l off x) := by
      simp [bvs, splat]
    rw [show (bvs l).toArray.toList = bvs l from rfl, e, bvs_length] at hrun
    exact ⟨_, hrun, setRow_heap W g _ _ _ _ hb, (Below.refl _ _).grown (row := some g) ⟨rfl, rfl, rfl, by simp, fun k _ hk => setRow_other W g k _ (fun e => hk (by rw [e]))⟩ (Nat.le_of_lt hb.lt) (fun k hk => by cases hk; exact Nat.le_refl _)⟩
end Go.Proofs.Ytghcfmkmndldoaa
