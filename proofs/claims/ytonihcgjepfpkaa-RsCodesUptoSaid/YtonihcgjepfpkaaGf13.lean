/-
  A matrix times a vector: the program's.
-/
import Derived.Test.YtonihcgjepfpkaaKGf8
import Derived.StillTailTactics
namespace Go.Proofs.Ytonihcgjepfpkaa
open Go.RowKit

set_option maxRecDepth 20000
/-- product, sum of bytes -/
def bm (x y : UInt8) : UInt8 := UInt8.ofNat (gm x.toNat y.toNat)
theorem u8_lt (x : UInt8) : x.toNat < 256 := by have := x.toNat_lt; omega
theorem bm_nat (x y : UInt8) : (bm x y).toNat = gm x.toNat y.toNat := by
  unfold bm
  rw [UInt8.toNat_ofNat']
  exact Nat.mod_eq_of_lt (gm_lt _ (u8_lt x))
theorem bx_nat (x y : UInt8) : (x ^^^ y).toNat = x.toNat ^^^ y.toNat := UInt8.toNat_xor x y
/-- the first k elements' products, added -/
def dotK (r v : List UInt8) : Nat → UInt8
  | 0 => 0
  | k + 1 => dotK r v k ^^^ bm (r.getD k 0) (v.getD k 0)
def dot (r v : List UInt8) : UInt8 := dotK r v r.length
def applyL (M : List (List UInt8)) (v : List UInt8) : List UInt8 := M.map fun r => dot r v
/-- the sums, i rows done, and j elements of the next -/
def sumsK (M : List (List UInt8)) (v : List UInt8) (i j : Nat) : List UInt8 :=
  (List.range M.length).map fun a => if a < i then dot (M.getD a []) v else if a = i then dotK (M.getD a []) v j else 0
theorem sumsK_length (M : List (List UInt8)) (v : List UInt8) (i j : Nat) : (sumsK M v i j).length = M.length := by simp [sumsK]
theorem sumsK_get (M : List (List UInt8)) (v : List UInt8) (i j a : Nat) (h : a < M.length) : (sumsK M v i j)[a]? = some (if a < i then dot (M.getD a []) v else if a = i then dotK (M.getD a []) v j else 0) := by
  unfold sumsK
  rw [List.getElem?_map, List.getElem?_range h]; rfl
theorem sumsK_start (M : List (List UInt8)) (v : List UInt8) : List.replicate M.length 0 = sumsK M v 0 0 := by
  apply List.ext_getElem?
  intro a
  by_cases h : a < M.length
  · rw [List.getElem?_replicate, if_pos h, sumsK_get M v 0 0 a h, if_neg (by omega)]
    by_cases e : a = 0
    · rw [if_pos e]; rfl
    · rw [if_neg e]
  · rw [List.getElem?_eq_none (by simp; omega), List.getElem?_eq_none (by rw [sumsK_length]; omega)]
theorem sumsK_next (M : List (List UInt8)) (v : List UInt8) (i : Nat) : sumsK M v i (M.getD i []).length = sumsK M v (i + 1) 0 := by
  unfold sumsK
  apply List.map_congr_left
  intro a _
  by_cases h1 : a < i
  · rw [if_pos h1, if_pos (by omega)]
  · rw [if_neg h1]
    by_cases h2 : a = i
    · rw [if_pos h2, if_pos (by omega), h2]; rfl
    · rw [if_neg h2, if_neg (by omega)]
      by_cases h3 : a = i + 1
      · rw [if_pos h3]; rfl
      · rw [if_neg h3]
theorem sumsK_step (M : List (List UInt8)) (v : List UInt8) (i j : Nat) (x y : UInt8) (hi : i < M.length) (hx : (M.getD i []).getD j 0 = x) (hy : v.getD j 0 = y) :
    (sumsK M v i j).set i (dotK (M.getD i []) v j ^^^ bm x y) = sumsK M v i (j + 1) := by
  apply List.ext_getElem?
  intro a
  by_cases h : a < M.length
  · rw [List.getElem?_set, sumsK_get M v i (j + 1) a h, sumsK_get M v i j a h, sumsK_length]
    by_cases e : i = a
    · subst e
      rw [if_pos rfl, if_pos hi, if_neg (by omega), if_pos rfl]
      show _ = some (dotK _ _ j ^^^ bm _ _)
      rw [hx, hy]
    · rw [if_neg e]
      by_cases h1 : a < i
      · rw [if_pos h1, if_pos h1]
      · rw [if_neg h1, if_neg h1, if_neg (fun q => e q.symm), if_neg (fun q => e q.symm)]
  · rw [List.getElem?_eq_none (by rw [List.length_set, sumsK_length]; omega), List.getElem?_eq_none (by rw [sumsK_length]; omega)]
theorem sumsK_done (M : List (List UInt8)) (v : List UInt8) : sumsK M v M.length 0 = applyL M v := by
  apply List.ext_getElem?
  intro a
  by_cases h : a < M.length
  · rw [sumsK_get M v _ _ a h, if_pos h]
    unfold applyL
    rw [List.getElem?_map, List.getElem?_eq_getElem h]
    simp [List.getD_eq_getElem?_getD, h]
  · rw [List.getElem?_eq_none (by rw [sumsK_length]; omega), List.getElem?_eq_none (by simp [applyL]; omega)]
def AppRel (w : World) (M : List (List UInt8)) (v : List UInt8) (i j : Nat) (wr : World) : Prop := Blk wr w.heap.size (sumsK M v i j) ∧ Below w.heap.size w wr
set_option maxHeartbeats 2000000 in
theorem apply_any (A : Option Addr) (c : Nat) (M : List (List UInt8)) (Av : Option Addr) (cv : Nat) (v : List UInt8) (w : World) (h : RM w w.heap.size A M) (hv : RB w w.heap.size Av v) (h1 : 1 ≤ M.length) (h2 : M.length ≤ 255) (hn : ∀ (k : Nat) (l : List UInt8), M[k]? = some l → l.length = v.length) (hvl : v.length ≤ 255) :
    Calls Try.prog 68 #[.slice A M.length c, .slice Av v.length cv] w fun e w' => e = .returned (.slice (some ⟨w.heap.size, 0, none⟩) M.length M.length) ∧ Blk w' w.heap.size (applyL M v) ∧ Below w.heap.size w w' := by
  obtain ⟨ds, Hds, hmd⟩ := make_run M.length (by omega)
  have Hst : Hid (AppRel w M v 0 0 (w.alloc (.cells ds 5))) := by
    refine ⟨?_, (Below.refl _ _).alloc (Nat.le_refl _) _⟩
    have := heap_alloc_new w (.cells ds 5)
    unfold Blk
    rw [this, Hds.out, ← sumsK_start]
  have Hh := Lib.hid h
  have Hv := Lib.hid hv
  have Hn := Lib.hid hn
  obtain ⟨N, hN⟩ : ∃ N, N = M.length := ⟨_, rfl⟩
  obtain ⟨n, hn'⟩ : ∃ n, n = v.length := ⟨_, rfl⟩
  have HN : Hid (N = M.length ∧ n = v.length) := ⟨hN, hn'⟩
  have hN1 : (N : Int) ≤ 255 := by omega
  have hn1 : (n : Int) ≤ 255 := by omega
  have Hg : Hid (w.heap.size = w.heap.size) := rfl
  rw [← hN] at hmd ⊢
  rw [← hn']
  clear h hv hn hN hn' h1 h2 hvl
  go_enter Try.func68, Try.ntmps68
  go_wp2_with fail
  obtain ⟨g, hg⟩ : ∃ g, g = w.heap.size := ⟨_, rfl⟩
  rw [← hg]
  have HG := Lib.hid hg
  clear hg
  go_loopw [6, 7, 15] (fun _ _ iv wr => ∃ i : Nat, iv = .int .i64 (i : Int) ∧ i ≤ N ∧ Hid (AppRel w M v i 0 wr)) (fun _ _ iv _ => N - (intOf iv).toNat)
  case atStart => exact ⟨0, rfl, Nat.zero_le _, Hst.out⟩
  case round =>
    obtain ⟨i, rfl, hi, hrel⟩ := hrel
    by_cases hlt : i < N
    · obtain ⟨r, hr⟩ : ∃ r, M[i]? = some r := ⟨_, List.getElem?_eq_getElem (by rw [← HN.out.1]; exact hlt)⟩
      obtain ⟨b, o, A', c', rfl, hb, hc, hrb, _⟩ := Hh.out i r hr
      have hc0 : wr.cell? ⟨b, o + i, none⟩ = some (.slice A' r.length c') := (hrel.out.2.cell (p := ⟨b, o + i, none⟩) hb).trans hc
      rw [show r.length = n by rw [HN.out.2]; exact Hn.out i r hr] at hc0
      have hlt' : (i : Int) < (N : Int) := by omega
      have Hr : Hid (M.getD i [] = r ∧ r.length = n ∧ RB w w.heap.size A' r) := ⟨by rw [List.getD_eq_getElem?_getD, hr]; rfl, by rw [HN.out.2]; exact Hn.out i r hr, hrb⟩
      have Hrel := Lib.hid hrel.out
      clear hr hb hc hrb hrel
      obtain ⟨wo, rfl⟩ : ∃ wo : World, wo = wr := ⟨_, rfl⟩
      go_wp2_with fail
      clear hc0
      go_loopw [8, 9, 22] (fun _ _ jv wz => ∃ j : Nat, jv = .int .i64 (j : Int) ∧ j ≤ n ∧ Hid (AppRel w M v i j wz)) (fun _ _ jv _ => n - (intOf jv).toNat)
      case atStart => exact ⟨0, rfl, Nat.zero_le _, Hrel.out⟩
      case round =>
        obtain ⟨j, rfl, hj, hrel⟩ := hrel
        by_cases hjl : j < n
        · have hjl' : (j : Int) < (n : Int) := by omega
          obtain ⟨b', o', rfl, hb'⟩ := Hr.out.2.2.flat (by have := Hr.out.2.1; omega)
          obtain ⟨bv', ov, rfl, hbv⟩ := Hv.out.flat (by have := HN.out.2; omega)
          obtain ⟨x, hx⟩ : ∃ x, r[j]? = some x := ⟨_, List.getElem?_eq_getElem (by rw [Hr.out.2.1]; exact hjl)⟩
          obtain ⟨y, hy⟩ : ∃ y, v[j]? = some y := ⟨_, List.getElem?_eq_getElem (by rw [← HN.out.2]; exact hjl)⟩
          have k1 : wr.cell? ⟨b', o' + j, none⟩ = some (.int .u8 (x.toNat : Int)) := by
            obtain ⟨ad, e, _, hc⟩ := Hr.out.2.2 j x hx
            cases e
            rw [add_flat] at hc
            exact (hrel.out.2.cell (p := ⟨b', o' + j, none⟩) hb').trans hc
          have k2 : wr.cell? ⟨bv', ov + j, none⟩ = some (.int .u8 (y.toNat : Int)) := by
            obtain ⟨ad, e, _, hc⟩ := Hv.out j y hy
            cases e
            rw [add_flat] at hc
            exact (hrel.out.2.cell (p := ⟨bv', ov + j, none⟩) hbv).trans hc
          obtain ⟨s, hs⟩ : ∃ s, s = dotK (M.getD i []) v j := ⟨_, rfl⟩
          have k3 : wr.cell? ⟨w.heap.size, i, none⟩ = some (.int .u8 (s.toNat : Int)) := by
            have hget := sumsK_get M v i j i (by rw [← HN.out.1]; exact hlt)
            rw [if_neg (by omega), if_pos rfl, ← hs] at hget
            have hil : i < (sumsK M v i j).length := (List.getElem?_eq_some_iff.1 hget).1
            rw [hrel.out.1.cell hil]
            rw [List.getElem?_eq_getElem hil] at hget
            rw [Option.some.inj hget]
          have k4 : wr.frozen? ⟨w.heap.size, i, none⟩ = false := hrel.out.1.frozen i
          rw [← HG.out] at k3 k4
          have HM : Hid (∀ W, Calls Try.prog 69 #[.int .u8 (x.toNat : Int), .int .u8 (y.toNat : Int)] W fun e w' => e = .returned (.int .u8 ((bm x y).toNat : Int)) ∧ w' = W) := fun W => by
            have := mul_any x.toNat y.toNat W (u8_lt x) (u8_lt y)
            rw [← bm_nat] at this
            exact this.mono fun _ _ ⟨a, b⟩ => ⟨a, b.symm⟩
          have HA : Hid (∀ W, Calls Try.prog 58 #[.int .u8 (s.toNat : Int), .int .u8 ((bm x y).toNat : Int)] W fun e w' => e = .returned (.int .u8 ((s ^^^ bm x y).toNat : Int)) ∧ w' = W) := fun W => by
            have := add_any s.toNat (bm x y).toNat W (u8_lt s) (u8_lt _)
            rw [← bx_nat] at this
            exact this.mono fun _ _ ⟨a, b⟩ => ⟨a, b.symm⟩
          have Hnx : Hid (∀ q, AppRel w M v i (j + 1) ((wr.setCell ⟨g, i, none⟩ (.int .u8 ((s ^^^ bm x y).toNat : Int))).drewN q)) := fun q => by
            rw [HG.out]
            have q1 := hrel.out.1.set i (s ^^^ bm x y)
            rw [hs, sumsK_step M v i j x y (by rw [← HN.out.1]; exact hlt) (by rw [Hr.out.1, List.getD_eq_getElem?_getD, hx]; rfl) (by rw [List.getD_eq_getElem?_getD, hy]; rfl), ← hs] at q1
            have q2 := hrel.out.2.setCell (p := ⟨w.heap.size, i, none⟩) (Nat.le_refl _) (.int .u8 ((s ^^^ bm x y).toNat : Int))
            exact ⟨q1, ⟨q2.os, q2.tape, q2.output, q2.size, q2.block⟩⟩
          generalize (s ^^^ bm x y).toNat = s2 at *
          generalize (bm x y).toNat = p2 at *
          generalize x.toNat = xn at *
          generalize y.toNat = yn at *
          generalize s.toNat = sn at *
          clear hx hy hs hrel hb' hbv hjl
          go_wp2_with fail
          refine wp_region_still_tail 14 (by kernel_rfl) (by kernel_rfl) ?_
          simp only [List.take_succ_cons, List.take_zero, List.drop_succ_cons, List.drop_zero]
          repeat (first | still_step | still_call (HM.out _) | still_call (HA.out _))
          try refine wpStill_nil ?_
          change wpList _ _ _ _ _ wr.drew
          go_wp2_with fail
          go_roundw
          case rel => exact ⟨j + 1, by go_num, by omega, Hnx.out 1⟩
          case measure => simp [intOf]; omega
        · obtain rfl : j = n := by omega
          have Hnx : Hid (AppRel w M v (i + 1) 0 wr) := by
            have := hrel.out
            rw [← Hr.out.2.1, ← Hr.out.1] at this
            unfold AppRel at this ⊢
            rw [sumsK_next] at this
            exact this
          clear hjl hrel
          go_wp2_with fail
          go_roundw
          case rel => exact ⟨i + 1, by go_num, by omega, Hnx.out⟩
          case measure => simp [intOf]; omega
    · obtain rfl : i = N := by omega
      have Hd : Hid (Blk wr w.heap.size (applyL M v) ∧ Below w.heap.size w wr) := by
        have := hrel.out
        unfold AppRel at this
        rw [HN.out.1, sumsK_done] at this
        exact this
      clear hlt hrel
      go_wp2_with fail
      go_ret
      exact ⟨by rw [HG.out]; rfl, Hd.out.1, Hd.out.2⟩
end Go.Proofs.Ytonihcgjepfpkaa
