/-
  A matrix times a vector: the program's.
-/
import Derived.Test.YtlficcdbnmheeaaDoorKGf8
import Derived.StillTailTactics
import Derived.Test.YtlficcdbnmheeaaDoorKGf4
import Derived.Test.YtlficcdbnmheeaaDoorKOwnV
namespace Go.Proofs.YtlficcdbnmheeaaDoor
open Go.RowKit

set_option maxRecDepth 20000
/-- product, sum of bytes -/
def bm (x y : UInt8) : UInt8 := UInt8.ofNat (gm x.toNat y.toNat)
theorem u8_lt (x : UInt8) : x.toNat < 256 := by have := x.toNat_lt; omega
theorem bm_nat (x y : UInt8) : (bm x y).toNat = gm x.toNat y.toNat := by
  unfold bm
  rw [UInt8.toNat_ofNat']
  exact Nat.mod_eq_of_lt (gm_lt _ (u8_lt x))
theorem bx_nat (x y : UInt8) : (x ^^^ y).toNat = x.toNat ^^^ y.toNat := UInt8.toNat_xor x y
/-- the first k elements' products, added -/
def dotK (r v : List UInt8) : Nat → UInt8
  | 0 => 0
  | k + 1 => dotK r v k ^^^ bm (r.getD k 0) (v.getD k 0)
def dot (r v : List UInt8) : UInt8 := dotK r v r.length
def applyL (M : List (List UInt8)) (v : List UInt8) : List UInt8 := M.map fun r => dot r v
/-- the sums, i rows done, and j elements of the next -/
def sumsK (M : List (List UInt8)) (v : List UInt8) (i j : Nat) : List UInt8 :=
  (List.range M.length).map fun a => if a < i then dot (M.getD a []) v else if a = i then dotK (M.getD a []) v j else 0
theorem sumsK_length (M : List (List UInt8)) (v : List UInt8) (i j : Nat) : (sumsK M v i j).length = M.length := by simp [sumsK]
theorem sumsK_get (M : List (List UInt8)) (v : List UInt8) (i j a : Nat) (h : a < M.length) : (sumsK M v i j)[a]? = some (if a < i then dot (M.getD a []) v else if a = i then dotK (M.getD a []) v j else 0) := by
  unfold sumsK
  rw [List.getElem?_map, List.getElem?_range h]; rfl
theorem sumsK_start (M : List (List UInt8)) (v : List UInt8) : List.replicate M.length 0 = sumsK M v 0 0 := by
  apply List.ext_getElem?
  intro a
  by_cases h : a < M.length
  · rw [List.getElem?_replicate, if_pos h, sumsK_get M v 0 0 a h, if_neg (by omega)]
    by_cases e : a = 0
    · rw [if_pos e]; rfl
    · rw [if_neg e]
  · rw [List.getElem?_eq_none (by simp; omega), List.getElem?_eq_none (by rw [sumsK_length]; omega)]
theorem sumsK_next (M : List (List UInt8)) (v : List UInt8) (i : Nat) : sumsK M v i (M.getD i []).length = sumsK M v (i + 1) 0 := by
  unfold sumsK
  apply List.map_congr_left
  intro a _
  by_cases h1 : a < i
  · rw [if_pos h1, if_pos (by omega)]
  · rw [if_neg h1]
    by_cases h2 : a = i
    · rw [if_pos h2, if_pos (by omega), h2]; rfl
    · rw [if_neg h2, if_neg (by omega)]
      by_cases h3 : a = i + 1
      · rw [if_pos h3]; rfl
      · rw [if_neg h3]
theorem sumsK_step (M : List (List UInt8)) (v : List UInt8) (i j : Nat) (x y : UInt8) (hi : i < M.length) (hx : (M.getD i []).getD j 0 = x) (hy : v.getD j 0 = y) :
    (sumsK M v i j).set i (dotK (M.getD i []) v j ^^^ bm x y) = sumsK M v i (j + 1) := by
  apply List.ext_getElem?
  intro a
  by_cases h : a < M.length
  · rw [List.getElem?_set, sumsK_get M v i (j + 1) a h, sumsK_get M v i j a h, sumsK_length]
    by_cases e : i = a
    · subst e
      rw [if_pos rfl, if_pos hi, if_neg (by omega), if_pos rfl]
      show _ = some (dotK _ _ j ^^^ bm _ _)
      rw [hx, hy]
    · rw [if_neg e]
      by_cases h1 : a < i
      · rw [if_pos h1, if_pos h1]
      · rw [if_neg h1, if_neg h1, if_neg (fun q => e q.symm), if_neg (fun q => e q.symm)]
  · rw [List.getElem?_eq_none (by rw [List.length_set, sumsK_length]; omega), List.getElem?_eq_none (by rw [sumsK_length]; omega)]
theorem sumsK_done (M : List (List UInt8)) (v : List UInt8) : sumsK M v M.length 0 = applyL M v := by
  apply List.ext_getElem?
  intro a
  by_cases h : a < M.length
  · rw [sumsK_get M v _ _ a h, if_pos h]
    unfold applyL
    rw [List.getElem?_map, List.getElem?_eq_getElem h]
    simp [List.getD_eq_getElem?_getD, h]
  · rw [List.getElem?_eq_none (by rw [sumsK_length]; omega), List.getElem?_eq_none (by simp [applyL]; omega)]
def AppRel (w : World) (M : List (List UInt8)) (v : List UInt8) (i j : Nat) (wr : World) : Prop := Blk wr w.heap.size (sumsK M v i j) ∧ Below w.heap.size w wr
set_option maxHeartbeats 2000000 in
theorem apply_any (A : Option Addr) (c : Nat) (M : List (List UInt8)) (Av : Option Addr) (cv : Nat) (v : List UInt8) (w : World) (h : RM w w.heap.size A M) (hv : RB w w.heap.size Av v) (h1 : 1 ≤ M.length) (h2 : M.length ≤ 255) (hn : ∀ (k : Nat) (l : List UInt8), M[k]? = some l → l.length = v.length) (hvl : v.length ≤ 255) :
    Calls Tryd.prog 132 #[.slice A M.length c, .slice Av v.length cv] w fun e w' => e = .returned (.slice (some ⟨w.heap.size, 0, none⟩) M.length M.length) ∧ Blk w' w.heap.size (applyL M v) ∧ Below w.heap.size w w' := by
  obtain ⟨ds, Hds, hmd⟩ := make_run M.length (by omega)
  have Hst : Hid (AppRel w M v 0 0 (w.alloc (.cells ds 5))) := by
    refine ⟨?_, (Below.refl _ _).alloc (Nat.le_refl _) _⟩
    have := heap_alloc_new w (.cells ds 5)
    unfold Blk
    rw [this, Hds.out, ← sumsK_start]
  have Hh := Lib.hid h
  have Hv := Lib.hid hv
  have Hn := Lib.hid hn
  obtain ⟨N, hN⟩ : ∃ N, N = M.length := ⟨_, rfl⟩
  obtain ⟨n, hn'⟩ : ∃ n, n = v.length := ⟨_, rfl⟩
  have HN : Hid (N = M.length ∧ n = v.length) := ⟨hN, hn'⟩
  have hN1 : (N : Int) ≤ 255 := by omega
  have hn1 : (n : Int) ≤ 255 := by omega
  have Hg : Hid (w.heap.size = w.heap.size) := rfl
  rw [← hN] at hmd ⊢
  rw [← hn']
  clear h hv hn hN hn' h1 h2 hvl
  go_enter Tryd.func132, Tryd.ntmps132
  go_wp2_with fail
  obtain ⟨g, hg⟩ : ∃ g, g = w.heap.size := ⟨_, rfl⟩
  rw [← hg]
  have HG := Lib.hid hg
  clear hg
  go_loopw [6, 7, 15] (fun _ _ iv wr => ∃ i : Nat, iv = .int .i64 (i : Int) ∧ i ≤ N ∧ Hid (AppRel w M v i 0 wr)) (fun _ _ iv _ => N - (intOf iv).toNat)
  case atStart => exact ⟨0, rfl, Nat.zero_le _, Hst.out⟩
  case round =>
    obtain ⟨i, rfl, hi, hrel⟩ := hrel
    by_cases hlt : i < N
    · obtain ⟨r, hr⟩ : ∃ r, M[i]? = some r := ⟨_, List.getElem?_eq_getElem (by rw [← HN.out.1]; exact hlt)⟩
      obtain ⟨b, o, A', c', rfl, hb, hc, hrb, _⟩ := Hh.out i r hr
      have hc0 : wr.cell? ⟨b, o + i, none⟩ = some (.slice A' r.length c') := (hrel.out.2.cell (p := ⟨b, o + i, none⟩) hb).trans hc
      rw [show r.length = n by rw [HN.out.2]; exact Hn.out i r hr] at hc0
      have hlt' : (i : Int) < (N : Int) := by omega
      have Hr : Hid (M.getD i [] = r ∧ r.length = n ∧ RB w w.heap.size A' r) := ⟨by rw [List.getD_eq_getElem?_getD, hr]; rfl, by rw [HN.out.2]; exact Hn.out i r hr, hrb⟩
      have Hrel := Lib.hid hrel.out
      clear hr hb hc hrb hrel
      obtain ⟨wo, rfl⟩ : ∃ wo : World, wo = wr := ⟨_, rfl⟩
      go_wp2_with fail
      clear hc0
      go_loopw [8, 9, 22] (fun _ _ jv wz => ∃ j : Nat, jv = .int .i64 (j : Int) ∧ j ≤ n ∧ Hid (AppRel w M v i j wz)) (fun _ _ jv _ => n - (intOf jv).toNat)
      case atStart => exact ⟨0, rfl, Nat.zero_le _, Hrel.out⟩
      case round =>
        obtain ⟨j, rfl, hj, hrel⟩ := hrel
        by_cases hjl : j < n
        · have hjl' : (j : Int) < (n : Int) := by omega
          obtain ⟨b', o', rfl, hb'⟩ := Hr.out.2.2.flat (by have := Hr.out.2.1; omega)
          obtain ⟨bv', ov, rfl, hbv⟩ := Hv.out.flat (by have := HN.out.2; omega)
          obtain ⟨x, hx⟩ : ∃ x, r[j]? = some x := ⟨_, List.getElem?_eq_getElem (by rw [Hr.out.2.1]; exact hjl)⟩
          obtain ⟨y, hy⟩ : ∃ y, v[j]? = some y := ⟨_, List.getElem?_eq_getElem (by rw [← HN.out.2]; exact hjl)⟩
          have k1 : wr.cell? ⟨b', o' + j, none⟩ = some (.int .u8 (x.toNat : Int)) := by
            obtain ⟨ad, e, _, hc⟩ := Hr.out.2.2 j x hx
            cases e
            rw [add_flat] at hc
            exact (hrel.out.2.cell (p := ⟨b', o' + j, none⟩) hb').trans hc
          have k2 : wr.cell? ⟨bv', ov + j, none⟩ = some (.int .u8 (y.toNat : Int)) := by
            obtain ⟨ad, e, _, hc⟩ := Hv.out j y hy
            cases e
            rw [add_flat] at hc
            exact (hrel.out.2.cell (p := ⟨bv', ov + j, none⟩) hbv).trans hc
          obtain ⟨s, hs⟩ : ∃ s, s = dotK (M.getD i []) v j := ⟨_, rfl⟩
          have k3 : wr.cell? ⟨w.heap.size, i, none⟩ = some (.int .u8 (s.toNat : Int)) := by
            have hget := sumsK_get M v i j i (by rw [← HN.out.1]; exact hlt)
            rw [if_neg (by omega), if_pos rfl, ← hs] at hget
            have hil : i < (sumsK M v i j).length := (List.getElem?_eq_some_iff.1 hget).1
            rw [hrel.out.1.cell hil]
            rw [List.getElem?_eq_getElem hil] at hget
            rw [Option.some.inj hget]
          have k4 : wr.frozen? ⟨w.heap.size, i, none⟩ = false := hrel.out.1.frozen i
          rw [← HG.out] at k3 k4
          have HM : Hid (∀ W, Calls Tryd.prog 114 #[.int .u8 (x.toNat : Int), .int .u8 (y.toNat : Int)] W fun e w' => e = .returned (.int .u8 ((bm x y).toNat : Int)) ∧ w' = W) := fun W => by
            have := mul_any x.toNat y.toNat W (u8_lt x) (u8_lt y)
            rw [← bm_nat] at this
            exact this.mono fun _ _ ⟨a, b⟩ => ⟨a, b.symm⟩
          have HA : Hid (∀ W, Calls Tryd.prog 107 #[.int .u8 (s.toNat : Int), .int .u8 ((bm x y).toNat : Int)] W fun e w' => e = .returned (.int .u8 ((s ^^^ bm x y).toNat : Int)) ∧ w' = W) := fun W => by
            have := add_any s.toNat (bm x y).toNat W (u8_lt s) (u8_lt _)
            rw [← bx_nat] at this
            exact this.mono fun _ _ ⟨a, b⟩ => ⟨a, b.symm⟩
          have Hnx : Hid (∀ q, AppRel w M v i (j + 1) ((wr.setCell ⟨g, i, none⟩ (.int .u8 ((s ^^^ bm x y).toNat : Int))).drewN q)) := fun q => by
            rw [HG.out]
            have q1 := hrel.out.1.set i (s ^^^ bm x y)
            rw [hs, sumsK_step M v i j x y (by rw [← HN.out.1]; exact hlt) (by rw [Hr.out.1, List.getD_eq_getElem?_getD, hx]; rfl) (by rw [List.getD_eq_getElem?_getD, hy]; rfl), ← hs] at q1
            have q2 := hrel.out.2.setCell (p := ⟨w.heap.size, i, none⟩) (Nat.le_refl _) (.int .u8 ((s ^^^ bm x y).toNat : Int))
            exact ⟨q1, ⟨q2.os, q2.tape, q2.output, q2.size, q2.block⟩⟩
          generalize (s ^^^ bm x y).toNat = s2 at *
          generalize (bm x y).toNat = p2 at *
          generalize x.toNat = xn at *
          generalize y.toNat = yn at *
          generalize s.toNat = sn at *
          clear hx hy hs hrel hb' hbv hjl
          go_wp2_with fail
          refine wp_region_still_tail 14 (by kernel_rfl) (by kernel_rfl) ?_
          simp only [List.take_succ_cons, List.take_zero, List.drop_succ_cons, List.drop_zero]
          repeat (first | still_step | still_call (HM.out _) | still_call (HA.out _))
          try refine wpStill_nil ?_
          change wpList _ _ _ _ _ wr.drew
          go_wp2_with fail
          go_roundw
          case rel => exact ⟨j + 1, by go_num, by omega, Hnx.out 1⟩
          case measure => simp [intOf]; omega
        · obtain rfl : j = n := by omega
          have Hnx : Hid (AppRel w M v (i + 1) 0 wr) := by
            have := hrel.out
            rw [← Hr.out.2.1, ← Hr.out.1] at this
            unfold AppRel at this ⊢
            rw [sumsK_next] at this
            exact this
          clear hjl hrel
          go_wp2_with fail
          go_roundw
          case rel => exact ⟨i + 1, by go_num, by omega, Hnx.out⟩
          case measure => simp [intOf]; omega
    · obtain rfl : i = N := by omega
      have Hd : Hid (Blk wr w.heap.size (applyL M v) ∧ Below w.heap.size w wr) := by
        have := hrel.out
        unfold AppRel at this
        rw [HN.out.1, sumsK_done] at this
        exact this
      clear hlt hrel
      go_wp2_with fail
      go_ret
      exact ⟨by rw [HG.out]; rfl, Hd.out.1, Hd.out.2⟩
end Go.Proofs.YtlficcdbnmheeaaDoor

/-
  Row operations: plain, and in memory; the program's pivot, swap, scale, add.
-/
namespace Go.Proofs.YtlficcdbnmheeaaDoor
open Go.RowKit

set_option maxRecDepth 20000
abbrev Mtx := List (List UInt8)
def at2 (M : Mtx) (i j : Nat) : UInt8 := (M.getD i []).getD j 0
def pivFrom (M : Mtx) (n : Nat) : Nat → Nat → Option Nat
  | 0, _ => none
  | f + 1, k => if at2 M k n ≠ 0 then some k else pivFrom M n f (k + 1)
def pivot (M : Mtx) (n : Nat) : Option Nat := pivFrom M n (M.length - n) n
def pivI (o : Option Nat) : Int := match o with | some k => (k : Int) | none => -1
def swapM (M : Mtx) (i p : Nat) : Mtx := (M.set i (M.getD p [])).set p (M.getD i [])
def scaleR (r : List UInt8) (x : UInt8) : List UInt8 := r.map fun y => bm y x
def scaleM (M : Mtx) (i : Nat) (x : UInt8) : Mtx := M.set i (scaleR (M.getD i []) x)
def addR (r o : List UInt8) (x : UInt8) : List UInt8 := List.zipWith (fun a b => a ^^^ bm b x) r o
def addM (M : Mtx) (r i : Nat) (x : UInt8) : Mtx := M.set r (addR (M.getD r []) (M.getD i []) x)
theorem getD_of {M : Mtx} {i : Nat} {l : List UInt8} (h : M[i]? = some l) : M.getD i [] = l := by rw [List.getD_eq_getElem?_getD, h]; rfl
theorem getD8 {l : List UInt8} {i : Nat} {x : UInt8} (h : l[i]? = some x) : l.getD i 0 = x := by rw [List.getD_eq_getElem?_getD, h]; rfl

/-- outside of the matrix all is as it was -/
def Out (lo hi : Nat) (w w' : World) : Prop := Kept (fun b => b < lo ∨ hi ≤ b) w w'
theorem Out.refl (lo hi : Nat) (w : World) : Out lo hi w w := Kept.refl _ _
theorem Out.drewN {lo hi : Nat} {w w' : World} (h : Out lo hi w w') (n : Nat) : Out lo hi w (w'.drewN n) := Kept.drewN h n
theorem Out.set {lo hi : Nat} {w w' : World} (h : Out lo hi w w') {b i : Nat} (h1 : lo ≤ b) (h2 : b < hi) (v : Value) : Out lo hi w (w'.setCell ⟨b, i, none⟩ v) :=
  Kept.setCell h (p := ⟨b, i, none⟩) (by show ¬ (b < lo ∨ hi ≤ b); omega) v
theorem Out.below {lo hi B : Nat} {w w' : World} (h : Out lo hi w w') (h1 : B ≤ lo) (hB : B ≤ w.heap.size) : Below B w w' := Kept.to_below h (fun b hb => .inl (by omega)) hB

/-- two rows change places in memory, in either order of the stores -/
theorem MatO.swap {w : World} {lo hi g n c : Nat} {M : Mtx} (h : MatO w lo hi (.slice (some ⟨g, 0, none⟩) n c) M) {i p : Nat} (hi' : i < M.length) (hp : p < M.length) :
    ∃ ri rp, w.cell? ⟨g, i, none⟩ = some ri ∧ w.cell? ⟨g, p, none⟩ = some rp ∧ w.frozen? ⟨g, i, none⟩ = false ∧ w.frozen? ⟨g, p, none⟩ = false ∧ lo ≤ g ∧ g < hi ∧
      (∃ bi ci, ri = .slice (some ⟨bi, 0, none⟩) (M.getD i []).length ci) ∧ (∃ bp cp, rp = .slice (some ⟨bp, 0, none⟩) (M.getD p []).length cp) ∧
      MatO ((w.setCell ⟨g, i, none⟩ rp).setCell ⟨g, p, none⟩ ri) lo hi (.slice (some ⟨g, 0, none⟩) n c) (swapM M i p) ∧
      MatO ((w.setCell ⟨g, p, none⟩ ri).setCell ⟨g, i, none⟩ rp) lo hi (.slice (some ⟨g, 0, none⟩) n c) (swapM M i p) := by
  obtain ⟨bi, ci, hri, _⟩ := h.row (List.getElem?_eq_getElem hi')
  obtain ⟨bp, cp, hrp, _⟩ := h.row (List.getElem?_eq_getElem hp)
  have gi : M.getD i [] = M[i] := getD_of (List.getElem?_eq_getElem hi')
  have gp : M.getD p [] = M[p] := getD_of (List.getElem?_eq_getElem hp)
  obtain ⟨rows, a, b, cc, d, e⟩ := h
  rcases a.form with ⟨hv, _⟩ | ⟨g', cap', cur, hv, hb', hc, hn, hm, hlc, ht⟩
  · cases hv
  cases hv
  have get : ∀ (k : Nat) (r : Value), k < rows.length → w.cell? ⟨g, k, none⟩ = some r → rows[k]? = some r := fun k r hk hr => by
    have hlt : k < cur.length := by omega
    have := hc.cell (List.getElem?_eq_getElem hlt)
    rw [hr] at this
    rw [← ht, List.getElem?_take_of_lt hk, List.getElem?_eq_getElem hlt]
    exact this.symm
  have q1 := get i _ (by rw [cc]; exact hi') hri.head
  have q2 := get p _ (by rw [cc]; exact hp) hrp.head
  have key : ∀ w' : World, (∀ k, k ≠ g → w'.heap[k]? = w.heap[k]?) → OwnV w' lo 25 (.slice (some ⟨g, 0, none⟩) rows.length c) ((rows.set i (.slice (some ⟨bp, 0, none⟩) M[p].length cp)).set p (.slice (some ⟨bi, 0, none⟩) M[i].length ci)) →
      MatO w' lo hi (.slice (some ⟨g, 0, none⟩) rows.length c) (swapM M i p) := by
    intro w' hk hown
    have hsig : ∀ (k : Nat) (r : Value) (l : List UInt8), ((rows.set i (.slice (some ⟨bp, 0, none⟩) M[p].length cp)).set p (.slice (some ⟨bi, 0, none⟩) M[i].length ci))[k]? = some r → k < rows.length ∧ rows[if k = p then i else if k = i then p else k]? = some r := by
      intro k r _ hr
      have hkl : k < rows.length := by
        have := (List.getElem?_eq_some_iff.1 hr).1
        simpa using this
      refine ⟨hkl, ?_⟩
      rw [List.getElem?_set] at hr
      by_cases h1 : p = k
      · subst h1
        rw [if_pos rfl, if_pos (by simpa using hkl)] at hr
        rw [if_pos rfl, q1]
        exact hr
      · rw [if_neg h1, List.getElem?_set] at hr
        rw [if_neg (fun e => h1 e.symm)]
        by_cases h2 : i = k
        · subst h2
          rw [if_pos rfl, if_pos hkl] at hr
          rw [if_pos rfl, q2]
          exact hr
        · rw [if_neg h2] at hr
          rw [if_neg (fun e => h2 e.symm)]
          exact hr
    have hM : ∀ (k : Nat), k < M.length → (swapM M i p)[k]? = M[if k = p then i else if k = i then p else k]? := by
      intro k hkl
      unfold swapM
      rw [gi, gp, List.getElem?_set]
      by_cases h1 : p = k
      · subst h1
        rw [if_pos rfl, if_pos (by simpa using hkl), if_pos rfl, List.getElem?_eq_getElem hi']
      · rw [if_neg h1, List.getElem?_set, if_neg (show ¬ k = p from fun e => h1 e.symm)]
        by_cases h2 : i = k
        · subst h2
          rw [if_pos rfl, if_pos hkl, if_pos rfl, List.getElem?_eq_getElem hp]
        · rw [if_neg h2, if_neg (show ¬ k = i from fun e => h2 e.symm)]
    refine ⟨(rows.set i (.slice (some ⟨bp, 0, none⟩) M[p].length cp)).set p (.slice (some ⟨bi, 0, none⟩) M[i].length ci), hown, fun k hk' => b k hk', by simp [swapM, cc], fun k r l hr hl => ?_, fun k k' rk rk' x hkk hrk hrk' hx hx' => ?_⟩
    · obtain ⟨hkl, hr'⟩ := hsig k r l hr
      rw [hM k (by rw [← cc]; exact hkl)] at hl
      obtain ⟨d1, d2, d3⟩ := d _ r l hr' hl
      refine ⟨d1, d2.move fun x hx => hk x ?_, d3⟩
      intro e'
      subst e'
      obtain ⟨bb, cap, rfl, _⟩ := d2.form d1
      cases hx
      rcases d2.toV.form with ⟨hv, _⟩ | ⟨g2, cap2, cur2, hv, _, hc2, _⟩
      · cases hv
      · have e3 := (Value.slice.inj hv).1
        simp at e3
        rw [← e3] at hc2
        exact absurd (hc.type hc2).1 (by decide)
    · obtain ⟨_, h1⟩ := hsig k rk [] hrk
      obtain ⟨_, h2⟩ := hsig k' rk' [] hrk'
      refine e _ _ rk rk' x ?_ h1 h2 hx hx'
      intro he
      apply hkk
      revert he
      split <;> split <;> (try split) <;> (try split) <;> omega
  have o1 : OwnV ((w.setCell ⟨g, i, none⟩ (.slice (some ⟨bp, 0, none⟩) M[p].length cp)).setCell ⟨g, p, none⟩ (.slice (some ⟨bi, 0, none⟩) M[i].length ci)) lo 25 (.slice (some ⟨g, 0, none⟩) rows.length c) ((rows.set i (.slice (some ⟨bp, 0, none⟩) M[p].length cp)).set p (.slice (some ⟨bi, 0, none⟩) M[i].length ci)) := (a.set i _).set p _
  have o2 : OwnV ((w.setCell ⟨g, p, none⟩ (.slice (some ⟨bi, 0, none⟩) M[i].length ci)).setCell ⟨g, i, none⟩ (.slice (some ⟨bp, 0, none⟩) M[p].length cp)) lo 25 (.slice (some ⟨g, 0, none⟩) rows.length c) ((rows.set i (.slice (some ⟨bp, 0, none⟩) M[p].length cp)).set p (.slice (some ⟨bi, 0, none⟩) M[i].length ci)) := by
    have := (a.set p (.slice (some ⟨bi, 0, none⟩) M[i].length ci)).set i (.slice (some ⟨bp, 0, none⟩) M[p].length cp)
    by_cases e1 : i = p
    · subst e1
      have e2 : (Value.slice (some ⟨bi, 0, none⟩) M[i].length ci) = .slice (some ⟨bp, 0, none⟩) M[i].length cp := Option.some.inj (hri.head.symm.trans hrp.head)
      rw [e2] at this ⊢
      exact this
    · rw [List.set_comm _ _ e1]
      exact this
  have far : ∀ (u v : Value) (x y : Nat) (k : Nat), k ≠ g → ((w.setCell ⟨g, x, none⟩ u).setCell ⟨g, y, none⟩ v).heap[k]? = w.heap[k]? := fun u v x y k hk => (Below.heap_setCell _ _ _ _ hk).trans (Below.heap_setCell _ _ _ _ hk)
  exact ⟨_, _, hri.head, hrp.head, hc.frozen i, hc.frozen p, hb', b g rfl, ⟨bi, ci, by rw [gi]⟩, ⟨bp, cp, by rw [gp]⟩, key _ (far _ _ _ _) o1, key _ (far _ _ _ _) o2⟩
end Go.Proofs.YtlficcdbnmheeaaDoor

/-
  The program's pivot, swap, scale, add.
-/
namespace Go.Proofs.YtlficcdbnmheeaaDoor
open Go.RowKit

set_option maxRecDepth 20000
def OpPost (w : World) (lo hi : Nat) (v : Value) (M : Mtx) (e : Ending) (w' : World) : Prop := e = .returned (.tuple #[]) ∧ MatO w' lo hi v M ∧ Out lo hi w w'
set_option maxHeartbeats 800000 in
theorem swap_any (g n c i p : Nat) (u : Value) (M : Mtx) (lo hi : Nat) (w : World) (h : MatO w lo hi (.slice (some ⟨g, 0, none⟩) n c) M) (hn : n = M.length) (hi' : i < n) (hp : p < n) (hn2 : n ≤ 255) :
    Calls Tryd.prog 127 #[.slice (some ⟨g, 0, none⟩) n c, .int .i64 (i : Int), .int .i64 (p : Int), u] w (OpPost w lo hi (.slice (some ⟨g, 0, none⟩) n c) (swapM M i p)) := by
  obtain ⟨ri, rp, q1, q2, q3, q4, q5, q6, ⟨bi, ci, rfl⟩, ⟨bp, cp, rfl⟩, q7, q8⟩ := h.swap (i := i) (p := p) (by omega) (by omega)
  have Hq : Hid (lo ≤ g ∧ g < hi) := ⟨q5, q6⟩
  have H7 := Lib.hid q7
  have H8 := Lib.hid q8
  generalize (M.getD i []).length = l1 at *
  generalize (M.getD p []).length = l2 at *
  have hi1 : (i : Int) < (n : Int) := by omega
  have hp1 : (p : Int) < (n : Int) := by omega
  by_cases hip : i = p
  · subst hip
    rw [q1] at q2
    have e1 := Option.some.inj q2
    rw [← e1] at H7
    clear h hn hi' hp hn2 q5 q6 q7 q8 H8 q2 e1 q4
    go_enter Tryd.func127, Tryd.ntmps127
    go_wp2_with fail
    go_region
    all_goals
      go_wp2_with fail
      go_end0
      refine ⟨rfl, ?_, ?_⟩
      · first | exact MatO.drewN H7.out 1 | simpa using MatO.drewN H7.out 1
      · exact (((Out.refl lo hi w).set Hq.out.1 Hq.out.2 _).set Hq.out.1 Hq.out.2 _).drewN 1
  · have hpi : ¬ p = i := fun e => hip e.symm
    clear h hn hi' hp hn2 q5 q6 q7 q8
    go_enter Tryd.func127, Tryd.ntmps127
    go_wp2_with fail
    go_region
    all_goals
      go_wp2_with fail
      go_end0
      refine ⟨rfl, ?_, ?_⟩
      · first | exact MatO.drewN H7.out 1 | exact MatO.drewN H8.out 1
      · exact (((Out.refl lo hi w).set Hq.out.1 Hq.out.2 _).set Hq.out.1 Hq.out.2 _).drewN 1
set_option maxHeartbeats 800000 in
theorem pivot_any (A : Option Addr) (c i : Nat) (M : Mtx) (w : World) (B : Nat) (h : RM w B A M) (hl : M.length ≤ 255) (hi : i < M.length) (hn : ∀ (k : Nat) (l : List UInt8), M[k]? = some l → i < l.length) :
    Calls Tryd.prog 126 #[.slice A M.length c, .int .i64 (i : Int)] w fun e w' => e = .returned (.int .i64 (pivI (pivot M i))) ∧ w = w' := by
  obtain ⟨b, o, rfl, hb⟩ := h.at_ (by omega)
  obtain ⟨N, hN⟩ : ∃ N, N = M.length := ⟨_, rfl⟩
  have HN := Lib.hid hN
  have Hh := Lib.hid h
  have Hn := Lib.hid hn
  have hN1 : (N : Int) ≤ 255 := by omega
  have Hst : Hid (pivFrom M i (N - i) i = pivot M i ∧ i ≤ N) := ⟨by rw [hN]; rfl, by omega⟩
  rw [← hN]
  generalize pivot M i = res at *
  clear h hl hi hn hN
  go_enter Tryd.func126, Tryd.ntmps126
  go_wp2_with fail
  go_loop [5] (fun kv => ∃ k : Nat, kv = .int .i64 (k : Int) ∧ k ≤ N ∧ Hid (pivFrom M i (N - k) k = res)) (fun kv => N - (intOf kv).toNat)
  case atStart => exact ⟨i, rfl, Hst.out.2, Hst.out.1⟩
  case round =>
    obtain ⟨k, rfl, hk, hrel⟩ := hrel
    by_cases hlt : k < N
    · obtain ⟨l, hx⟩ : ∃ l, M[k]? = some l := ⟨_, List.getElem?_eq_getElem (by rw [← HN.out]; exact hlt)⟩
      obtain ⟨A', c', hc, hr, _⟩ := Hh.out.row hx
      have hil := Hn.out k l hx
      obtain ⟨b', o', rfl, _⟩ := hr.flat (by omega)
      obtain ⟨x, hxx⟩ : ∃ x, l[i]? = some x := ⟨_, List.getElem?_eq_getElem hil⟩
      have k1 : w.cell? ⟨b', o' + i, none⟩ = some (.int .u8 (x.toNat : Int)) := by
        obtain ⟨ad, e, _, hc⟩ := hr i x hxx
        cases e
        rw [add_flat] at hc
        exact hc
      have hlt' : (k : Int) < (N : Int) := by omega
      have hil' : (i : Int) < (l.length : Int) := by omega
      have hs : pivFrom M i (N - k) k = if x ≠ 0 then some k else pivFrom M i (N - (k + 1)) (k + 1) := by
        obtain ⟨m, hm⟩ : ∃ m, N - k = m + 1 := ⟨N - k - 1, by omega⟩
        rw [hm, show N - (k + 1) = m by omega]
        show (if at2 M k i ≠ 0 then some k else pivFrom M i m (k + 1)) = _
        unfold at2
        rw [getD_of hx, getD8 hxx]
      rw [hrel.out] at hs
      by_cases hx0 : x = 0
      · have hbb : ((x.toNat : Int) != 0) = false := by rw [hx0]; rfl
        rw [if_neg (by simpa using hx0)] at hs
        have Hs := Lib.hid hs.symm
        generalize x.toNat = xn at *
        generalize l.length = m at *
        clear hx hxx hx0 hs hr hrel hlt
        go_wp2_with fail
        go_round
        case rel => exact ⟨k + 1, by go_num, by omega, Hs.out⟩
        case measure => simp [intOf]; omega
      · have hbb : ((x.toNat : Int) != 0) = true := by
          have : x.toNat ≠ 0 := fun e => hx0 (UInt8.toNat_inj.1 e)
          simp; omega
        rw [if_pos hx0] at hs
        have Hs := Lib.hid hs
        generalize x.toNat = xn at *
        generalize l.length = m at *
        clear hx hxx hx0 hs hr hrel hlt
        go_wp2_with fail
        go_ret
        exact ⟨by rw [Hs.out]; rfl, rfl⟩
    · obtain rfl : k = N := by omega
      have Hs : Hid (res = none) := by
        show _ = _
        rw [← hrel.out, Nat.sub_self]; rfl
      clear hlt hrel
      go_wp2_with fail
      go_ret
      exact ⟨by rw [Hs.out]; rfl, rfl⟩

/-- the first j elements scaled -/
def scaleP (r : List UInt8) (x : UInt8) (j : Nat) : List UInt8 := (r.take j).map (fun y => bm y x) ++ r.drop j
theorem scaleP_length (r : List UInt8) (x : UInt8) (j : Nat) : (scaleP r x j).length = r.length := by
  simp [scaleP]; omega
theorem scaleP_get (r : List UInt8) (x y : UInt8) (j : Nat) (h : r[j]? = some y) : (scaleP r x j)[j]? = some y := by
  have hj := (List.getElem?_eq_some_iff.1 h).1
  unfold scaleP
  rw [List.getElem?_append_right (by simp; omega), List.getElem?_drop, List.length_map, List.length_take, show j + (j - min j r.length) = j by omega]
  exact h
theorem scaleP_step (r : List UInt8) (x y : UInt8) (j : Nat) (h : r[j]? = some y) : (scaleP r x j).set j (bm y x) = scaleP r x (j + 1) := by
  have hj := (List.getElem?_eq_some_iff.1 h).1
  have hy := (List.getElem?_eq_some_iff.1 h).2
  unfold scaleP
  rw [List.set_append_right _ _ (by simp; omega), List.length_map, List.length_take, show j - min j r.length = 0 by omega, List.drop_eq_getElem_cons hj, List.set_cons_zero, List.take_succ_eq_append_getElem hj, hy]
  simp
theorem scaleP_done (r : List UInt8) (x : UInt8) : scaleP r x r.length = scaleR r x := by simp [scaleP, scaleR]
def ScRel (w : World) (lo hi g n c i b c0 m : Nat) (M : Mtx) (r : List UInt8) (x : UInt8) (j : Nat) (wr : World) : Prop :=
  MatO wr lo hi (.slice (some ⟨g, 0, none⟩) n c) (M.set i (scaleP r x j)) ∧ Out lo hi w wr ∧ wr.cell? ⟨g, i, none⟩ = some (.slice (some ⟨b, 0, none⟩) m c0)
theorem ScRel.drewN {w wr : World} {lo hi g n c i b c0 m j : Nat} {M : Mtx} {r : List UInt8} {x : UInt8} (h : ScRel w lo hi g n c i b c0 m M r x j wr) (q : Nat) : ScRel w lo hi g n c i b c0 m M r x j (wr.drewN q) := ⟨h.1.drewN q, h.2.1.drewN q, h.2.2⟩
theorem sc_facts {w wr : World} {lo hi g n c i b c0 m j : Nat} {M : Mtx} {r : List UInt8} {x y : UInt8} (h : ScRel w lo hi g n c i b c0 m M r x j wr) (hi' : i < M.length) (hy : r[j]? = some y) :
    wr.cell? ⟨b, j, none⟩ = some (.int .u8 (y.toNat : Int)) ∧ wr.frozen? ⟨b, j, none⟩ = false ∧ b ≠ g ∧ ScRel w lo hi g n c i b c0 m M r x (j + 1) (wr.setCell ⟨b, j, none⟩ (.int .u8 ((bm y x).toNat : Int))) := by
  obtain ⟨h1, h2, h3⟩ := h
  obtain ⟨b', c', hr, hset⟩ := h1.row (i := i) (l := scaleP r x j) (List.getElem?_set_self hi')
  have e := hr.head
  rw [h3] at e
  have hb : b' = b := by
    have := (Value.slice.inj (Option.some.inj e)).1
    simpa using this.symm
  subst hb
  refine ⟨hr.cells j y (scaleP_get r x y j hy), hr.free j, hr.ne, ?_, h2.set hr.low hr.high _, ?_⟩
  · have := hset j (bm y x)
    rw [List.set_set, scaleP_step r x y j hy] at this
    exact this
  · exact (World.cell?_of_block (w := wr) (Below.heap_setCell _ _ _ _ fun e => hr.ne e.symm)).trans h3
set_option maxHeartbeats 1600000 in
theorem scale_any (g n c i : Nat) (u : Value) (x : UInt8) (M : Mtx) (lo hi : Nat) (w : World) (h : MatO w lo hi (.slice (some ⟨g, 0, none⟩) n c) M) (hn : n = M.length) (hi' : i < n) (hn2 : n ≤ 255) (hr2 : (M.getD i []).length ≤ 255) :
    Calls Tryd.prog 129 #[.slice (some ⟨g, 0, none⟩) n c, .int .i64 (i : Int), u, .int .u8 (x.toNat : Int)] w (OpPost w lo hi (.slice (some ⟨g, 0, none⟩) n c) (scaleM M i x)) := by
  obtain ⟨r, hr⟩ : ∃ r, M[i]? = some r := ⟨_, List.getElem?_eq_getElem (by omega)⟩
  have hg := getD_of hr
  obtain ⟨b, c0, hrow, _⟩ := h.row hr
  have q0 := hrow.head
  have q1 := hrow.cap
  obtain ⟨m, hm⟩ : ∃ m, m = r.length := ⟨_, rfl⟩
  have Hst : Hid (ScRel w lo hi g n c i b c0 m M r x 0 w) := by
    refine ⟨?_, Out.refl _ _ _, by rw [hm]; exact q0⟩
    have e1 : M.set i (scaleP r x 0) = M := by
      have : scaleP r x 0 = r := by simp [scaleP]
      rw [this]
      apply List.ext_getElem?
      intro k
      rw [List.getElem?_set]
      by_cases e : i = k
      · subst e; rw [if_pos rfl, if_pos (by omega), hr]
      · rw [if_neg e]
    rw [e1]
    exact h
  have Hm : Hid (m = r.length ∧ i < M.length ∧ M.set i (scaleP r x m) = scaleM M i x) := ⟨hm, by omega, by unfold scaleM; rw [hg, hm, scaleP_done]⟩
  have hml : (m : Int) ≤ 255 := by rw [hm, ← hg]; omega
  have hi1 : (i : Int) < (n : Int) := by omega
  rw [← hm] at q0 q1
  have q1' : (m : Int) ≤ (c0 : Int) := by omega
  clear h hn hi' hn2 hr2 hr hg hrow hm
  go_enter Tryd.func129, Tryd.ntmps129
  go_wp2_with fail
  go_loopw [8, 9, 15] (fun _ _ jv wr => ∃ j : Nat, jv = .int .i64 (j : Int) ∧ j ≤ m ∧ Hid (ScRel w lo hi g n c i b c0 m M r x j wr)) (fun _ _ jv _ => m - (intOf jv).toNat)
  case atStart => exact ⟨0, rfl, Nat.zero_le _, Hst.out⟩
  case round =>
    obtain ⟨j, rfl, hj, hrel⟩ := hrel
    by_cases hlt : j < m
    · obtain ⟨y, hy⟩ : ∃ y, r[j]? = some y := ⟨_, List.getElem?_eq_getElem (by rw [← Hm.out.1]; exact hlt)⟩
      obtain ⟨k1, k2, k3, k4⟩ := sc_facts hrel.out Hm.out.2.1 hy
      have k5 := hrel.out.2.2
      have Hn := Lib.hid k4
      have HM : Hid (∀ W, Calls Tryd.prog 114 #[.int .u8 (y.toNat : Int), .int .u8 (x.toNat : Int)] W fun e w' => e = .returned (.int .u8 ((bm y x).toNat : Int)) ∧ w' = W) := fun W => by
        have := mul_any y.toNat x.toNat W (u8_lt y) (u8_lt x)
        rw [← bm_nat] at this
        exact this.mono fun _ _ ⟨a, b⟩ => ⟨a, b.symm⟩
      have hlt' : (j : Int) < (m : Int) := by omega
      generalize (bm y x).toNat = z at *
      generalize y.toNat = yn at *
      generalize x.toNat = xn at *
      clear hy k4 hrel hlt
      go_wp2_with fail
      refine wp_region_still_tail 9 (by kernel_rfl) (by kernel_rfl) ?_
      simp only [List.take_succ_cons, List.take_zero, List.drop_succ_cons, List.drop_zero]
      repeat (first | still_step | still_call (HM.out _))
      try refine wpStill_nil ?_
      change wpList _ _ _ _ _ wr.drew
      go_wp2_with fail
      go_roundw
      case rel => exact ⟨j + 1, by go_num, by omega, Hn.out.drewN 1⟩
      case measure => simp [intOf]; omega
    · obtain rfl : j = m := by omega
      have Hd : Hid (MatO wr lo hi (.slice (some ⟨g, 0, none⟩) n c) (scaleM M i x) ∧ Out lo hi w wr) := by
        obtain ⟨h1, h2, _⟩ := hrel.out
        rw [Hm.out.2.2] at h1
        exact ⟨h1, h2⟩
      clear hlt hrel
      go_wp2_with fail
      go_end0
      exact ⟨rfl, Hd.out.1, Hd.out.2⟩

/-- the first j elements added to -/
def addP (r o : List UInt8) (x : UInt8) (j : Nat) : List UInt8 := List.zipWith (fun a b => a ^^^ bm b x) (r.take j) (o.take j) ++ r.drop j
theorem addP_length (r o : List UInt8) (x : UInt8) (j : Nat) (h : r.length = o.length) : (addP r o x j).length = r.length := by
  simp [addP, h]; omega
theorem addP_get (r o : List UInt8) (x y : UInt8) (j : Nat) (h : r.length = o.length) (hy : r[j]? = some y) : (addP r o x j)[j]? = some y := by
  have hj := (List.getElem?_eq_some_iff.1 hy).1
  unfold addP
  have hl : (List.zipWith (fun a b => a ^^^ bm b x) (r.take j) (o.take j)).length = j := by simp; omega
  rw [List.getElem?_append_right (by omega), hl, Nat.sub_self, List.getElem?_drop, Nat.add_zero]
  exact hy
theorem addP_step (r o : List UInt8) (x y z : UInt8) (j : Nat) (h : r.length = o.length) (hy : r[j]? = some y) (hz : o[j]? = some z) : (addP r o x j).set j (y ^^^ bm z x) = addP r o x (j + 1) := by
  have hj := (List.getElem?_eq_some_iff.1 hy).1
  have hj2 := (List.getElem?_eq_some_iff.1 hz).1
  have ey := (List.getElem?_eq_some_iff.1 hy).2
  have ez := (List.getElem?_eq_some_iff.1 hz).2
  unfold addP
  have hl : (List.zipWith (fun a b => a ^^^ bm b x) (r.take j) (o.take j)).length = j := by simp; omega
  rw [List.set_append_right _ _ (by omega), hl, Nat.sub_self, List.drop_eq_getElem_cons hj, List.set_cons_zero, List.take_succ_eq_append_getElem hj, List.take_succ_eq_append_getElem hj2, ey, ez,
    List.zipWith_append (by simp; omega)]
  simp
theorem addP_done (r o : List UInt8) (x : UInt8) (h : r.length = o.length) : addP r o x r.length = addR r o x := by
  unfold addP addR
  rw [List.take_length, h, List.take_length, List.drop_eq_nil_of_le (by omega), List.append_nil]
def AdRel (w : World) (lo hi g n c p i b c0 b1 c1 m : Nat) (M : Mtx) (r o : List UInt8) (x : UInt8) (j : Nat) (wr : World) : Prop :=
  MatO wr lo hi (.slice (some ⟨g, 0, none⟩) n c) (M.set p (addP r o x j)) ∧ Out lo hi w wr ∧ wr.cell? ⟨g, p, none⟩ = some (.slice (some ⟨b, 0, none⟩) m c0) ∧ wr.cell? ⟨g, i, none⟩ = some (.slice (some ⟨b1, 0, none⟩) m c1)
theorem AdRel.drewN {w wr : World} {lo hi g n c p i b c0 b1 c1 m j : Nat} {M : Mtx} {r o : List UInt8} {x : UInt8} (h : AdRel w lo hi g n c p i b c0 b1 c1 m M r o x j wr) (q : Nat) : AdRel w lo hi g n c p i b c0 b1 c1 m M r o x j (wr.drewN q) := ⟨h.1.drewN q, h.2.1.drewN q, h.2.2⟩
theorem ad_facts {w wr : World} {lo hi g n c p i b c0 b1 c1 m j : Nat} {M : Mtx} {r o : List UInt8} {x y z : UInt8} (h : AdRel w lo hi g n c p i b c0 b1 c1 m M r o x j wr) (hp : p < M.length) (hip : p ≠ i) (ho : M[i]? = some o) (hl : r.length = o.length) (hy : r[j]? = some y) (hz : o[j]? = some z) :
    wr.cell? ⟨b, j, none⟩ = some (.int .u8 (y.toNat : Int)) ∧ wr.cell? ⟨b1, j, none⟩ = some (.int .u8 (z.toNat : Int)) ∧ wr.frozen? ⟨b, j, none⟩ = false ∧ b ≠ g ∧ AdRel w lo hi g n c p i b c0 b1 c1 m M r o x (j + 1) (wr.setCell ⟨b, j, none⟩ (.int .u8 ((y ^^^ bm z x).toNat : Int))) := by
  obtain ⟨h1, h2, h3, h4⟩ := h
  obtain ⟨b', c', hr, hset⟩ := h1.row (i := p) (l := addP r o x j) (List.getElem?_set_self hp)
  obtain ⟨b1', c1', hr1, _⟩ := h1.row (i := i) (l := o) (by rw [List.getElem?_set_ne hip]; exact ho)
  have e := hr.head
  rw [h3] at e
  have hb : b' = b := by
    have := (Value.slice.inj (Option.some.inj e)).1
    simpa using this.symm
  have e1 := hr1.head
  rw [h4] at e1
  have hb1 : b1' = b1 := by
    have := (Value.slice.inj (Option.some.inj e1)).1
    simpa using this.symm
  subst hb
  subst hb1
  refine ⟨hr.cells j y (addP_get r o x y j hl hy), hr1.cells j z hz, hr.free j, hr.ne, ?_, h2.set hr.low hr.high _, ?_, ?_⟩
  · have := hset j (y ^^^ bm z x)
    rw [List.set_set, addP_step r o x y z j hl hy hz] at this
    exact this
  · exact (World.cell?_of_block (w := wr) (Below.heap_setCell _ _ _ _ fun e => hr.ne e.symm)).trans h3
  · exact (World.cell?_of_block (w := wr) (Below.heap_setCell _ _ _ _ fun e => hr.ne e.symm)).trans h4
set_option maxHeartbeats 1600000 in
theorem addrow_any (g n c p i : Nat) (x : UInt8) (M : Mtx) (lo hi : Nat) (w : World) (h : MatO w lo hi (.slice (some ⟨g, 0, none⟩) n c) M) (hn : n = M.length) (hp : p < n) (hi' : i < n) (hip : p ≠ i) (hn2 : n ≤ 255) (hr2 : (M.getD i []).length ≤ 255) (hrr : (M.getD p []).length = (M.getD i []).length) :
    Calls Tryd.prog 130 #[.slice (some ⟨g, 0, none⟩) n c, .int .i64 (p : Int), .int .i64 (i : Int), .int .u8 (x.toNat : Int)] w (OpPost w lo hi (.slice (some ⟨g, 0, none⟩) n c) (addM M p i x)) := by
  obtain ⟨r, hr⟩ : ∃ r, M[p]? = some r := ⟨_, List.getElem?_eq_getElem (by omega)⟩
  obtain ⟨o, ho⟩ : ∃ o, M[i]? = some o := ⟨_, List.getElem?_eq_getElem (by omega)⟩
  have hg := getD_of hr
  have hgo := getD_of ho
  obtain ⟨b, c0, hrow, _⟩ := h.row hr
  obtain ⟨b1, c1, hrow1, _⟩ := h.row ho
  have q0 := hrow.head
  have q1 := hrow.cap
  have q2 := hrow1.head
  have q3 := hrow1.cap
  rw [hg, hgo] at hrr
  obtain ⟨m, hm⟩ : ∃ m, m = r.length := ⟨_, rfl⟩
  rw [← hrr, ← hm] at q2 q3
  rw [← hm] at q0 q1
  have Hst : Hid (AdRel w lo hi g n c p i b c0 b1 c1 m M r o x 0 w) := by
    refine ⟨?_, Out.refl _ _ _, q0, q2⟩
    have e1 : M.set p (addP r o x 0) = M := by
      have : addP r o x 0 = r := by simp [addP]
      rw [this]
      apply List.ext_getElem?
      intro k
      rw [List.getElem?_set]
      by_cases e : p = k
      · subst e; rw [if_pos rfl, if_pos (by omega), hr]
      · rw [if_neg e]
    rw [e1]
    exact h
  have Hm : Hid (m = r.length ∧ p < M.length ∧ p ≠ i ∧ M[i]? = some o ∧ r.length = o.length ∧ M.set p (addP r o x m) = addM M p i x) := ⟨hm, by omega, hip, ho, hrr, by unfold addM; rw [hg, hgo, hm, addP_done r o x hrr]⟩
  have hml : (m : Int) ≤ 255 := by rw [hm, hrr, ← hgo]; omega
  have hi1 : (i : Int) < (n : Int) := by omega
  have hp1 : (p : Int) < (n : Int) := by omega
  have q1' : (m : Int) ≤ (c0 : Int) := by omega
  have q3' : (m : Int) ≤ (c1 : Int) := by omega
  clear h hn hi' hp hip hn2 hr2 hr ho hg hgo hrow hrow1 hrr hm q0
  go_enter Tryd.func130, Tryd.ntmps130
  go_wp2_with fail
  clear q2
  go_loopw [8, 9, 15] (fun _ _ jv wr => ∃ j : Nat, jv = .int .i64 (j : Int) ∧ j ≤ m ∧ Hid (AdRel w lo hi g n c p i b c0 b1 c1 m M r o x j wr)) (fun _ _ jv _ => m - (intOf jv).toNat)
  case atStart => exact ⟨0, rfl, Nat.zero_le _, Hst.out⟩
  case round =>
    obtain ⟨j, rfl, hj, hrel⟩ := hrel
    by_cases hlt : j < m
    · obtain ⟨y, hy⟩ : ∃ y, r[j]? = some y := ⟨_, List.getElem?_eq_getElem (by rw [← Hm.out.1]; exact hlt)⟩
      obtain ⟨z, hz⟩ : ∃ z, o[j]? = some z := ⟨_, List.getElem?_eq_getElem (by rw [← Hm.out.2.2.2.2.1, ← Hm.out.1]; exact hlt)⟩
      obtain ⟨k1, k2, k3, k4, k5⟩ := ad_facts hrel.out Hm.out.2.1 Hm.out.2.2.1 Hm.out.2.2.2.1 Hm.out.2.2.2.2.1 hy hz
      have k6 := hrel.out.2.2.1
      have Hn := Lib.hid k5
      have HM : Hid (∀ W, Calls Tryd.prog 114 #[.int .u8 (z.toNat : Int), .int .u8 (x.toNat : Int)] W fun e w' => e = .returned (.int .u8 ((bm z x).toNat : Int)) ∧ w' = W) := fun W => by
        have := mul_any z.toNat x.toNat W (u8_lt z) (u8_lt x)
        rw [← bm_nat] at this
        exact this.mono fun _ _ ⟨a, b⟩ => ⟨a, b.symm⟩
      have HA : Hid (∀ W, Calls Tryd.prog 107 #[.int .u8 (y.toNat : Int), .int .u8 ((bm z x).toNat : Int)] W fun e w' => e = .returned (.int .u8 ((y ^^^ bm z x).toNat : Int)) ∧ w' = W) := fun W => by
        have := add_any y.toNat (bm z x).toNat W (u8_lt y) (u8_lt _)
        rw [← bx_nat] at this
        exact this.mono fun _ _ ⟨a, b⟩ => ⟨a, b.symm⟩
      have hlt' : (j : Int) < (m : Int) := by omega
      generalize (y ^^^ bm z x).toNat = s2 at *
      generalize (bm z x).toNat = zx at *
      generalize y.toNat = yn at *
      generalize z.toNat = zn at *
      generalize x.toNat = xn at *
      clear hy hz k5 hrel hlt
      go_wp2_with fail
      refine wp_region_still_tail 17 (by kernel_rfl) (by kernel_rfl) ?_
      simp only [List.take_succ_cons, List.take_zero, List.drop_succ_cons, List.drop_zero]
      repeat (first | still_step | still_call (HM.out _) | still_call (HA.out _))
      try refine wpStill_nil ?_
      change wpList _ _ _ _ _ wr.drew
      go_wp2_with fail
      go_roundw
      case rel => exact ⟨j + 1, by go_num, by omega, Hn.out.drewN 1⟩
      case measure => simp [intOf]; omega
    · obtain rfl : j = m := by omega
      have Hd : Hid (MatO wr lo hi (.slice (some ⟨g, 0, none⟩) n c) (addM M p i x) ∧ Out lo hi w wr) := by
        obtain ⟨h1, h2, _⟩ := hrel.out
        rw [Hm.out.2.2.2.2.2] at h1
        exact ⟨h1, h2⟩
      clear hlt hrel
      go_wp2_with fail
      go_end0
      exact ⟨rfl, Hd.out.1, Hd.out.2⟩
end Go.Proofs.YtlficcdbnmheeaaDoor

/-
  The program's each, with bytes.Clone handed in.
-/
namespace Go.Proofs.YtlficcdbnmheeaaDoor
open Go.RowKit

set_option maxRecDepth 20000
/-- rows that were made so far, in a header that has room for all -/
structure EachAt (w : World) (N : Nat) (M : Mtx) (k : Nat) (wr : World) : Prop where
  st : ∃ rows : List Value, rows.length = k ∧ OwnV wr w.heap.size 25 (.slice (some ⟨w.heap.size, 0, none⟩) N N) (rows ++ List.replicate (N - k) (.slice none 0 0)) ∧
    (∀ (i : Nat) (r : Value) (l : List UInt8), rows[i]? = some r → M[i]? = some l → 0 < l.length ∧ Own wr w.heap.size r l) ∧
    ∀ (i j : Nat) (ri rj : Value) (g : Nat), i ≠ j → rows[i]? = some ri → rows[j]? = some rj → ri.ownBlock = some g → rj.ownBlock ≠ some g
  bel : Below w.heap.size w wr
  size : w.heap.size < wr.heap.size
theorem EachAt.start (w : World) (N : Nat) (M : Mtx) (hN : N ≤ 255) {cs : Array Value} (h : cs = (List.replicate N (.slice none 0 0)).toArray) : EachAt w N M 0 (w.alloc (.cells cs 25)) := by
  refine ⟨⟨[], rfl, ?_, fun i r l hr => by simp at hr, fun i j ri rj g _ hri => by simp at hri⟩, (Below.refl _ _).alloc (Nat.le_refl _) _, by simp⟩
  have hc := Cells.new w cs 25
  rw [h] at hc ⊢
  have := OwnV.mk (base := w.heap.size) (xs := List.replicate N (.slice none 0 0)) (cap := N) (Nat.le_refl _) hc (by simp) (by simp only [maxLen]; omega) (by simp) (by simp)
  simpa using this
theorem EachAt.step {w wr w1 : World} {N k : Nat} {M : Mtx} {v : Value} {l : List UInt8} (h : EachAt w N M k wr) (hk : k < N) (hl : M[k]? = some l) (h0 : 0 < l.length) (ho : Own w1 wr.heap.size v l) (hb : Below wr.heap.size wr w1) :
    (∃ u, w1.cell? ⟨w.heap.size, k, none⟩ = some u) ∧ w1.frozen? ⟨w.heap.size, k, none⟩ = false ∧ EachAt w N M (k + 1) (w1.setCell ⟨w.heap.size, k, none⟩ v) := by
  obtain ⟨rows, r1, r2, r3, r4⟩ := h.st
  have hs := h.size
  have hN : rows ++ List.replicate (N - k) (Value.slice none 0 0) ≠ [] := by
    obtain ⟨m, hm⟩ : ∃ m, N - k = m + 1 := ⟨N - k - 1, by omega⟩
    rw [hm]
    simp [List.replicate_succ]
  have r2' : OwnV w1 w.heap.size 25 (.slice (some ⟨w.heap.size, 0, none⟩) N N) (rows ++ List.replicate (N - k) (.slice none 0 0)) := r2.move fun g hg => hb.block g (r2.ge g hg).2
  rcases r2'.form with ⟨hv, _⟩ | ⟨g', cap', cur, hv, hb', hc, hn, hm, hlc, ht⟩
  · cases hv
  have e0 : w.heap.size = g' := by
    have := (Value.slice.inj hv).1
    simpa using this
  subst e0
  have hkl : k < cur.length := by
    have : (rows ++ List.replicate (N - k) (Value.slice none 0 0)).length = N := by simp [r1]; omega
    omega
  have hset := r2'.set k v
  have e1 : (rows ++ List.replicate (N - k) (Value.slice none 0 0)).set k v = (rows ++ [v]) ++ List.replicate (N - (k + 1)) (.slice none 0 0) := by
    obtain ⟨m, hm⟩ : ∃ m, N - k = m + 1 := ⟨N - k - 1, by omega⟩
    rw [List.set_append_right _ _ (by omega), r1, Nat.sub_self, hm, show N - (k + 1) = m by omega, List.replicate_succ, List.set_cons_zero]
    simp
  rw [e1] at hset
  have far : ∀ b, b ≠ w.heap.size → (w1.setCell ⟨w.heap.size, k, none⟩ v).heap[b]? = w1.heap[b]? := fun b hb => Below.heap_setCell _ _ _ _ hb
  have hty : ∀ (W : World) (r : Value) (x : List UInt8) (lo : Nat), Own W lo r x → 0 < x.length → Cells W w.heap.size 25 cur → r.ownBlock ≠ some w.heap.size := by
    intro W r x lo hx hx0 hcc hgr
    obtain ⟨bb, cap, rfl, _⟩ := hx.form hx0
    cases hgr
    rcases hx.toV.form with ⟨hv2, _⟩ | ⟨g2, cap2, cur2, hv2, _, hc2, _⟩
    · cases hv2
    · have e3 := (Value.slice.inj hv2).1
      simp at e3
      rw [← e3] at hc2
      exact absurd (hcc.type hc2).1 (by decide)
  refine ⟨⟨_, hc.cell (List.getElem?_eq_getElem hkl)⟩, hc.frozen k, ⟨rows ++ [v], by simp [r1], hset, fun i r l' hr hl' => ?_, fun i j ri rj g hij hri hrj hgi hgj => ?_⟩, ?_, ?_⟩
  · by_cases hi : i < rows.length
    · rw [List.getElem?_append_left hi] at hr
      obtain ⟨d1, d2⟩ := r3 i r l' hr hl'
      have d3 : Own w1 w.heap.size r l' := d2.move fun g hg => hb.block g (d2.lt g hg).2
      exact ⟨d1, d3.move fun g hg => far g fun e => hty w1 r l' _ d3 d1 hc (by rw [← e]; exact hg)⟩
    · rw [List.getElem?_append_right (by omega)] at hr
      have hi0 : i - rows.length = 0 := by
        have := (List.getElem?_eq_some_iff.1 hr).1
        simp at this
        omega
      rw [hi0] at hr
      cases hr
      obtain rfl : i = k := by omega
      rw [hl] at hl'
      cases hl'
      have d3 : Own w1 w.heap.size v l := ho.wide (by omega)
      exact ⟨h0, d3.move fun g hg => far g fun e => hty w1 v l _ d3 h0 hc (by rw [← e]; exact hg)⟩
  · have low : ∀ (x : Nat) (r : Value) (g : Nat), x < rows.length → rows[x]? = some r → r.ownBlock = some g → g < wr.heap.size := fun x r g hx hr' hgr => by
      obtain ⟨y, hy⟩ : ∃ y, M[x]? = some y := ⟨_, List.getElem?_eq_getElem (by have := (List.getElem?_eq_some_iff.1 hl).1; omega)⟩
      exact ((r3 x r y hr' hy).2.lt g hgr).2
    have high : ∀ g, v.ownBlock = some g → wr.heap.size ≤ g := fun g hg => (ho.lt g hg).1
    by_cases hi' : i < rows.length
    · rw [List.getElem?_append_left hi'] at hri
      by_cases hj' : j < rows.length
      · rw [List.getElem?_append_left hj'] at hrj
        exact r4 i j ri rj g hij hri hrj hgi hgj
      · rw [List.getElem?_append_right (by omega)] at hrj
        have hj0 : j - rows.length = 0 := by
          have := (List.getElem?_eq_some_iff.1 hrj).1
          simp at this
          omega
        rw [hj0] at hrj
        cases hrj
        have q1 := low i ri g hi' hri hgi
        have q2 := high g hgj
        omega
    · rw [List.getElem?_append_right (by omega)] at hri
      have hi0 : i - rows.length = 0 := by
        have := (List.getElem?_eq_some_iff.1 hri).1
        simp at this
        omega
      rw [hi0] at hri
      cases hri
      have hj' : j < rows.length := by
        rcases Nat.lt_or_ge j rows.length with q | q
        · exact q
        · rw [List.getElem?_append_right q] at hrj
          have := (List.getElem?_eq_some_iff.1 hrj).1
          simp at this
          omega
      rw [List.getElem?_append_left hj'] at hrj
      have q1 := low j rj g hj' hrj hgj
      have q2 := high g hgi
      omega
  · exact (h.bel.trans (hb.mono h.bel.size)).setCell (p := ⟨w.heap.size, k, none⟩) (Nat.le_refl _) _
  · have : wr.heap.size ≤ w1.heap.size := hb.size
    simp [World.setCell]
    omega
theorem EachAt.done {w wr : World} {N : Nat} {M : Mtx} (h : EachAt w N M N wr) (hM : N = M.length) : MatO wr w.heap.size wr.heap.size (.slice (some ⟨w.heap.size, 0, none⟩) N N) M := by
  obtain ⟨rows, r1, r2, r3, r4⟩ := h.st
  rw [Nat.sub_self, List.replicate_zero, List.append_nil] at r2
  have hs := h.size
  exact ⟨rows, r2, fun g hg => by cases hg; exact hs, by rw [r1, hM], fun i r l hr hl => ⟨(r3 i r l hr hl).1, (r3 i r l hr hl).2, fun g hg => ((r3 i r l hr hl).2.lt g hg).2⟩, r4⟩
set_option maxHeartbeats 1600000 in
theorem eachClone_any (A : Option Addr) (c N : Nat) (M : Mtx) (w : World) (h : RM w w.heap.size A M) (hN : N = M.length) (hN2 : N ≤ 255) (hr : ∀ (k : Nat) (l : List UInt8), M[k]? = some l → 0 < l.length ∧ l.length ≤ 255) :
    Calls Tryd.prog 124 #[.slice A N c, .func (.func 82) #[] #[]] w fun e w' => e = .returned (.slice (some ⟨w.heap.size, 0, none⟩) N N) ∧ MatO w' w.heap.size w'.heap.size (.slice (some ⟨w.heap.size, 0, none⟩) N N) M ∧ Below w.heap.size w w' := by
  obtain ⟨cs, Hcs, hmk⟩ := make_rows N (by omega)
  have Hst := Lib.hid (EachAt.start w N M hN2 Hcs.out)
  have Hh := Lib.hid h
  have Hr := Lib.hid hr
  have HN := Lib.hid hN
  have hN1 : (N : Int) ≤ 255 := by omega
  clear h hr hN
  go_enter Tryd.func124, Tryd.ntmps124
  go_wp2_with fail
  go_loopw [6, 7, 13] (fun _ _ iv wr => ∃ i : Nat, iv = .int .i64 (i : Int) ∧ i ≤ N ∧ Hid (EachAt w N M i wr)) (fun _ _ iv _ => N - (intOf iv).toNat)
  case atStart => exact ⟨0, rfl, Nat.zero_le _, Hst.out⟩
  case round =>
    obtain ⟨k, rfl, hk, hrel⟩ := hrel
    by_cases hlt : k < N
    · obtain ⟨l, hx⟩ : ∃ l, M[k]? = some l := ⟨_, List.getElem?_eq_getElem (by rw [← HN.out]; exact hlt)⟩
      obtain ⟨b, o, A', c', rfl, hb, hc, hrb, _⟩ := Hh.out k l hx
      obtain ⟨l1, l2⟩ := Hr.out k l hx
      have k1 : wr.cell? ⟨b, o + k, none⟩ = some (.slice A' l.length c') := (hrel.out.bel.cell (p := ⟨b, o + k, none⟩) hb).trans hc
      have hlt' : (k : Int) < (N : Int) := by omega
      have HC : Hid (Calls Tryd.prog 82 #[.slice A' l.length c'] wr fun e w1 => ∃ A9 c9, e = .returned (.slice A9 l.length c9) ∧ Own w1 wr.heap.size (.slice A9 l.length c9) l ∧ Below wr.heap.size wr w1) :=
        (clone_any A' c' l wr _ ((hrb.below hrel.out.bel).wide hrel.out.bel.size) (Nat.le_refl _) (by omega)).mono fun e w1 ⟨v, he, ho, hb⟩ => by
          obtain ⟨A9, c9, rfl, _⟩ := ho.rb
          exact ⟨A9, c9, he, ho, hb⟩
      have HS : Hid (∀ v w1, Own w1 wr.heap.size v l → Below wr.heap.size wr w1 → (∃ u, w1.cell? ⟨w.heap.size, k, none⟩ = some u) ∧ w1.frozen? ⟨w.heap.size, k, none⟩ = false ∧ EachAt w N M (k + 1) (w1.setCell ⟨w.heap.size, k, none⟩ v)) := fun v w1 ho hb => hrel.out.step hlt hx l1 ho hb
      generalize l.length = m at *
      clear hx hb hc hrb hrel hlt l1 l2
      obtain ⟨g, hg⟩ : ∃ g, g = w.heap.size := ⟨_, rfl⟩
      have HG := Lib.hid hg
      rw [← hg] at HS ⊢
      clear hg
      go_wp2_with fail
      refine HC.out.mono ?_
      rintro e w1 ⟨A9, c9, rfl, ho, hb1⟩
      obtain ⟨⟨u, k2⟩, k3, k4⟩ := HS.out _ w1 ho hb1
      have Hn := Lib.hid k4
      clear ho hb1 k4
      go_wp2_with fail
      go_roundw
      case rel => exact ⟨k + 1, by go_num, by omega, Hn.out⟩
      case measure => simp [intOf]; omega
    · obtain rfl : k = N := by omega
      have Hd : Hid (MatO wr w.heap.size wr.heap.size (.slice (some ⟨w.heap.size, 0, none⟩) k k) M ∧ Below w.heap.size w wr) := ⟨hrel.out.done HN.out, hrel.out.bel⟩
      clear hlt hrel
      go_wp2_with fail
      go_ret
      exact ⟨rfl, Hd.out.1, Hd.out.2⟩
end Go.Proofs.YtlficcdbnmheeaaDoor

/-
  Two matrices side by side, turned alike: what the program's inverse does to both.
-/
namespace Go.Proofs.YtlficcdbnmheeaaDoor
open Go.RowKit

set_option maxRecDepth 20000
def Dim (M : Mtx) (n : Nat) : Prop := M.length = n ∧ ∀ (k : Nat) (l : List UInt8), M[k]? = some l → l.length = n
theorem Dim.get {M : Mtx} {n i : Nat} (h : Dim M n) (hi : i < n) : M[i]? = some (M.getD i []) ∧ (M.getD i []).length = n := by
  have hlt : i < M.length := by rw [h.1]; exact hi
  have h1 : M[i]? = some M[i] := List.getElem?_eq_getElem hlt
  rw [getD_of h1]
  exact ⟨h1, h.2 i _ h1⟩
theorem Dim.set {M : Mtx} {n i : Nat} {l : List UInt8} (h : Dim M n) (hl : l.length = n) : Dim (M.set i l) n := by
  refine ⟨by rw [List.length_set]; exact h.1, fun k x hx => ?_⟩
  rw [List.getElem?_set] at hx
  split at hx
  · split at hx
    · cases hx; exact hl
    · cases hx
  · exact h.2 k x hx
theorem Dim.swap {M : Mtx} {n i p : Nat} (h : Dim M n) (hi : i < n) (hp : p < n) : Dim (swapM M i p) n := (h.set (h.get hp).2).set (h.get hi).2
theorem Dim.scale {M : Mtx} {n i : Nat} (h : Dim M n) (hi : i < n) (x : UInt8) : Dim (scaleM M i x) n := h.set (by unfold scaleR; rw [List.length_map]; exact (h.get hi).2)
theorem Dim.add {M : Mtx} {n p i : Nat} (h : Dim M n) (hp : p < n) (hi : i < n) (x : UInt8) : Dim (addM M p i x) n := h.set (by unfold addR; rw [List.length_zipWith, (h.get hp).2, (h.get hi).2, Nat.min_self])
theorem dim_unit (n : Nat) : Dim (unitM n) n := by
  refine ⟨unitM_length n, fun k l hl => ?_⟩
  have hk : k < n := by
    have := (List.getElem?_eq_some_iff.1 hl).1
    rwa [unitM_length] at this
  rw [← unitK_done, unitK_get n n k hk] at hl
  have := Option.some.inj hl
  rw [← this, if_pos hk]
  simp
structure Two (w0 : World) (a4 a5 g1 g2 n lo1 hi1 lo2 hi2 : Nat) (L R : Mtx) (w : World) : Prop where
  m1 : MatO w lo1 hi1 (.slice (some ⟨g1, 0, none⟩) n n) L
  m2 : MatO w lo2 hi2 (.slice (some ⟨g2, 0, none⟩) n n) R
  c4 : w.cell? ⟨a4, 0, none⟩ = some (.slice (some ⟨g1, 0, none⟩) n n)
  c5 : w.cell? ⟨a5, 0, none⟩ = some (.slice (some ⟨g2, 0, none⟩) n n)
  bel : Below w0.heap.size w0 w
  d1 : Dim L n
  d2 : Dim R n
  o0 : w0.heap.size ≤ lo1
  o1 : hi1 ≤ a4
  o2 : a4 < lo2
  o3 : hi2 ≤ a5
  o4 : a5 < w.heap.size
  o5 : a4 < a5
  o6 : w0.heap.size ≤ lo2
section
variable {w0 w w1 : World} {a4 a5 g1 g2 n lo1 hi1 lo2 hi2 : Nat} {L R L' R' : Mtx}
theorem Two.drewN (h : Two w0 a4 a5 g1 g2 n lo1 hi1 lo2 hi2 L R w) (q : Nat) : Two w0 a4 a5 g1 g2 n lo1 hi1 lo2 hi2 L R (w.drewN q) :=
  ⟨h.m1.drewN q, h.m2.drewN q, h.c4, h.c5, drewN_below h.bel q, h.d1, h.d2, h.o0, h.o1, h.o2, h.o3, h.o4, h.o5, h.o6⟩
theorem Two.left (h : Two w0 a4 a5 g1 g2 n lo1 hi1 lo2 hi2 L R w) (hm : MatO w1 lo1 hi1 (.slice (some ⟨g1, 0, none⟩) n n) L') (ho : Out lo1 hi1 w w1) (hd : Dim L' n) : Two w0 a4 a5 g1 g2 n lo1 hi1 lo2 hi2 L' R w1 := by
  obtain ⟨m1, m2, c4, c5, bel, d1, d2, o0, o1, o2, o3, o4, o5, o6⟩ := h
  exact ⟨hm, m2.move fun b h1 h2 h3 => ho.block b h3 (.inr (by omega)), (World.cell?_of_block (w := w) (a := ⟨a4, 0, none⟩) (ho.block a4 (by omega) (.inr o1))).trans c4,
    (World.cell?_of_block (w := w) (a := ⟨a5, 0, none⟩) (ho.block a5 o4 (.inr (by omega)))).trans c5, bel.trans (ho.below o0 bel.size), hd, d2, o0, o1, o2, o3, Nat.lt_of_lt_of_le o4 ho.size, o5, o6⟩
theorem Two.right (h : Two w0 a4 a5 g1 g2 n lo1 hi1 lo2 hi2 L R w) (hm : MatO w1 lo2 hi2 (.slice (some ⟨g2, 0, none⟩) n n) R') (ho : Out lo2 hi2 w w1) (hd : Dim R' n) : Two w0 a4 a5 g1 g2 n lo1 hi1 lo2 hi2 L R' w1 := by
  obtain ⟨m1, m2, c4, c5, bel, d1, d2, o0, o1, o2, o3, o4, o5, o6⟩ := h
  exact ⟨m1.move fun b h1 h2 h3 => ho.block b h3 (.inl (by omega)), hm, (World.cell?_of_block (w := w) (a := ⟨a4, 0, none⟩) (ho.block a4 (by omega) (.inl o2))).trans c4,
    (World.cell?_of_block (w := w) (a := ⟨a5, 0, none⟩) (ho.block a5 o4 (.inr o3))).trans c5, bel.trans (ho.below o6 bel.size), d1, hd, o0, o1, o2, o3, Nat.lt_of_lt_of_le o4 ho.size, o5, o6⟩
/-- the closure: the same is done to both -/
theorem both_swap (i p u : Value) (h : Two w0 a4 a5 g1 g2 n lo1 hi1 lo2 hi2 L R w)
    (hl : Calls Tryd.prog 127 #[.slice (some ⟨g1, 0, none⟩) n n, i, p, u] w (OpPost w lo1 hi1 (.slice (some ⟨g1, 0, none⟩) n n) L')) (hdl : Dim L' n)
    (hr : ∀ w1, Two w0 a4 a5 g1 g2 n lo1 hi1 lo2 hi2 L' R w1 → Calls Tryd.prog 127 #[.slice (some ⟨g2, 0, none⟩) n n, i, p, u] w1 (OpPost w1 lo2 hi2 (.slice (some ⟨g2, 0, none⟩) n n) R')) (hdr : Dim R' n) :
    Calls Tryd.prog 125 #[.func (.func 127) #[] #[], i, p, u, .pointer (some ⟨a4, 0, none⟩), .pointer (some ⟨a5, 0, none⟩)] w fun e w' => e = .returned (.tuple #[]) ∧ Two w0 a4 a5 g1 g2 n lo1 hi1 lo2 hi2 L' R' w' := by
  have q4 := h.c4
  have Hl : Hid (Calls Tryd.prog 127 #[.slice (some ⟨g1, 0, none⟩) n n, i, p, u] w fun e w1 => e = .returned (.tuple #[]) ∧ w1.cell? ⟨a5, 0, none⟩ = some (.slice (some ⟨g2, 0, none⟩) n n) ∧ Hid (Calls Tryd.prog 127 #[.slice (some ⟨g2, 0, none⟩) n n, i, p, u] w1 fun e w2 => e = .returned (.tuple #[]) ∧ Two w0 a4 a5 g1 g2 n lo1 hi1 lo2 hi2 L' R' w2)) := by
    refine hl.mono fun e w1 ⟨he, hm, ho⟩ => ?_
    have h1 := h.left hm ho hdl
    refine ⟨he, h1.c5, ?_⟩
    exact (hr w1 h1).mono fun e w2 ⟨he, hm2, ho2⟩ => ⟨he, h1.right hm2 ho2 hdr⟩
  clear h hl hdl hr hdr
  go_enter Tryd.func125, Tryd.ntmps125
  go_wp2_with fail
  refine Hl.out.mono ?_
  rintro e w1 ⟨rfl, q5, Hr⟩
  go_wp2_with fail
  refine Hr.out.mono ?_
  rintro e w2 ⟨rfl, h2⟩
  have H2 := Lib.hid h2
  clear h2
  go_wp2_with fail
  go_end0
  exact ⟨rfl, H2.out⟩
/-- the closure: the same is done to both -/
theorem both_scale (i p u : Value) (h : Two w0 a4 a5 g1 g2 n lo1 hi1 lo2 hi2 L R w)
    (hl : Calls Tryd.prog 129 #[.slice (some ⟨g1, 0, none⟩) n n, i, p, u] w (OpPost w lo1 hi1 (.slice (some ⟨g1, 0, none⟩) n n) L')) (hdl : Dim L' n)
    (hr : ∀ w1, Two w0 a4 a5 g1 g2 n lo1 hi1 lo2 hi2 L' R w1 → Calls Tryd.prog 129 #[.slice (some ⟨g2, 0, none⟩) n n, i, p, u] w1 (OpPost w1 lo2 hi2 (.slice (some ⟨g2, 0, none⟩) n n) R')) (hdr : Dim R' n) :
    Calls Tryd.prog 125 #[.func (.func 129) #[] #[], i, p, u, .pointer (some ⟨a4, 0, none⟩), .pointer (some ⟨a5, 0, none⟩)] w fun e w' => e = .returned (.tuple #[]) ∧ Two w0 a4 a5 g1 g2 n lo1 hi1 lo2 hi2 L' R' w' := by
  have q4 := h.c4
  have Hl : Hid (Calls Tryd.prog 129 #[.slice (some ⟨g1, 0, none⟩) n n, i, p, u] w fun e w1 => e = .returned (.tuple #[]) ∧ w1.cell? ⟨a5, 0, none⟩ = some (.slice (some ⟨g2, 0, none⟩) n n) ∧ Hid (Calls Tryd.prog 129 #[.slice (some ⟨g2, 0, none⟩) n n, i, p, u] w1 fun e w2 => e = .returned (.tuple #[]) ∧ Two w0 a4 a5 g1 g2 n lo1 hi1 lo2 hi2 L' R' w2)) := by
    refine hl.mono fun e w1 ⟨he, hm, ho⟩ => ?_
    have h1 := h.left hm ho hdl
    refine ⟨he, h1.c5, ?_⟩
    exact (hr w1 h1).mono fun e w2 ⟨he, hm2, ho2⟩ => ⟨he, h1.right hm2 ho2 hdr⟩
  clear h hl hdl hr hdr
  go_enter Tryd.func125, Tryd.ntmps125
  go_wp2_with fail
  refine Hl.out.mono ?_
  rintro e w1 ⟨rfl, q5, Hr⟩
  go_wp2_with fail
  refine Hr.out.mono ?_
  rintro e w2 ⟨rfl, h2⟩
  have H2 := Lib.hid h2
  clear h2
  go_wp2_with fail
  go_end0
  exact ⟨rfl, H2.out⟩
/-- the closure: the same is done to both -/
theorem both_add (i p u : Value) (h : Two w0 a4 a5 g1 g2 n lo1 hi1 lo2 hi2 L R w)
    (hl : Calls Tryd.prog 130 #[.slice (some ⟨g1, 0, none⟩) n n, i, p, u] w (OpPost w lo1 hi1 (.slice (some ⟨g1, 0, none⟩) n n) L')) (hdl : Dim L' n)
    (hr : ∀ w1, Two w0 a4 a5 g1 g2 n lo1 hi1 lo2 hi2 L' R w1 → Calls Tryd.prog 130 #[.slice (some ⟨g2, 0, none⟩) n n, i, p, u] w1 (OpPost w1 lo2 hi2 (.slice (some ⟨g2, 0, none⟩) n n) R')) (hdr : Dim R' n) :
    Calls Tryd.prog 125 #[.func (.func 130) #[] #[], i, p, u, .pointer (some ⟨a4, 0, none⟩), .pointer (some ⟨a5, 0, none⟩)] w fun e w' => e = .returned (.tuple #[]) ∧ Two w0 a4 a5 g1 g2 n lo1 hi1 lo2 hi2 L' R' w' := by
  have q4 := h.c4
  have Hl : Hid (Calls Tryd.prog 130 #[.slice (some ⟨g1, 0, none⟩) n n, i, p, u] w fun e w1 => e = .returned (.tuple #[]) ∧ w1.cell? ⟨a5, 0, none⟩ = some (.slice (some ⟨g2, 0, none⟩) n n) ∧ Hid (Calls Tryd.prog 130 #[.slice (some ⟨g2, 0, none⟩) n n, i, p, u] w1 fun e w2 => e = .returned (.tuple #[]) ∧ Two w0 a4 a5 g1 g2 n lo1 hi1 lo2 hi2 L' R' w2)) := by
    refine hl.mono fun e w1 ⟨he, hm, ho⟩ => ?_
    have h1 := h.left hm ho hdl
    refine ⟨he, h1.c5, ?_⟩
    exact (hr w1 h1).mono fun e w2 ⟨he, hm2, ho2⟩ => ⟨he, h1.right hm2 ho2 hdr⟩
  clear h hl hdl hr hdr
  go_enter Tryd.func125, Tryd.ntmps125
  go_wp2_with fail
  refine Hl.out.mono ?_
  rintro e w1 ⟨rfl, q5, Hr⟩
  go_wp2_with fail
  refine Hr.out.mono ?_
  rintro e w2 ⟨rfl, h2⟩
  have H2 := Lib.hid h2
  clear h2
  go_wp2_with fail
  go_end0
  exact ⟨rfl, H2.out⟩
end
end Go.Proofs.YtlficcdbnmheeaaDoor

/-
  The program's inverse.
-/
namespace Go.Proofs.YtlficcdbnmheeaaDoor
open Go.RowKit

set_option maxRecDepth 20000
def gib (y : UInt8) : UInt8 := UInt8.ofNat (gi y.toNat)
theorem gib_nat (y : UInt8) : (gib y).toNat = gi y.toNat := by
  unfold gib
  rw [UInt8.toNat_ofNat']
  exact Nat.mod_eq_of_lt (gi_lt _)
def stepRow (i row : Nat) (S : Mtx × Mtx) : Mtx × Mtx := if row = i then S else (addM S.1 row i (at2 S.1 row i), addM S.2 row i (at2 S.1 row i))
def elimK (i : Nat) : Nat → Mtx × Mtx → Mtx × Mtx
  | 0, S => S
  | k + 1, S => stepRow i k (elimK i k S)
def turnM (i p : Nat) (S : Mtx × Mtx) : Mtx × Mtx :=
  (scaleM (swapM S.1 i p) i (gib (at2 (swapM S.1 i p) i i)), scaleM (swapM S.2 i p) i (gib (at2 (swapM S.1 i p) i i)))
def stepM (n i : Nat) (S : Mtx × Mtx) : Option (Mtx × Mtx) := match pivot S.1 i with
  | none => none
  | some p => some (elimK i n (turnM i p S))
def invK (n : Nat) (M : Mtx) : Nat → Option (Mtx × Mtx)
  | 0 => some (M, unitM n)
  | k + 1 => (invK n M k).bind (stepM n k)
theorem invK_none {n : Nat} {M : Mtx} {k : Nat} (h : invK n M k = none) : ∀ m, k ≤ m → invK n M m = none := by
  intro m hm
  obtain ⟨d, rfl⟩ : ∃ d, m = k + d := ⟨m - k, by omega⟩
  induction d with
  | zero => exact h
  | succ d ih =>
    show (invK n M (k + d)).bind (stepM n (k + d)) = none
    rw [ih (by omega)]; rfl
theorem pivFrom_some (M : Mtx) (n : Nat) : ∀ (f k p : Nat), pivFrom M n f k = some p → k ≤ p ∧ p < k + f ∧ at2 M p n ≠ 0
  | 0, k, p, h => by cases h
  | f + 1, k, p, h => by
    unfold pivFrom at h
    split at h
    · rename_i hx
      cases h
      exact ⟨Nat.le_refl _, by omega, hx⟩
    · obtain ⟨h1, h2, h3⟩ := pivFrom_some M n f (k + 1) p h
      exact ⟨by omega, by omega, h3⟩
theorem pivot_some {M : Mtx} {n i p : Nat} (h : pivot M i = some p) (hd : M.length = n) (hi : i < n) : i ≤ p ∧ p < n ∧ at2 M p i ≠ 0 := by
  obtain ⟨h1, h2, h3⟩ := pivFrom_some M i _ _ _ h
  exact ⟨h1, by omega, h3⟩
theorem swap_row {M : Mtx} {n i p : Nat} (hd : M.length = n) (hi : i < n) (hp : p < n) : (swapM M i p).getD i [] = M.getD p [] := by
  unfold swapM
  rw [List.getD_eq_getElem?_getD, List.getElem?_set]
  by_cases h : p = i
  · subst h
    rw [if_pos rfl, if_pos (by simp; omega)]; rfl
  · rw [if_neg h, List.getElem?_set_self (by omega)]; rfl
theorem at2_swap {M : Mtx} {n i p : Nat} (hd : M.length = n) (hi : i < n) (hp : p < n) (j : Nat) : at2 (swapM M i p) i j = at2 M p j := by
  unfold at2
  rw [swap_row hd hi hp]
section
variable {w0 w w1 : World} {a4 a5 g1 g2 n lo1 hi1 lo2 hi2 : Nat} {L R : Mtx}
theorem Two.elem (h : Two w0 a4 a5 g1 g2 n lo1 hi1 lo2 hi2 L R w) {i j : Nat} (hi : i < n) (hj : j < n) : ∃ b c, w.cell? ⟨g1, i, none⟩ = some (.slice (some ⟨b, 0, none⟩) n c) ∧ n ≤ c ∧ w.cell? ⟨b, j, none⟩ = some (.int .u8 ((at2 L i j).toNat : Int)) := by
  obtain ⟨q1, q2⟩ := h.d1.get hi
  obtain ⟨b, c, hr, _⟩ := h.m1.row q1
  have e1 := hr.head
  rw [q2] at e1
  have hx : (L.getD i [])[j]? = some (at2 L i j) := by
    unfold at2
    rw [List.getD_eq_getElem?_getD (l := L.getD i [])]
    rw [List.getElem?_eq_getElem (by rw [q2]; exact hj)]; rfl
  exact ⟨b, c, e1, by have := hr.cap; omega, hr.cells j _ hx⟩
theorem Two.start {A : Option Addr} (_h0 : w0.heap.size ≤ w0.heap.size) (hm1 : MatO w w0.heap.size w.heap.size (.slice (some ⟨g1, 0, none⟩) n n) L) (hb : Below w0.heap.size w0 w) (hd : Dim L n)
    (hm2 : MatO w1 (w.heap.size + 1) w1.heap.size (.slice (some ⟨g2, 0, none⟩) n n) (unitM n)) (hb2 : Below (w.heap.size + 1) (w.alloc (.cells #[.slice (some ⟨g1, 0, none⟩) n n] 140)) w1) :
    Two w0 w.heap.size w1.heap.size g1 g2 n w0.heap.size w.heap.size (w.heap.size + 1) w1.heap.size L (unitM n) (w1.alloc (.cells #[.slice (some ⟨g2, 0, none⟩) n n] 140)) := by
  have hs : w.heap.size + 1 ≤ w1.heap.size := by have := hb2.size; simpa using this
  have hs0 := hb.size
  refine ⟨?_, ?_, ?_, cell_new _ _ _, ?_, hd, dim_unit n, Nat.le_refl _, Nat.le_refl _, by omega, Nat.le_refl _, by simp, by omega, by omega⟩
  · refine hm1.move fun b h1 h2 h3 => ?_
    exact (Below.heap_alloc _ _ b (by omega)).trans ((hb2.block b (by omega)).trans (Below.heap_alloc _ _ b h3))
  · exact hm2.move fun b h1 h2 h3 => Below.heap_alloc _ _ b h3
  · have e1 : (w1.alloc (.cells #[.slice (some ⟨g2, 0, none⟩) n n] 140)).cell? ⟨w.heap.size, 0, none⟩ = w1.cell? ⟨w.heap.size, 0, none⟩ := World.cell?_alloc_lt _ _ ⟨w.heap.size, 0, none⟩ (by show w.heap.size < _; omega)
    rw [e1, hb2.cell (p := ⟨w.heap.size, 0, none⟩) (by show w.heap.size < _; omega)]
    exact cell_new _ _ _
  · have q1 : Below w0.heap.size w0 (w.alloc (.cells #[.slice (some ⟨g1, 0, none⟩) n n] 140)) := hb.alloc hs0 _
    exact (q1.trans (hb2.mono (by omega))).alloc (by omega) _
end
end Go.Proofs.YtlficcdbnmheeaaDoor

/-
  What the inverse is: row operations on both sides act alike on every vector; in the end the left one is Unit.
-/
namespace Go.Proofs.YtlficcdbnmheeaaDoor
open Go.RowKit

set_option maxRecDepth 20000
theorem u8_ext {x y : UInt8} (h : x.toNat = y.toNat) : x = y := UInt8.toNat_inj.1 h
theorem bm_zero (x : UInt8) : bm 0 x = 0 := u8_ext (by rw [bm_nat]; exact gm_zero' _)
theorem bm_zero' (x : UInt8) : bm x 0 = 0 := u8_ext (by rw [bm_nat]; exact gm_zero _)
theorem bm_one (x : UInt8) : bm 1 x = x := u8_ext (by rw [bm_nat]; exact gm_one (u8_lt x))
theorem bm_comm (x y : UInt8) : bm x y = bm y x := u8_ext (by rw [bm_nat, bm_nat]; exact gm_comm (u8_lt x) (u8_lt y))
theorem bm_assoc (x y z : UInt8) : bm x (bm y z) = bm (bm x y) z := u8_ext (by rw [bm_nat, bm_nat, bm_nat, bm_nat]; exact gm_assoc (u8_lt x) (u8_lt y) (u8_lt z))
theorem bm_add (x y z : UInt8) : bm (x ^^^ y) z = bm x z ^^^ bm y z := u8_ext (by rw [bm_nat, bx_nat, bx_nat, bm_nat, bm_nat]; exact gm_xor_left _ (u8_lt x) (u8_lt y))
theorem bm_gib {x : UInt8} (h : x ≠ 0) : bm x (gib x) = 1 := u8_ext (by rw [bm_nat, gib_nat]; exact gm_gi (u8_lt x) fun e => h (u8_ext e))
theorem bx_self (x : UInt8) : x ^^^ x = 0 := u8_ext (by rw [bx_nat, Nat.xor_self]; rfl)
theorem bx_zero (x : UInt8) : x ^^^ 0 = x := u8_ext (by rw [bx_nat]; exact Nat.xor_zero _)
theorem zero_bx (x : UInt8) : 0 ^^^ x = x := u8_ext (by rw [bx_nat]; exact Nat.zero_xor _)
theorem bx_assoc (x y z : UInt8) : x ^^^ y ^^^ z = x ^^^ (y ^^^ z) := u8_ext (by simp only [bx_nat]; exact Nat.xor_assoc _ _ _)
theorem bx_comm (x y : UInt8) : x ^^^ y = y ^^^ x := u8_ext (by simp only [bx_nat]; exact Nat.xor_comm _ _)
theorem bx_swap (a b c d : UInt8) : (a ^^^ b) ^^^ (c ^^^ d) = (a ^^^ c) ^^^ (b ^^^ d) := by
  rw [bx_assoc, bx_assoc, ← bx_assoc b c d, bx_comm b c, bx_assoc c b d]

/-! dot products of turned rows -/
theorem scale_get (r : List UInt8) (x : UInt8) (k : Nat) : (scaleR r x).getD k 0 = bm (r.getD k 0) x := by
  unfold scaleR
  rw [List.getD_eq_getElem?_getD, List.getD_eq_getElem?_getD, List.getElem?_map]
  cases r[k]? with
  | none => simp [bm_zero]
  | some y => rfl
theorem add_get (r o : List UInt8) (x : UInt8) (h : r.length = o.length) (k : Nat) : (addR r o x).getD k 0 = r.getD k 0 ^^^ bm (o.getD k 0) x := by
  unfold addR
  rw [List.getD_eq_getElem?_getD, List.getD_eq_getElem?_getD, List.getD_eq_getElem?_getD, List.getElem?_zipWith]
  by_cases hk : k < r.length
  · rw [List.getElem?_eq_getElem hk, List.getElem?_eq_getElem (by omega)]; rfl
  · rw [List.getElem?_eq_none (by omega), List.getElem?_eq_none (by omega)]
    simp [bm_zero]
theorem dotK_scale (r v : List UInt8) (x : UInt8) : ∀ k, dotK (scaleR r x) v k = bm (dotK r v k) x
  | 0 => (bm_zero x).symm
  | k + 1 => by
    show dotK (scaleR r x) v k ^^^ bm ((scaleR r x).getD k 0) (v.getD k 0) = bm (dotK r v k ^^^ bm (r.getD k 0) (v.getD k 0)) x
    rw [dotK_scale r v x k, scale_get, bm_add]
    congr 1
    rw [← bm_assoc, bm_comm x, bm_assoc]
theorem dotK_add (r o v : List UInt8) (x : UInt8) (h : r.length = o.length) : ∀ k, dotK (addR r o x) v k = dotK r v k ^^^ bm (dotK o v k) x
  | 0 => by show (0 : UInt8) = 0 ^^^ bm 0 x; rw [bm_zero]; rfl
  | k + 1 => by
    show dotK (addR r o x) v k ^^^ bm ((addR r o x).getD k 0) (v.getD k 0) = (dotK r v k ^^^ bm (r.getD k 0) (v.getD k 0)) ^^^ bm (dotK o v k ^^^ bm (o.getD k 0) (v.getD k 0)) x
    rw [dotK_add r o v x h k, add_get r o x h, bm_add, bm_add, bx_swap]
    congr 2
    rw [← bm_assoc, bm_comm x, bm_assoc]
theorem dot_scale (r v : List UInt8) (x : UInt8) : dot (scaleR r x) v = bm (dot r v) x := by
  unfold dot
  rw [show (scaleR r x).length = r.length by simp [scaleR], dotK_scale]
theorem dot_add (r o v : List UInt8) (x : UInt8) (h : r.length = o.length) : dot (addR r o x) v = dot r v ^^^ bm (dot o v) x := by
  unfold dot
  rw [show (addR r o x).length = r.length by simp [addR, h], dotK_add r o v x h, ← h]
/-- a vector's turns -/
def vAt (u : List UInt8) (i : Nat) : UInt8 := u.getD i 0
theorem apply_get (M : Mtx) (v : List UInt8) (i : Nat) (h : i < M.length) : (applyL M v)[i]? = some (dot (M.getD i []) v) := by
  unfold applyL
  rw [List.getElem?_map, List.getElem?_eq_getElem h, getD_of (List.getElem?_eq_getElem h)]; rfl
theorem apply_ext {M N : Mtx} {u v : List UInt8} (hl : M.length = N.length) (h : ∀ i, i < M.length → dot (M.getD i []) u = dot (N.getD i []) v) : applyL M u = applyL N v := by
  apply List.ext_getElem?
  intro i
  by_cases hi : i < M.length
  · rw [apply_get M u i hi, apply_get N v i (by omega), h i hi]
  · rw [List.getElem?_eq_none (by simp [applyL]; omega), List.getElem?_eq_none (by simp [applyL]; omega)]
theorem apply_inj {M N : Mtx} {u v : List UInt8} (h : applyL M u = applyL N v) (i : Nat) (hi : i < M.length) (hl : M.length = N.length) : dot (M.getD i []) u = dot (N.getD i []) v := by
  have := congrArg (fun l => l[i]?) h
  rw [apply_get M u i hi, apply_get N v i (by omega)] at this
  exact Option.some.inj this
theorem set_getD {M : Mtx} {i k : Nat} {l : List UInt8} (hi : i < M.length) : (M.set i l).getD k [] = if k = i then l else M.getD k [] := by
  rw [List.getD_eq_getElem?_getD, List.getElem?_set]
  by_cases h : i = k
  · subst h
    rw [if_pos rfl, if_pos hi, if_pos rfl]; rfl
  · rw [if_neg h, if_neg (fun e => h e.symm), List.getD_eq_getElem?_getD]
theorem swap_getD {M : Mtx} {i p k : Nat} (hi : i < M.length) (hp : p < M.length) : (swapM M i p).getD k [] = M.getD (if k = p then i else if k = i then p else k) [] := by
  unfold swapM
  rw [set_getD (by rw [List.length_set]; exact hp)]
  by_cases h1 : k = p
  · rw [if_pos h1, if_pos h1]
  · rw [if_neg h1, if_neg h1, set_getD hi]
    by_cases h2 : k = i
    · rw [if_pos h2, if_pos h2]
    · rw [if_neg h2, if_neg h2]
/-- the same is done to both: what is told of every vector goes on -/
def Alike2 (n : Nat) (M L R : Mtx) : Prop := ∀ v : List UInt8, v.length = n → applyL L v = applyL R (applyL M v)
section
variable {n i p : Nat} {M L R : Mtx} {x : UInt8}
theorem Alike2.swap (h : Alike2 n M L R) (hL : Dim L n) (hR : Dim R n) (hi : i < n) (hp : p < n) : Alike2 n M (swapM L i p) (swapM R i p) := fun v hv => by
  have h1 := h v hv
  refine apply_ext (by simp [swapM, hL.1, hR.1]) fun k hk => ?_
  have hkn : k < n := by simpa [swapM, hL.1] using hk
  rw [swap_getD (by rw [hL.1]; exact hi) (by rw [hL.1]; exact hp), swap_getD (by rw [hR.1]; exact hi) (by rw [hR.1]; exact hp)]
  exact apply_inj h1 _ (by rw [hL.1]; split <;> (try split) <;> omega) (by rw [hL.1, hR.1])
theorem Alike2.scale (h : Alike2 n M L R) (hL : Dim L n) (hR : Dim R n) (hi : i < n) : Alike2 n M (scaleM L i x) (scaleM R i x) := fun v hv => by
  have h1 := h v hv
  refine apply_ext (by simp [scaleM, hL.1, hR.1]) fun k hk => ?_
  have hkn : k < n := by simpa [scaleM, hL.1] using hk
  unfold scaleM
  rw [set_getD (by rw [hL.1]; exact hi), set_getD (by rw [hR.1]; exact hi)]
  by_cases e : k = i
  · rw [if_pos e, if_pos e, dot_scale, dot_scale, apply_inj h1 i (by rw [hL.1]; exact hi) (by rw [hL.1, hR.1])]
  · rw [if_neg e, if_neg e]
    exact apply_inj h1 k (by rw [hL.1]; exact hkn) (by rw [hL.1, hR.1])
theorem Alike2.add (h : Alike2 n M L R) (hL : Dim L n) (hR : Dim R n) (hi : i < n) (hp : p < n) : Alike2 n M (addM L p i x) (addM R p i x) := fun v hv => by
  have h1 := h v hv
  refine apply_ext (by simp [addM, hL.1, hR.1]) fun k hk => ?_
  have hkn : k < n := by simpa [addM, hL.1] using hk
  unfold addM
  rw [set_getD (by rw [hL.1]; exact hp), set_getD (by rw [hR.1]; exact hp)]
  by_cases e : k = p
  · rw [if_pos e, if_pos e, dot_add _ _ _ _ (by rw [(hL.get hp).2, (hL.get hi).2]), dot_add _ _ _ _ (by rw [(hR.get hp).2, (hR.get hi).2]),
      apply_inj h1 p (by rw [hL.1]; exact hp) (by rw [hL.1, hR.1]), apply_inj h1 i (by rw [hL.1]; exact hi) (by rw [hL.1, hR.1])]
  · rw [if_neg e, if_neg e]
    exact apply_inj h1 k (by rw [hL.1]; exact hkn) (by rw [hL.1, hR.1])
end
theorem unit_getD (n i : Nat) (h : i < n) : (unitM n).getD i [] = (List.replicate n 0).set i 1 := by
  unfold unitM
  rw [List.getD_eq_getElem?_getD, List.getElem?_map, List.getElem?_range h]; rfl
theorem unitrow_get (n i k : Nat) (h : i < n) : ((List.replicate n (0 : UInt8)).set i 1).getD k 0 = if k = i then 1 else 0 := by
  rw [List.getD_eq_getElem?_getD, List.getElem?_set]
  by_cases e : i = k
  · subst e
    rw [if_pos rfl, if_pos (by simpa using h), if_pos rfl]; rfl
  · rw [if_neg e, if_neg (fun q => e q.symm), List.getElem?_replicate]
    split <;> rfl
theorem dot_unit (n i : Nat) (v : List UInt8) (h : i < n) : ∀ k, dotK ((List.replicate n (0 : UInt8)).set i 1) v k = if i < k then v.getD i 0 else 0
  | 0 => by rw [if_neg (by omega)]; rfl
  | k + 1 => by
    show dotK _ v k ^^^ bm (((List.replicate n (0 : UInt8)).set i 1).getD k 0) (v.getD k 0) = _
    rw [dot_unit n i v h k, unitrow_get n i k h]
    by_cases e : k = i
    · subst e
      rw [if_neg (by omega), if_pos rfl, if_pos (by omega), bm_one, zero_bx]
    · rw [if_neg e, bm_zero, bx_zero]
      by_cases h2 : i < k
      · rw [if_pos h2, if_pos (by omega)]
      · rw [if_neg h2, if_neg (by omega)]
theorem apply_unit (n : Nat) (v : List UInt8) (hv : v.length = n) : applyL (unitM n) v = v := by
  have hu : (unitM n).length = n := by simp [unitM]
  apply List.ext_getElem?
  intro i
  by_cases hi : i < n
  · rw [apply_get _ _ i (by omega), unit_getD n i hi]
    unfold dot
    rw [dot_unit n i v hi, if_pos (by simpa using hi), List.getElem?_eq_getElem (by omega), List.getD_eq_getElem?_getD, List.getElem?_eq_getElem (by omega)]; rfl
  · rw [List.getElem?_eq_none (by simp [applyL, hu]; omega), List.getElem?_eq_none (by omega)]
end Go.Proofs.YtlficcdbnmheeaaDoor

/-
  The program's inverse, walked.
-/
namespace Go.Proofs.YtlficcdbnmheeaaDoor
open Go.RowKit

set_option maxRecDepth 20000
section
variable {w0 w : World} {a4 a5 g1 g2 n lo1 hi1 lo2 hi2 : Nat} {L R : Mtx}
theorem Two.swap (h : Two w0 a4 a5 g1 g2 n lo1 hi1 lo2 hi2 L R w) (hn : n ≤ 255) {i p : Nat} (hi : i < n) (hp : p < n) (u : Value) :
    Calls Tryd.prog 125 #[.func (.func 127) #[] #[], .int .i64 (i : Int), .int .i64 (p : Int), u, .pointer (some ⟨a4, 0, none⟩), .pointer (some ⟨a5, 0, none⟩)] w fun e w' => e = .returned (.tuple #[]) ∧ Two w0 a4 a5 g1 g2 n lo1 hi1 lo2 hi2 (swapM L i p) (swapM R i p) w' :=
  both_swap _ _ _ h (swap_any g1 n n i p u L lo1 hi1 w h.m1 h.d1.1.symm hi hp hn) (h.d1.swap hi hp) (fun w1 h1 => swap_any g2 n n i p u R lo2 hi2 w1 h1.m2 h1.d2.1.symm hi hp hn) (h.d2.swap hi hp)
theorem Two.scale (h : Two w0 a4 a5 g1 g2 n lo1 hi1 lo2 hi2 L R w) (hn : n ≤ 255) {i : Nat} (hi : i < n) (u : Value) (x : UInt8) :
    Calls Tryd.prog 125 #[.func (.func 129) #[] #[], .int .i64 (i : Int), u, .int .u8 (x.toNat : Int), .pointer (some ⟨a4, 0, none⟩), .pointer (some ⟨a5, 0, none⟩)] w fun e w' => e = .returned (.tuple #[]) ∧ Two w0 a4 a5 g1 g2 n lo1 hi1 lo2 hi2 (scaleM L i x) (scaleM R i x) w' :=
  both_scale _ _ _ h (scale_any g1 n n i u x L lo1 hi1 w h.m1 h.d1.1.symm hi hn (by rw [(h.d1.get hi).2]; exact hn)) (h.d1.scale hi x) (fun w1 h1 => scale_any g2 n n i u x R lo2 hi2 w1 h1.m2 h1.d2.1.symm hi hn (by rw [(h1.d2.get hi).2]; exact hn)) (h.d2.scale hi x)
theorem Two.add (h : Two w0 a4 a5 g1 g2 n lo1 hi1 lo2 hi2 L R w) (hn : n ≤ 255) {i p : Nat} (hi : i < n) (hp : p < n) (hpi : p ≠ i) (x : UInt8) :
    Calls Tryd.prog 125 #[.func (.func 130) #[] #[], .int .i64 (p : Int), .int .i64 (i : Int), .int .u8 (x.toNat : Int), .pointer (some ⟨a4, 0, none⟩), .pointer (some ⟨a5, 0, none⟩)] w fun e w' => e = .returned (.tuple #[]) ∧ Two w0 a4 a5 g1 g2 n lo1 hi1 lo2 hi2 (addM L p i x) (addM R p i x) w' :=
  both_add _ _ _ h (addrow_any g1 n n p i x L lo1 hi1 w h.m1 h.d1.1.symm hp hi hpi hn (by rw [(h.d1.get hi).2]; exact hn) (by rw [(h.d1.get hp).2, (h.d1.get hi).2])) (h.d1.add hp hi x) (fun w1 h1 => addrow_any g2 n n p i x R lo2 hi2 w1 h1.m2 h1.d2.1.symm hp hi hpi hn (by rw [(h1.d2.get hi).2]; exact hn) (by rw [(h1.d2.get hp).2, (h1.d2.get hi).2])) (h.d2.add hp hi x)
theorem Two.pivot (h : Two w0 a4 a5 g1 g2 n lo1 hi1 lo2 hi2 L R w) (hn : n ≤ 255) {i : Nat} (hi : i < n) :
    Calls Tryd.prog 126 #[.slice (some ⟨g1, 0, none⟩) n n, .int .i64 (i : Int)] w fun e w' => e = .returned (.int .i64 (pivI (pivot L i))) ∧ w = w' := by
  obtain ⟨A, c, e, _, hr⟩ := h.m1.rm
  have hl := h.d1.1
  have e1 := (Value.slice.inj e)
  have := pivot_any A c i L w _ hr (by omega) (by omega) (fun k l hk => by rw [h.d1.2 k l hk]; exact hi)
  rw [← e] at this
  exact this
theorem Two.inv (_h : Two w0 a4 a5 g1 g2 n lo1 hi1 lo2 hi2 L R w) {i : Nat} (h0 : at2 L i i ≠ 0) :
    Calls Tryd.prog 128 #[.int .u8 ((at2 L i i).toNat : Int), .int .i64 (-1)] w fun e w' => e = .returned (.tuple #[.int .u8 ((gib (at2 L i i)).toNat : Int), .int .i64 0]) ∧ w = w' := by
  have hne : (at2 L i i).toNat ≠ 0 := fun e => h0 (UInt8.toNat_inj.1 e)
  have := pow_any (at2 L i i).toNat (-1) w (u8_lt _)
  rw [(powV_inv (u8_lt _) hne).1, (powV_inv (u8_lt _) hne).2, ← gib_nat] at this
  exact this
end
/-- what the program's Inverse answers -/
def sqB (M : Mtx) : Bool := rightB M && decide (M.length = (M.headD []).length)
def invL (M : Mtx) : Mtx := if sqB M then (match invK M.length M M.length with | none => [] | some S => S.2) else []
def invC (M : Mtx) : Nat := if sqB M then (match invK M.length M M.length with | none => 4 | some _ => 0) else 1
theorem inv_sq {M : Mtx} (h : sqB M = true) : ∃ n, 1 ≤ n ∧ n ≤ 255 ∧ Dim M n ∧ M[0]? = some (M.headD []) := by
  unfold sqB at h
  rw [Bool.and_eq_true, decide_eq_true_eq] at h
  obtain ⟨n, h1, h2, h3, h4, h5, h6, h7⟩ := right_facts h.1
  exact ⟨n, h3, h4, ⟨by rw [h.2, h6], h7⟩, h5⟩
set_option maxHeartbeats 8000000 in
theorem inverse_sq (A : Option Addr) (c n : Nat) (M : Mtx) (w : World) (h : RM w w.heap.size A M) (hn1 : 1 ≤ n) (hn2 : n ≤ 255) (hd : Dim M n) (hr : rightB M = true) :
    Calls Tryd.prog 121 #[.slice A n c] w fun e w' => (∃ S, invK n M n = some S ∧ ∃ g lo hi, e = .returned (.tuple #[.slice (some ⟨g, 0, none⟩) n n, .int .i64 0]) ∧ MatO w' lo hi (.slice (some ⟨g, 0, none⟩) n n) S.2 ∧ w.heap.size ≤ lo ∧ hi ≤ w'.heap.size ∧ Dim S.2 n ∧ Below w.heap.size w w') ∨
      (invK n M n = none ∧ e = .returned (.tuple #[.slice none 0 0, .int .i64 4]) ∧ Below w.heap.size w w') := by
  have hlen := hd.1
  have HR : Hid (Calls Tryd.prog 123 #[.slice A n c] w fun e w' => e = .returned (.bool true) ∧ w = w') := by
    have := right_any A c M w _ h (by omega) (fun k l hk => by rw [hd.2 k l hk]; omega)
    rw [hr, hlen] at this
    exact this
  obtain ⟨b, o, rfl, hb⟩ := h.at_ (by omega)
  obtain ⟨A0, c0, q0, _, _⟩ := h.row (hd.get (i := 0) (by omega)).1
  rw [(hd.get (i := 0) (by omega)).2, Nat.add_zero] at q0
  have HE := Lib.hid (eachClone_any (some ⟨b, o, none⟩) c n M w h hlen.symm hn2 (fun k l hk => by rw [hd.2 k l hk]; omega))
  have HU : Hid (∀ W, Calls Tryd.prog 119 #[.int .i64 (n : Int)] W (MadeM W n (unitM n))) := fun W => unit_any n W hn1 hn2
  have Hd := Lib.hid hd
  have hn1' : (1 : Int) ≤ (n : Int) := by omega
  have hn0' : (0 : Int) < (n : Int) := by omega
  have hn2' : (n : Int) ≤ 255 := by omega
  clear h hd hr hlen hb hn1
  go_enter Tryd.func121, Tryd.ntmps121
  go_wp2_with fail
  refine HR.out.mono ?_
  rintro e w1 ⟨rfl, rfl⟩
  go_wp2_with fail
  refine HE.out.mono ?_
  rintro e w1 ⟨rfl, hm1, hb1⟩
  have Hm1 := Lib.hid hm1
  have Hb1 := Lib.hid hb1
  have HU1 := Lib.hid (HU.out (w1.alloc (.cells #[.slice (some ⟨w.heap.size, 0, none⟩) n n] 140)))
  clear hm1 hb1 HE HR HU q0
  go_wp2_with fail
  refine HU1.out.mono ?_
  rintro e w2 ⟨g2, rfl, hm2, hb2⟩
  have Hst : Hid (∃ a4 a5 lo1 hi1 lo2 hi2, a4 = w1.heap.size ∧ a5 = w2.heap.size ∧ Two w a4 a5 w.heap.size g2 n lo1 hi1 lo2 hi2 M (unitM n) (w2.alloc (.cells #[.slice (some ⟨g2, 0, none⟩) n n] 140))) := by
    have hs : (w1.alloc (.cells #[.slice (some ⟨w.heap.size, 0, none⟩) n n] 140)).heap.size = w1.heap.size + 1 := by simp
    rw [hs] at hm2 hb2
    exact ⟨_, _, _, _, _, _, rfl, rfl, Two.start (A := none) (Nat.le_refl _) Hm1.out Hb1.out Hd.out hm2 hb2⟩
  clear hm2 hb2 HU1 Hm1 Hb1
  go_upto_region 6 with fail
  obtain ⟨a4, a5, lo1, hi1, lo2, hi2, e4, e5, ht⟩ := Hst.out
  rw [← e4, ← e5]
  generalize w2.alloc (.cells #[.slice (some ⟨g2, 0, none⟩) n n] 140) = W0 at ht ⊢
  have c4 := ht.c4
  have Hs0 : Hid (invK n M 0 = some (M, unitM n) ∧ Two w a4 a5 w.heap.size g2 n lo1 hi1 lo2 hi2 M (unitM n) W0) := ⟨rfl, ht⟩
  clear Hst e4 e5 ht
  obtain ⟨g1, hg1⟩ : ∃ g1, g1 = w.heap.size := ⟨_, rfl⟩
  rw [← hg1] at c4 Hs0
  rw [← hg1]
  have Hg1 := Lib.hid hg1
  clear hg1
  go_wp2_with fail
  clear c4
  go_loopw [8, 9, 10, 11, 12, 36] (fun _ _ _ _ _ iv wr => ∃ (i : Nat) (L R : Mtx), iv = .int .i64 (i : Int) ∧ i ≤ n ∧ Hid (invK n M i = some (L, R) ∧ Two w a4 a5 g1 g2 n lo1 hi1 lo2 hi2 L R wr)) (fun _ _ _ _ _ iv _ => n - (intOf iv).toNat)
  case atStart => exact ⟨0, M, unitM n, rfl, Nat.zero_le _, Hs0.out⟩
  case round =>
    obtain ⟨i, L, R, rfl, hi, hrel⟩ := hrel
    by_cases hlt : i < n
    case neg =>
      obtain rfl : i = n := by omega
      have c5 := hrel.out.2.c5
      have Hfin : Hid (∃ S, invK i M i = some S ∧ ∃ g lo hi, Ending.returned (.tuple #[.slice (some ⟨g2, 0, none⟩) i i, .int .i64 0]) = .returned (.tuple #[.slice (some ⟨g, 0, none⟩) i i, .int .i64 0]) ∧ MatO wr lo hi (.slice (some ⟨g, 0, none⟩) i i) S.2 ∧ w.heap.size ≤ lo ∧ hi ≤ wr.heap.size ∧ Dim S.2 i ∧ Below w.heap.size w wr) := by
        obtain ⟨q1, q2⟩ := hrel.out
        exact ⟨_, q1, g2, lo2, hi2, rfl, q2.m2, q2.o6, by have := q2.o3; have := q2.o4; omega, q2.d2, q2.bel⟩
      clear hlt hrel
      go_wp2_with fail
      go_ret2
      exact .inl Hfin.out
    have hlt' : (i : Int) < (n : Int) := by omega
    obtain ⟨hk, ht⟩ := hrel.out
    have c4 := ht.c4
    have Ht := Lib.hid ht
    have Hk := Lib.hid hk
    have HP := Lib.hid (ht.pivot hn2 hlt)
    obtain ⟨wo, rfl⟩ : ∃ wo : World, wo = wr := ⟨_, rfl⟩
    clear hk ht hrel
    rcases hpv : pivot L i with _ | p
    · rw [hpv] at HP
      have Hno : Hid (invK n M n = none ∧ Below w.heap.size w wo) := by
        refine ⟨invK_none (k := i + 1) ?_ n (by omega), Ht.out.bel⟩
        show (invK n M i).bind (stepM n i) = none
        rw [Hk.out]
        show stepM n i (L, R) = none
        unfold stepM
        rw [show pivot (L, R).1 i = none from hpv]
      clear hpv hlt
      go_wp2_with fail
      refine HP.out.mono ?_
      rintro e w3 ⟨rfl, rfl⟩
      go_wp2_with fail
      go_ret2
      exact .inr ⟨Hno.out.1, rfl, Hno.out.2⟩
    rw [hpv] at HP
    obtain ⟨hp1, hp2, hp3⟩ := pivot_some hpv Ht.out.d1.1 hlt
    have HP2 : Hid (Calls Tryd.prog 126 #[.slice (some ⟨g1, 0, none⟩) n n, .int .i64 (i : Int)] wo fun e w' => e = .returned (.int .i64 (p : Int)) ∧ wo = w') := HP.out
    have Hsw : Hid (Calls Tryd.prog 125 #[.func (.func 127) #[] #[], .int .i64 (i : Int), .int .i64 (p : Int), .int .u8 1, .pointer (some ⟨a4, 0, none⟩), .pointer (some ⟨a5, 0, none⟩)] wo fun e w' => e = .returned (.tuple #[]) ∧ Two w a4 a5 g1 g2 n lo1 hi1 lo2 hi2 (swapM L i p) (swapM R i p) w') := Ht.out.swap hn2 hlt hp2 _
    have hpp : ¬ (p : Int) < 0 := by omega
    have Hne : Hid (at2 (swapM L i p) i i ≠ 0) := by show _ ≠ _; rw [at2_swap Ht.out.d1.1 hlt hp2]; exact hp3
    have Hstep : Hid (invK n M (i + 1) = some (elimK i n (turnM i p (L, R)))) := by
      show (invK n M i).bind (stepM n i) = _
      rw [Hk.out]
      show stepM n i (L, R) = _
      unfold stepM
      rw [show pivot (L, R).1 i = some p from hpv]
    obtain ⟨L1, hL1⟩ : ∃ L1, L1 = swapM L i p := ⟨_, rfl⟩
    obtain ⟨R1, hR1⟩ : ∃ R1, R1 = swapM R i p := ⟨_, rfl⟩
    have Hturn : Hid (turnM i p (L, R) = (scaleM L1 i (gib (at2 L1 i i)), scaleM R1 i (gib (at2 L1 i i)))) := by rw [hL1, hR1]; rfl
    rw [← hL1] at Hsw Hne
    rw [← hR1] at Hsw
    have Hi := Lib.hid hlt
    clear hL1 hR1 hp1 hp2 hp3 hpv HP Ht Hk hlt
    go_wp2_with fail
    refine HP2.out.mono ?_
    rintro e w3 ⟨rfl, rfl⟩
    go_wp2_with fail
    refine Hsw.out.mono ?_
    rintro e w3 ⟨rfl, ht3⟩
    clear c4 HP2 Hsw
    have c4 := ht3.c4
    obtain ⟨b3, c3, k1, k2, k3⟩ := ht3.elem (i := i) (j := i) Hi.out Hi.out
    have HV := Lib.hid (ht3.inv (i := i) Hne.out)
    have Hsc := Lib.hid (ht3.scale hn2 (i := i) Hi.out (.int .i64 (i : Int)) (gib (at2 L1 i i)))
    generalize (at2 L1 i i).toNat = y at HV k3
    have k2' : (n : Int) ≤ (c3 : Int) := by omega
    clear ht3 Hne
    go_wp2_with fail
    refine HV.out.mono ?_
    rintro e w4 ⟨rfl, rfl⟩
    clear k1 k3
    generalize hxn : (gib (at2 L1 i i)).toNat = xn at *
    go_wp2_with fail
    refine Hsc.out.mono ?_
    rintro e w4 ⟨rfl, ht4⟩
    clear c4
    have c4 := ht4.c4
    have Hs1 : Hid (elimK i 0 (turnM i p (L, R)) = (scaleM L1 i (gib (at2 L1 i i)), scaleM R1 i (gib (at2 L1 i i))) ∧ Two w a4 a5 g1 g2 n lo1 hi1 lo2 hi2 (scaleM L1 i (gib (at2 L1 i i))) (scaleM R1 i (gib (at2 L1 i i))) w4) := ⟨Hturn.out, ht4⟩
    generalize turnM i p (L, R) = S0 at *
    clear ht4 Hsc HV hxn Hturn
    go_wp2_with fail
    clear c4
    go_loopw [12, 66] (fun _ jv wz => ∃ (j : Nat) (L' R' : Mtx), jv = .int .i64 (j : Int) ∧ j ≤ n ∧ Hid (elimK i j S0 = (L', R') ∧ Two w a4 a5 g1 g2 n lo1 hi1 lo2 hi2 L' R' wz)) (fun _ jv _ => n - (intOf jv).toNat)
    case atStart => exact ⟨0, _, _, rfl, Nat.zero_le _, Hs1.out⟩
    case round =>
      obtain ⟨j, L', R', rfl, hj, hrel⟩ := hrel
      by_cases hjl : j < n
      case neg =>
        obtain rfl : j = n := by omega
        have Hn : Hid (invK j M (i + 1) = some (L', R') ∧ Two w a4 a5 g1 g2 j lo1 hi1 lo2 hi2 L' R' wr) := ⟨by rw [Hstep.out, hrel.out.1], hrel.out.2⟩
        clear hjl hrel
        go_wp2_with fail
        go_roundw
        case rel => exact ⟨i + 1, L', R', by go_num, by have := Hi.out; omega, Hn.out⟩
        case measure => (have := Hi.out; simp [intOf]; omega)
      have hjl' : (j : Int) < (n : Int) := by omega
      by_cases hji : j = i
      · have hbb : ((j : Int) != (i : Int)) = false := by simp [hji]
        have Hn : Hid (elimK i (j + 1) S0 = (L', R') ∧ Two w a4 a5 g1 g2 n lo1 hi1 lo2 hi2 L' R' wr) := ⟨by
          show stepRow i j (elimK i j S0) = _
          rw [hrel.out.1]
          unfold stepRow
          rw [if_pos hji], hrel.out.2⟩
        clear hji hjl hrel
        go_wp2_with fail
        go_roundw
        case rel => exact ⟨j + 1, L', R', by go_num, by omega, Hn.out⟩
        case measure => simp [intOf]; omega
      · have hbb : ((j : Int) != (i : Int)) = true := by simp; omega
        obtain ⟨b5, c5, k1, k2, k3⟩ := hrel.out.2.elem (i := j) (j := i) hjl Hi.out
        have c4 := hrel.out.2.c4
        have Had := Lib.hid (hrel.out.2.add hn2 (i := i) (p := j) Hi.out hjl hji (at2 L' j i))
        have Hn : Hid (elimK i (j + 1) S0 = (addM L' j i (at2 L' j i), addM R' j i (at2 L' j i))) := by
          show stepRow i j (elimK i j S0) = _
          rw [hrel.out.1]
          unfold stepRow
          rw [if_neg hji]
        have k2' : (n : Int) ≤ (c5 : Int) := by omega
        have hin : (i : Int) < (n : Int) := by have := Hi.out; omega
        generalize hx5 : (at2 L' j i).toNat = x5 at Had k3
        clear hji hjl hrel hx5
        go_wp2_with fail
        refine Had.out.mono ?_
        rintro e w6 ⟨rfl, ht6⟩
        have Hn6 := Lib.hid ht6
        clear ht6 Had k1 k3 c4
        go_wp2_with fail
        go_roundw
        case rel => exact ⟨j + 1, _, _, by go_num, by omega, Hn.out, Hn6.out⟩
        case measure => simp [intOf]; omega
end Go.Proofs.YtlficcdbnmheeaaDoor

/-
  In the end the left matrix is Unit: so the right one undoes the given one.
-/
namespace Go.Proofs.YtlficcdbnmheeaaDoor
open Go.RowKit

set_option maxRecDepth 20000
theorem at2_scale {M : Mtx} {i r j : Nat} {x : UInt8} (hi : i < M.length) : at2 (scaleM M i x) r j = if r = i then bm (at2 M i j) x else at2 M r j := by
  unfold at2 scaleM
  rw [set_getD hi]
  by_cases h : r = i
  · rw [if_pos h, if_pos h, scale_get]
  · rw [if_neg h, if_neg h]
theorem at2_add {M : Mtx} {n p i r j : Nat} {x : UInt8} (hd : Dim M n) (hp : p < n) (hi : i < n) : at2 (addM M p i x) r j = if r = p then at2 M p j ^^^ bm (at2 M i j) x else at2 M r j := by
  unfold at2 addM
  rw [set_getD (by rw [hd.1]; exact hp)]
  by_cases h : r = p
  · rw [if_pos h, if_pos h, add_get _ _ _ (by rw [(hd.get hp).2, (hd.get hi).2])]
  · rw [if_neg h, if_neg h]
theorem at2_swap' {M : Mtx} {i p r j : Nat} (hi : i < M.length) (hp : p < M.length) : at2 (swapM M i p) r j = at2 M (if r = p then i else if r = i then p else r) j := by
  unfold at2
  rw [swap_getD hi hp]
def Col (n k : Nat) (L : Mtx) : Prop := ∀ j, j < k → ∀ r, r < n → at2 L r j = if r = j then 1 else 0
structure Good (n k : Nat) (M L R : Mtx) : Prop where
  d1 : Dim L n
  d2 : Dim R n
  ak : Alike2 n M L R
  col : Col n k L
section
variable {n i p : Nat} {M L R : Mtx}
theorem Good.swap (h : Good n i M L R) (hi : i < n) (hp : p < n) (hip : i ≤ p) : Good n i M (swapM L i p) (swapM R i p) := by
  refine ⟨h.d1.swap hi hp, h.d2.swap hi hp, h.ak.swap h.d1 h.d2 hi hp, fun j hj r hr => ?_⟩
  rw [at2_swap' (by rw [h.d1.1]; exact hi) (by rw [h.d1.1]; exact hp)]
  by_cases h1 : r = p
  · rw [if_pos h1, h.col j hj i hi, if_neg (by omega), if_neg (by omega)]
  · rw [if_neg h1]
    by_cases h2 : r = i
    · rw [if_pos h2, h.col j hj p hp, if_neg (by omega), if_neg (by omega)]
    · rw [if_neg h2, h.col j hj r hr]
theorem Good.scale (h : Good n i M L R) (hi : i < n) (x : UInt8) : Good n i M (scaleM L i x) (scaleM R i x) := by
  refine ⟨h.d1.scale hi x, h.d2.scale hi x, h.ak.scale h.d1 h.d2 hi, fun j hj r hr => ?_⟩
  rw [at2_scale (by rw [h.d1.1]; exact hi)]
  by_cases h1 : r = i
  · rw [if_pos h1, h.col j hj i hi, if_neg (by omega), if_neg (by omega), bm_zero]
  · rw [if_neg h1, h.col j hj r hr]
/-- k rows are cleared in column i -/
structure Clear (n i k : Nat) (M : Mtx) (S : Mtx × Mtx) : Prop where
  good : Good n i M S.1 S.2
  one : at2 S.1 i i = 1
  zero : ∀ r, r < k → r ≠ i → at2 S.1 r i = 0
theorem Clear.row {k : Nat} {S : Mtx × Mtx} (h : Clear n i k M S) (hi : i < n) (hk : k < n) : Clear n i (k + 1) M (stepRow i k S) := by
  unfold stepRow
  by_cases hki : k = i
  · rw [if_pos hki]
    exact ⟨h.good, h.one, fun r hr hri => h.zero r (by omega) hri⟩
  · rw [if_neg hki]
    obtain ⟨g, h1, h0⟩ := h
    refine ⟨⟨g.d1.add hk hi _, g.d2.add hk hi _, g.ak.add g.d1 g.d2 hi hk, fun j hj r hr => ?_⟩, ?_, fun r hr hri => ?_⟩
    · show at2 (addM S.1 k i _) r j = _
      rw [at2_add g.d1 hk hi]
      by_cases e : r = k
      · rw [if_pos e, g.col j hj i hi, if_neg (show ¬ i = j by omega), bm_zero, bx_zero, g.col j hj k hk, e]
      · rw [if_neg e, g.col j hj r hr]
    · show at2 (addM S.1 k i _) i i = 1
      rw [at2_add g.d1 hk hi, if_neg (fun e => hki e.symm)]
      exact h1
    · show at2 (addM S.1 k i _) r i = 0
      rw [at2_add g.d1 hk hi]
      by_cases e : r = k
      · rw [if_pos e, h1, bm_one, bx_self]
      · rw [if_neg e]
        exact h0 r (by omega) hri
theorem Clear.elim {S : Mtx × Mtx} (h : Clear n i 0 M S) (hi : i < n) : ∀ k, k ≤ n → Clear n i k M (elimK i k S)
  | 0, _ => h
  | k + 1, hk => (Clear.elim h hi k (by omega)).row hi (by omega)
theorem Good.step {S : Mtx × Mtx} (h : Good n i M L R) (hi : i < n) (hs : stepM n i (L, R) = some S) : Good n (i + 1) M S.1 S.2 := by
  unfold stepM at hs
  rcases hp : pivot L i with _ | p
  · rw [show pivot (L, R).1 i = none from hp] at hs
    cases hs
  · rw [show pivot (L, R).1 i = some p from hp] at hs
    obtain ⟨p1, p2, p3⟩ := pivot_some hp h.d1.1 hi
    cases hs
    have h1 := h.swap hi p2 p1
    have hy : at2 (swapM L i p) i i ≠ 0 := by rw [at2_swap h.d1.1 hi p2]; exact p3
    have h2 := h1.scale hi (gib (at2 (swapM L i p) i i))
    have hc : Clear n i 0 M (turnM i p (L, R)) := by
      refine ⟨h2, ?_, fun r hr => by omega⟩
      show at2 (scaleM (swapM L i p) i _) i i = 1
      rw [at2_scale (by rw [h1.d1.1]; exact hi), if_pos rfl, bm_gib hy]
    have h3 := hc.elim hi n (Nat.le_refl _)
    refine ⟨h3.good.d1, h3.good.d2, h3.good.ak, fun j hj r hr => ?_⟩
    by_cases e : j = i
    · subst e
      by_cases e2 : r = j
      · rw [if_pos e2, e2]; exact h3.one
      · rw [if_neg e2]; exact h3.zero r hr e2
    · exact h3.good.col j (by omega) r hr
theorem invK_good (hd : Dim M n) : ∀ (k : Nat) (S : Mtx × Mtx), k ≤ n → invK n M k = some S → Good n k M S.1 S.2
  | 0, S, _, h => by
    cases h
    refine ⟨hd, dim_unit n, fun v hv => ?_, fun j hj => by omega⟩
    exact (apply_unit n _ (by simp [applyL, hd.1])).symm
  | k + 1, S, hk, h => by
    unfold invK at h
    rcases h0 : invK n M k with _ | ⟨L, R⟩
    · rw [h0] at h; cases h
    · rw [h0] at h
      exact (invK_good hd k (L, R) (by omega) h0).step (by omega) h
end
theorem col_unit {n : Nat} {L : Mtx} (hd : Dim L n) (h : Col n n L) : L = unitM n := by
  have hu : (unitM n).length = n := by simp [unitM]
  apply List.ext_getElem?
  intro r
  by_cases hr : r < n
  · rw [(hd.get hr).1]
    have e1 : (unitM n)[r]? = some ((unitM n).getD r []) := by
      rw [List.getD_eq_getElem?_getD, List.getElem?_eq_getElem (by omega)]; rfl
    rw [e1]
    congr 1
    rw [unit_getD n r hr]
    apply List.ext_getElem?
    intro j
    by_cases hj : j < n
    · have e2 := h j hj r hr
      have e3 := unitrow_get n r j hr
      unfold at2 at e2
      have hj1 : j < (L.getD r []).length := by rw [(hd.get hr).2]; exact hj
      have hj2 : j < ((List.replicate n (0:UInt8)).set r 1).length := by simpa using hj
      rw [List.getD_eq_getElem?_getD (l := L.getD r []), List.getElem?_eq_getElem hj1] at e2
      rw [List.getD_eq_getElem?_getD, List.getElem?_eq_getElem hj2] at e3
      rw [List.getElem?_eq_getElem hj1, List.getElem?_eq_getElem hj2]
      congr 1
      have e4 : (if r = j then (1 : UInt8) else 0) = if j = r then 1 else 0 := by
        by_cases e : r = j
        · rw [if_pos e, if_pos e.symm]
        · rw [if_neg e, if_neg (fun q => e q.symm)]
      simp only [Option.getD_some] at e2 e3
      rw [e2, e3, e4]
    · rw [List.getElem?_eq_none (by rw [(hd.get hr).2]; omega), List.getElem?_eq_none (by simp; omega)]
  · rw [List.getElem?_eq_none (by rw [hd.1]; omega), List.getElem?_eq_none (by omega)]
/-- THE INVERSE UNDOES -/
theorem inv_undoes {n : Nat} {M : Mtx} {S : Mtx × Mtx} (hd : Dim M n) (h : invK n M n = some S) (v : List UInt8) (hv : v.length = n) : applyL S.2 (applyL M v) = v := by
  have g := invK_good hd n S (Nat.le_refl _) h
  have e := col_unit g.d1 g.col
  have := g.ak v hv
  rw [e, apply_unit n v hv] at this
  exact this.symm
end Go.Proofs.YtlficcdbnmheeaaDoor

/-
  GfSolves, walked: the inverse where there is none, the product with a vector, the law.
-/
namespace Go.Proofs.YtlficcdbnmheeaaDoor
open Go.RowKit

set_option maxRecDepth 20000
set_option maxHeartbeats 1000000 in
theorem inverse_no (A : Option Addr) (c : Nat) (M : Mtx) (w : World) (h : RM w w.heap.size A M) (hl : M.length ≤ 1048576) (hll : ∀ (k : Nat) (l : List UInt8), M[k]? = some l → l.length ≤ 1048576) (hs : sqB M = false) :
    Calls Tryd.prog 121 #[.slice A M.length c] w fun e w' => e = .returned (.tuple #[.slice none 0 0, .int .i64 1]) ∧ w = w' := by
  have HR := Lib.hid (right_any A c M w _ h hl hll)
  by_cases hr : rightB M = true
  · rw [hr] at HR
    obtain ⟨n, h1, h2, h3, h4, h5, h6, h7⟩ := right_facts hr
    have hne : M.length ≠ n := fun e => by
      unfold sqB at hs
      rw [hr, h6, decide_eq_true e] at hs
      cases hs
    obtain ⟨b, o, rfl, hb⟩ := h.at_ (by omega)
    obtain ⟨A0, c0, q0, _, _⟩ := h.row h5
    rw [h6, Nat.add_zero] at q0
    have hbb : (((M.length : Nat) : Int) != (n : Int)) = true := by simp; omega
    have h1' : (0 : Int) < ((M.length : Nat) : Int) := by omega
    generalize M.length = N at *
    clear h hl hll hs hr h1 h2 h3 h4 h5 h6 h7 hne hb
    go_enter Tryd.func121, Tryd.ntmps121
    go_wp2_with fail
    refine HR.out.mono ?_
    rintro e w1 ⟨rfl, rfl⟩
    go_wp2_with fail
    go_ret2
    exact ⟨rfl, rfl⟩
  · rw [Bool.not_eq_true] at hr
    rw [hr] at HR
    generalize M.length = N at *
    clear h hl hll hs hr
    go_enter Tryd.func121, Tryd.ntmps121
    go_wp2_with fail
    refine HR.out.mono ?_
    rintro e w1 ⟨rfl, rfl⟩
    go_wp2_with fail
    go_ret2
    exact ⟨rfl, rfl⟩
end Go.Proofs.YtlficcdbnmheeaaDoor

/-
  A matrix turned, rows for columns: the program's.
-/
namespace Go.Proofs.YtlficcdbnmheeaaDoor
open Go.RowKit

set_option maxRecDepth 20000
/-- row a of the turned matrix, i rows done and j elements of the next -/
def turnR (M : Mtx) (i j a : Nat) : List UInt8 := (List.range M.length).map fun b => if b < i ∨ (b = i ∧ a < j) then at2 M b a else 0
def turnK (M : Mtx) (n i j : Nat) : Mtx := (List.range n).map (turnR M i j)
def turnedM (M : Mtx) (n : Nat) : Mtx := (List.range n).map fun a => M.map fun r => r.getD a 0
theorem turnR_length (M : Mtx) (i j a : Nat) : (turnR M i j a).length = M.length := by simp [turnR]
theorem turnK_length (M : Mtx) (n i j : Nat) : (turnK M n i j).length = n := by simp [turnK]
theorem turnR_get (M : Mtx) (i j a b : Nat) (h : b < M.length) : (turnR M i j a)[b]? = some (if b < i ∨ (b = i ∧ a < j) then at2 M b a else 0) := by
  unfold turnR
  rw [List.getElem?_map, List.getElem?_range h]; rfl
theorem turnK_get (M : Mtx) (n i j a : Nat) (h : a < n) : (turnK M n i j)[a]? = some (turnR M i j a) := by
  unfold turnK
  rw [List.getElem?_map, List.getElem?_range h]; rfl
theorem turnK_zero (M : Mtx) (n : Nat) : blankM n M.length = turnK M n 0 0 := by
  apply List.ext_getElem?
  intro a
  by_cases h : a < n
  · unfold blankM
    rw [turnK_get M n 0 0 a h, List.getElem?_replicate, if_pos h]
    congr 1
    apply List.ext_getElem?
    intro b
    by_cases hb : b < M.length
    · rw [turnR_get M 0 0 a b hb, List.getElem?_replicate, if_pos hb, if_neg (by omega)]
    · rw [List.getElem?_eq_none (by simp; omega), List.getElem?_eq_none (by rw [turnR_length]; omega)]
  · rw [List.getElem?_eq_none (by simp [blankM]; omega), List.getElem?_eq_none (by rw [turnK_length]; omega)]
theorem turnK_step (M : Mtx) (n i j : Nat) (hi : i < M.length) (hj : j < n) : (turnK M n i j).set j ((turnR M i j j).set i (at2 M i j)) = turnK M n i (j + 1) := by
  apply List.ext_getElem?
  intro a
  by_cases h : a < n
  · rw [List.getElem?_set, turnK_length, turnK_get M n i j a h, turnK_get M n i (j + 1) a h]
    by_cases e : j = a
    · subst e
      rw [if_pos rfl, if_pos hj]
      congr 1
      apply List.ext_getElem?
      intro b
      by_cases hb : b < M.length
      · rw [List.getElem?_set, turnR_length, turnR_get M i j j b hb, turnR_get M i (j + 1) j b hb]
        by_cases e2 : i = b
        · subst e2
          rw [if_pos rfl, if_pos hi, if_pos (by omega)]
        · rw [if_neg e2]
          by_cases h1 : b < i
          · rw [if_pos (.inl h1), if_pos (.inl h1)]
          · rw [if_neg (by omega), if_neg (by omega)]
      · rw [List.getElem?_eq_none (by rw [List.length_set, turnR_length]; omega), List.getElem?_eq_none (by rw [turnR_length]; omega)]
    · rw [if_neg e]
      congr 1
      apply List.ext_getElem?
      intro b
      by_cases hb : b < M.length
      · rw [turnR_get M i j a b hb, turnR_get M i (j + 1) a b hb]
        by_cases h1 : b < i ∨ (b = i ∧ a < j)
        · rw [if_pos h1, if_pos (by omega)]
        · rw [if_neg h1, if_neg (by omega)]
      · rw [List.getElem?_eq_none (by rw [turnR_length]; omega), List.getElem?_eq_none (by rw [turnR_length]; omega)]
  · rw [List.getElem?_eq_none (by rw [List.length_set, turnK_length]; omega), List.getElem?_eq_none (by rw [turnK_length]; omega)]
theorem turnK_next (M : Mtx) (n i : Nat) : turnK M n i n = turnK M n (i + 1) 0 := by
  unfold turnK turnR
  apply List.map_congr_left
  intro a ha
  have ha' := List.mem_range.1 ha
  apply List.map_congr_left
  intro b _
  by_cases h1 : b < i ∨ (b = i ∧ a < n)
  · rw [if_pos h1, if_pos (by omega)]
  · rw [if_neg h1, if_neg (by omega)]
theorem turnK_done (M : Mtx) (n : Nat) : turnK M n M.length 0 = turnedM M n := by
  unfold turnK turnedM
  apply List.map_congr_left
  intro a _
  apply List.ext_getElem?
  intro b
  by_cases hb : b < M.length
  · rw [turnR_get M M.length 0 a b hb, if_pos (.inl hb), List.getElem?_map, List.getElem?_eq_getElem hb]
    unfold at2
    rw [List.getD_eq_getElem?_getD (l := M), List.getElem?_eq_getElem hb]; rfl
  · rw [List.getElem?_eq_none (by rw [turnR_length]; omega), List.getElem?_eq_none (by simp; omega)]
def TurnRel (w : World) (M : Mtx) (lo hi g n i j : Nat) (wr : World) : Prop := MatO wr lo hi (.slice (some ⟨g, 0, none⟩) n n) (turnK M n i j) ∧ Below w.heap.size w wr ∧ wr.heap.size = hi ∧ lo = w.heap.size
set_option maxHeartbeats 1600000 in
theorem turned_any (A : Option Addr) (c N n : Nat) (M : Mtx) (w : World) (h : RM w w.heap.size A M) (hN : N = M.length) (h1 : 1 ≤ N) (h2 : N ≤ 255) (h3 : 1 ≤ n) (h4 : n ≤ 255) (hn : ∀ (k : Nat) (l : List UInt8), M[k]? = some l → l.length = n) :
    Calls Tryd.prog 131 #[.slice A N c] w fun e w' => e = .returned (.slice (some ⟨w.heap.size, 0, none⟩) n n) ∧ MatO w' w.heap.size w'.heap.size (.slice (some ⟨w.heap.size, 0, none⟩) n n) (turnedM M n) ∧ Below w.heap.size w w' := by
  have Hb := Lib.hid (blank_any n N w h3 h4 h1 h2)
  obtain ⟨b, o, rfl, hb⟩ := h.at_ (by omega)
  obtain ⟨A0, c0, q0, _, _⟩ := h.row (head_get (M := M) (by omega))
  rw [hn 0 _ (head_get (M := M) (by omega)), Nat.add_zero] at q0
  have Hh := Lib.hid h
  have Hn := Lib.hid hn
  have HN := Lib.hid hN
  have hN0 : (0 : Int) < (N : Int) := by omega
  have hN1 : (N : Int) ≤ 255 := by omega
  have hn1 : (n : Int) ≤ 255 := by omega
  have Hlt := Lib.hid hb
  clear h hn hN h1 h2 h3 h4 hb
  go_enter Tryd.func131, Tryd.ntmps131
  go_wp2_with fail
  refine Hb.out.mono ?_
  rintro e w2 ⟨rfl, hm2, hb2⟩
  have Hst : Hid (TurnRel w M w.heap.size w2.heap.size w.heap.size n 0 0 w2) := ⟨by rw [← turnK_zero, ← HN.out]; exact hm2, hb2, rfl, rfl⟩
  clear hm2 hb2 q0 Hb
  generalize w2.heap.size = hi at *
  obtain ⟨g, hg⟩ : ∃ g, g = w.heap.size := ⟨_, rfl⟩
  obtain ⟨lo, hlo⟩ : ∃ lo, lo = w.heap.size := ⟨_, rfl⟩
  rw [← hg]
  have Hst2 : Hid (TurnRel w M lo hi g n 0 0 w2) := by rw [hg, hlo]; exact Hst.out
  have HG := Lib.hid hg
  clear hg hlo Hst
  go_wp2_with fail
  go_loopw [4, 5, 17] (fun _ _ iv wr => ∃ i : Nat, iv = .int .i64 (i : Int) ∧ i ≤ N ∧ Hid (TurnRel w M lo hi g n i 0 wr)) (fun _ _ iv _ => N - (intOf iv).toNat)
  case atStart => exact ⟨0, rfl, Nat.zero_le _, Hst2.out⟩
  case round =>
    obtain ⟨i, rfl, hiN, hrel⟩ := hrel
    by_cases hlt : i < N
    · obtain ⟨r, hr⟩ : ∃ r, M[i]? = some r := ⟨_, List.getElem?_eq_getElem (by rw [← HN.out]; exact hlt)⟩
      obtain ⟨A', c', hc, hrb, _⟩ := Hh.out.row hr
      have hc0 : wr.cell? ⟨b, o + i, none⟩ = some (.slice A' r.length c') := (hrel.out.2.1.cell (p := ⟨b, o + i, none⟩) Hlt.out).trans hc
      have hlt' : (i : Int) < (N : Int) := by omega
      have Hr : Hid (M.getD i [] = r ∧ r.length = n ∧ RB w w.heap.size A' r ∧ i < M.length) := ⟨by rw [List.getD_eq_getElem?_getD, hr]; rfl, Hn.out i r hr, hrb, by rw [← HN.out]; exact hlt⟩
      rw [Hr.out.2.1] at hc0
      have Hrel := Lib.hid hrel.out
      clear hr hc hrb hrel
      obtain ⟨wo, rfl⟩ : ∃ wo : World, wo = wr := ⟨_, rfl⟩
      go_wp2_with fail
      clear hc0
      go_loopw [6, 7, 24] (fun _ _ jv wz => ∃ j : Nat, jv = .int .i64 (j : Int) ∧ j ≤ n ∧ Hid (TurnRel w M lo hi g n i j wz)) (fun _ _ jv _ => n - (intOf jv).toNat)
      case atStart => exact ⟨0, rfl, Nat.zero_le _, Hrel.out⟩
      case round =>
        obtain ⟨j, rfl, hj, hrel⟩ := hrel
        by_cases hjl : j < n
        · have hjl' : (j : Int) < (n : Int) := by omega
          obtain ⟨b', o', rfl, hb'⟩ := Hr.out.2.2.1.flat (by have := Hr.out.2.1; omega)
          obtain ⟨x, hx⟩ : ∃ x, r[j]? = some x := ⟨_, List.getElem?_eq_getElem (by rw [Hr.out.2.1]; exact hjl)⟩
          have k1 : wr.cell? ⟨b', o' + j, none⟩ = some (.int .u8 (x.toNat : Int)) := by
            obtain ⟨ad, e, _, hc⟩ := Hr.out.2.2.1 j x hx
            cases e
            rw [add_flat] at hc
            exact (hrel.out.2.1.cell (p := ⟨b', o' + j, none⟩) hb').trans hc
          obtain ⟨r1, r2, r3, r4⟩ := hrel.out
          obtain ⟨b5, c5, hra, hset⟩ := r1.row (i := j) (turnK_get M n i j j hjl)
          have k2 := hra.head
          rw [turnR_length, ← HN.out] at k2
          have k3 := hra.cap
          rw [turnR_length, ← HN.out] at k3
          have k4 := hra.cells i _ (turnR_get M i j j i Hr.out.2.2.2)
          have k5 := hra.free i
          have k3' : (N : Int) ≤ (c5 : Int) := by omega
          have Hnx : Hid (TurnRel w M lo hi g n i (j + 1) (wr.setCell ⟨b5, i, none⟩ (.int .u8 (x.toNat : Int)))) := by
            have := hset i x
            have e : x = at2 M i j := by
              unfold at2
              rw [Hr.out.1, List.getD_eq_getElem?_getD, hx]; rfl
            rw [e] at this ⊢
            rw [turnK_step M n i j Hr.out.2.2.2 hjl] at this
            exact ⟨this, r2.setCell (p := ⟨b5, i, none⟩) (by rw [← r4]; exact hra.low) _, by simp [World.setCell, r3], r4⟩
          generalize x.toNat = xn at *
          clear hx hrel hb' hjl r1 r2 r3 r4 hra hset
          go_wp2_with fail
          go_roundw
          case rel => exact ⟨j + 1, by go_num, by omega, Hnx.out⟩
          case measure => simp [intOf]; omega
        · obtain rfl : j = n := by omega
          have Hnx : Hid (TurnRel w M lo hi g j (i + 1) 0 wr) := by
            have := hrel.out
            unfold TurnRel at this ⊢
            rw [turnK_next] at this
            exact this
          clear hjl hrel
          go_wp2_with fail
          go_roundw
          case rel => exact ⟨i + 1, by go_num, by omega, Hnx.out⟩
          case measure => simp [intOf]; omega
    · obtain rfl : i = N := by omega
      have Hd : Hid (MatO wr w.heap.size wr.heap.size (.slice (some ⟨g, 0, none⟩) n n) (turnedM M n) ∧ Below w.heap.size w wr) := by
        obtain ⟨r1, r2, r3, r4⟩ := hrel.out
        rw [HN.out, turnK_done, ← r3, r4] at r1
        exact ⟨r1, r2⟩
      clear hlt hrel
      go_wp2_with fail
      go_ret
      exact ⟨by rw [HG.out]; rfl, by rw [← HG.out] at *; exact Hd.out.1, Hd.out.2⟩
end Go.Proofs.YtlficcdbnmheeaaDoor

/-
  The program's each with a matrix's apply handed in, and Times.
-/
namespace Go.Proofs.YtlficcdbnmheeaaDoor
open Go.RowKit

set_option maxRecDepth 20000
set_option maxHeartbeats 1600000 in
theorem eachApply_any (A : Option Addr) (c N : Nat) (M : Mtx) (A2 : Option Addr) (c2 N2 n : Nat) (M2 : Mtx) (w : World) (h : RM w w.heap.size A M) (hN : N = M.length) (hNb : N ≤ 255) (hr : ∀ (k : Nat) (l : List UInt8), M[k]? = some l → l.length = n) (hn : n ≤ 255)
    (h2 : RM w w.heap.size A2 M2) (hN2 : N2 = M2.length) (hN21 : 1 ≤ N2) (hN22 : N2 ≤ 255) (hr2 : ∀ (k : Nat) (l : List UInt8), M2[k]? = some l → l.length = n) :
    Calls Tryd.prog 124 #[.slice A N c, .func (.func 132) #[.slice A2 N2 c2] #[]] w fun e w' => e = .returned (.slice (some ⟨w.heap.size, 0, none⟩) N N) ∧ MatO w' w.heap.size w'.heap.size (.slice (some ⟨w.heap.size, 0, none⟩) N N) (M.map (applyL M2)) ∧ Below w.heap.size w w' := by
  obtain ⟨cs, Hcs, hmk⟩ := make_rows N (by omega)
  have Hst := Lib.hid (EachAt.start w N (M.map (applyL M2)) hNb Hcs.out)
  have Hh := Lib.hid h
  have Hr := Lib.hid hr
  have HN := Lib.hid hN
  have HA : Hid (∀ (Av : Option Addr) (cv : Nat) (v : List UInt8) (W : World), v.length = n → RM W W.heap.size A2 M2 → RB W W.heap.size Av v → Calls Tryd.prog 132 #[.slice A2 N2 c2, .slice Av n cv] W fun e w' => e = .returned (.slice (some ⟨W.heap.size, 0, none⟩) N2 N2) ∧ Blk w' W.heap.size (applyL M2 v) ∧ Below W.heap.size W w') := fun Av cv v W hv h2 hb => by
    have := apply_any A2 c2 M2 Av cv v W h2 hb (by omega) (by omega) (fun k l hk => by rw [hr2 k l hk, hv]) (by omega)
    rw [hv, ← hN2] at this
    exact this
  have Hh2 := Lib.hid h2
  have HN2 : Hid (N2 = M2.length ∧ 1 ≤ N2 ∧ N2 ≤ 255) := ⟨hN2, hN21, hN22⟩
  have hN1 : (N : Int) ≤ 255 := by omega
  clear h hr hN h2 hN2 hN21 hN22 hr2
  go_enter Tryd.func124, Tryd.ntmps124
  go_wp2_with fail
  go_loopw [6, 7, 13] (fun _ _ iv wr => ∃ i : Nat, iv = .int .i64 (i : Int) ∧ i ≤ N ∧ Hid (EachAt w N (M.map (applyL M2)) i wr)) (fun _ _ iv _ => N - (intOf iv).toNat)
  case atStart => exact ⟨0, rfl, Nat.zero_le _, Hst.out⟩
  case round =>
    obtain ⟨k, rfl, hk, hrel⟩ := hrel
    by_cases hlt : k < N
    · obtain ⟨l, hx⟩ : ∃ l, M[k]? = some l := ⟨_, List.getElem?_eq_getElem (by rw [← HN.out]; exact hlt)⟩
      obtain ⟨b, o, A', c', rfl, hb, hc, hrb, _⟩ := Hh.out k l hx
      have hln := Hr.out k l hx
      have k1 : wr.cell? ⟨b, o + k, none⟩ = some (.slice A' n c') := by
        rw [← hln]
        exact (hrel.out.bel.cell (p := ⟨b, o + k, none⟩) hb).trans hc
      have hlt' : (k : Int) < (N : Int) := by omega
      have HC := Lib.hid (HA.out A' c' l wr hln ((Hh2.out.below hrel.out.bel).wide hrel.out.bel.size) ((hrb.below hrel.out.bel).wide hrel.out.bel.size))
      have hml : (applyL M2 l).length = N2 := by unfold applyL; rw [List.length_map]; exact HN2.out.1.symm
      have HS : Hid (∀ w1, Blk w1 wr.heap.size (applyL M2 l) → Below wr.heap.size wr w1 → (∃ u, w1.cell? ⟨w.heap.size, k, none⟩ = some u) ∧ w1.frozen? ⟨w.heap.size, k, none⟩ = false ∧ EachAt w N (M.map (applyL M2)) (k + 1) (w1.setCell ⟨w.heap.size, k, none⟩ (.slice (some ⟨wr.heap.size, 0, none⟩) N2 N2))) := fun w1 ho hb => by
        have ho' : Own w1 wr.heap.size (.slice (some ⟨wr.heap.size, 0, none⟩) N2 N2) (applyL M2 l) := by
          have := ho.own (base := wr.heap.size) (Nat.le_refl _) (by rw [hml]; have := HN2.out.2.2; omega)
          rw [hml] at this
          exact this
        exact hrel.out.step hlt (by rw [List.getElem?_map, hx]; rfl) (by rw [hml]; exact HN2.out.2.1) ho' hb
      clear hx hb hc hrb hrel hlt hln hml
      obtain ⟨g, hg⟩ : ∃ g, g = w.heap.size := ⟨_, rfl⟩
      have HG := Lib.hid hg
      rw [← hg] at HS ⊢
      clear hg
      go_wp2_with fail
      refine HC.out.mono ?_
      rintro e w1 ⟨rfl, ho, hb1⟩
      obtain ⟨⟨u, k2⟩, k3, k4⟩ := HS.out w1 ho hb1
      have Hn := Lib.hid k4
      clear ho hb1 k4
      go_wp2_with fail
      go_roundw
      case rel => exact ⟨k + 1, by go_num, by omega, Hn.out⟩
      case measure => simp [intOf]; omega
    · obtain rfl : k = N := by omega
      have Hd : Hid (MatO wr w.heap.size wr.heap.size (.slice (some ⟨w.heap.size, 0, none⟩) k k) (M.map (applyL M2)) ∧ Below w.heap.size w wr) := ⟨hrel.out.done (by rw [List.length_map]; exact HN.out), hrel.out.bel⟩
      clear hlt hrel
      go_wp2_with fail
      go_ret
      exact ⟨rfl, Hd.out.1, Hd.out.2⟩
/-- the product, by columns -/
def timesM (M O : Mtx) : Mtx := turnedM ((turnedM O (O.headD []).length).map (applyL M)) M.length
def timesB (M O : Mtx) : Bool := rightB M && rightB O && decide ((M.headD []).length = O.length)
theorem turned_row (O : Mtx) (n : Nat) (k : Nat) (l : List UInt8) (h : (turnedM O n)[k]? = some l) : l.length = O.length := by
  unfold turnedM at h
  rw [List.getElem?_map] at h
  obtain ⟨a, _, rfl⟩ := Option.map_eq_some_iff.1 h
  simp
theorem turned_length (O : Mtx) (n : Nat) : (turnedM O n).length = n := by simp [turnedM]
set_option maxHeartbeats 1600000 in
theorem times_ok (A : Option Addr) (c : Nat) (M : Mtx) (A2 : Option Addr) (c2 : Nat) (O : Mtx) (w : World) (h : RM w w.heap.size A M) (h2 : RM w w.heap.size A2 O) (hr : rightB M = true) (hr2 : rightB O = true) (hmo : (M.headD []).length = O.length) :
    Calls Tryd.prog 122 #[.slice A M.length c, .slice A2 O.length c2] w fun e w' => ∃ g, e = .returned (.tuple #[.slice (some ⟨g, 0, none⟩) M.length M.length, .int .i64 0]) ∧ RM w' w'.heap.size (some ⟨g, 0, none⟩) (timesM M O) ∧ (∃ lo, w.heap.size ≤ lo ∧ MatO w' lo w'.heap.size (.slice (some ⟨g, 0, none⟩) M.length M.length) (timesM M O)) ∧ Below w.heap.size w w' := by
  obtain ⟨n, m1, m2, m3, m4, m5, m6, m7⟩ := right_facts hr
  obtain ⟨p, o1, o2, o3, o4, o5, o6, o7⟩ := right_facts hr2
  have HR1 := Lib.hid (right_any A c M w _ h (by omega) (fun k l hk => by rw [m7 k l hk]; omega))
  have HR2 := Lib.hid (right_any A2 c2 O w _ h2 (by omega) (fun k l hk => by rw [o7 k l hk]; omega))
  rw [hr] at HR1
  rw [hr2] at HR2
  obtain ⟨b, o, rfl, hb⟩ := h.at_ (by omega)
  obtain ⟨A0, c0, q0, _, _⟩ := h.row m5
  rw [hmo, Nat.add_zero] at q0
  have hno : n = O.length := by rw [← m6, hmo]
  have HT := Lib.hid (turned_any A2 c2 O.length p O w h2 rfl o1 o2 o3 o4 o7)
  have HE : Hid (∀ W (A' : Option Addr) (c' : Nat), Below w.heap.size w W → RM W W.heap.size A' (turnedM O p) → Calls Tryd.prog 124 #[.slice A' p c', .func (.func 132) #[.slice (some ⟨b, o, none⟩) M.length c] #[]] W fun e w' => e = .returned (.slice (some ⟨W.heap.size, 0, none⟩) p p) ∧ MatO w' W.heap.size w'.heap.size (.slice (some ⟨W.heap.size, 0, none⟩) p p) ((turnedM O p).map (applyL M)) ∧ Below W.heap.size W w') := fun W A' c' hb hm =>
    eachApply_any A' c' p (turnedM O p) (some ⟨b, o, none⟩) c M.length n M W hm (turned_length O p).symm o4 (fun k l hk => by rw [turned_row O p k l hk, hno]) m4 ((h.below hb).wide hb.size) rfl m1 m2 m7
  have HU : Hid (∀ W (A' : Option Addr) (c' : Nat), RM W W.heap.size A' ((turnedM O p).map (applyL M)) → Calls Tryd.prog 131 #[.slice A' p c'] W fun e w' => e = .returned (.slice (some ⟨W.heap.size, 0, none⟩) M.length M.length) ∧ MatO w' W.heap.size w'.heap.size (.slice (some ⟨W.heap.size, 0, none⟩) M.length M.length) (turnedM ((turnedM O p).map (applyL M)) M.length) ∧ Below W.heap.size W w') := fun W A' c' hm =>
    turned_any A' c' p M.length _ W hm (by rw [List.length_map, turned_length]) o3 o4 m1 m2 (fun k l hk => by
      rw [List.getElem?_map] at hk
      obtain ⟨a, _, rfl⟩ := Option.map_eq_some_iff.1 hk
      unfold applyL
      rw [List.length_map])
  have Hdef : Hid (turnedM ((turnedM O p).map (applyL M)) M.length = timesM M O) := by unfold timesM; rw [o6]; rfl
  have Hl : Hid ((turnedM O p).length = p ∧ (timesM M O).length = M.length) := ⟨turned_length O p, by unfold timesM; exact turned_length _ _⟩
  have h1' : (0 : Int) < ((M.length : Nat) : Int) := by omega
  generalize timesM M O = T at *
  generalize M.length = N at *
  generalize O.length = K at *
  clear h h2 hr hr2 hmo m1 m2 m3 m4 m5 m6 m7 o1 o2 o3 o4 o5 o6 o7 hno hb
  go_enter Tryd.func122, Tryd.ntmps122
  go_wp2_with fail
  refine HR1.out.mono ?_
  rintro e w1 ⟨rfl, rfl⟩
  go_wp2_with fail
  refine HR2.out.mono ?_
  rintro e w1 ⟨rfl, rfl⟩
  go_wp2_with fail
  refine HT.out.mono ?_
  rintro e w1 ⟨rfl, hm1, hb1⟩
  have Hb1 := Lib.hid hb1
  have HE1 : Hid (Calls Tryd.prog 124 #[.slice (some ⟨w.heap.size, 0, none⟩) p p, .func (.func 132) #[.slice (some ⟨b, o, none⟩) N c] #[]] w1 fun e w' => e = .returned (.slice (some ⟨w1.heap.size, 0, none⟩) p p) ∧ MatO w' w1.heap.size w'.heap.size (.slice (some ⟨w1.heap.size, 0, none⟩) p p) ((turnedM O p).map (applyL M)) ∧ Below w1.heap.size w1 w') := by
    obtain ⟨A3, c3, e3, _, r3⟩ := hm1.rm
    rw [Hl.out.1] at e3
    cases e3
    exact HE.out w1 _ _ hb1 r3
  clear hm1 hb1 HE HT HR1 HR2 q0
  go_wp2_with fail
  refine HE1.out.mono ?_
  rintro e w2 ⟨rfl, hm2, hb2⟩
  have Hb2 : Hid (Below w.heap.size w w2) := Hb1.out.trans (hb2.mono Hb1.out.size)
  have HU1 : Hid (Calls Tryd.prog 131 #[.slice (some ⟨w1.heap.size, 0, none⟩) p p] w2 fun e w' => e = .returned (.slice (some ⟨w2.heap.size, 0, none⟩) N N) ∧ MatO w' w2.heap.size w'.heap.size (.slice (some ⟨w2.heap.size, 0, none⟩) N N) T ∧ Below w2.heap.size w2 w') := by
    obtain ⟨A3, c3, e3, _, r3⟩ := hm2.rm
    rw [List.length_map, Hl.out.1] at e3
    cases e3
    rw [← Hdef.out]
    exact HU.out w2 _ _ r3
  clear hm2 hb2 HU HE1 Hb1
  go_wp2_with fail
  refine HU1.out.mono ?_
  rintro e w3 ⟨rfl, hm3, hb3⟩
  have Hend : Hid (RM w3 w3.heap.size (some ⟨w2.heap.size, 0, none⟩) T ∧ (∃ lo, w.heap.size ≤ lo ∧ MatO w3 lo w3.heap.size (.slice (some ⟨w2.heap.size, 0, none⟩) N N) T) ∧ Below w.heap.size w w3) := by
    obtain ⟨A3, c3, e3, _, r3⟩ := hm3.rm
    cases e3
    exact ⟨r3, ⟨_, Hb2.out.size, hm3⟩, Hb2.out.trans (hb3.mono Hb2.out.size)⟩
  clear hm3 hb3 HU1 Hb2
  go_wp2_with fail
  go_ret2
  exact ⟨_, rfl, Hend.out.1, Hend.out.2.1, Hend.out.2.2⟩
end Go.Proofs.YtlficcdbnmheeaaDoor
