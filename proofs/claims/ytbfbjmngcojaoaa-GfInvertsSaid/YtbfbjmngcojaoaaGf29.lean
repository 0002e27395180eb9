/-
  A matrix times a vector: the second saying's; both as told.
-/
import Derived.Test.YtbfbjmngcojaoaaGf28
namespace Go.Proofs.Ytbfbjmngcojaoaa
open Go.RowKit

set_option maxRecDepth 20000
def applyB (M : Mtx) (v : List UInt8) : Bool := rightB M && decide ((M.headD []).length = v.length)
def applyLL (M : Mtx) (v : List UInt8) : List UInt8 := if applyB M v then applyL M v else []
def applyE (M : Mtx) (v : List UInt8) : Int := if applyB M v then 0 else 1
/-- bytes that were told -/
def TellsB (w : World) (l : List UInt8) (code : Int) (e : Ending) (w' : World) : Prop :=
  ∃ A c, e = .returned (.tuple #[.slice A l.length c, .int .i64 code]) ∧ RB w' w'.heap.size A l ∧ Below w.heap.size w w'
theorem tellsB_blk {w w' : World} {g N : Nat} {l : List UInt8} (hN : N = l.length) (hb : Blk w' g l) (hbe : Below w.heap.size w w') : TellsB w l 0 (.returned (.tuple #[.slice (some ⟨g, 0, none⟩) N N, .int .i64 0])) w' :=
  ⟨some ⟨g, 0, none⟩, N, by rw [hN], (hb.rb 0).wide hb.lt, hbe⟩
theorem apply_len (M : Mtx) (v : List UInt8) : (applyL M v).length = M.length := by unfold applyL; rw [List.length_map]
theorem applyB_no {M : Mtx} {v : List UInt8} (h : applyB M v = false) : applyLL M v = [] ∧ applyE M v = 1 := by
  unfold applyLL applyE
  rw [h]
  exact ⟨rfl, rfl⟩
theorem applyB_yes {M : Mtx} {v : List UInt8} (h : applyB M v = true) : applyLL M v = applyL M v ∧ applyE M v = 0 := by
  unfold applyLL applyE
  rw [h]
  exact ⟨rfl, rfl⟩
set_option maxHeartbeats 1600000 in
theorem apply_told (A : Option Addr) (c : Nat) (M : Mtx) (Av : Option Addr) (cv : Nat) (v : List UInt8) (w : World) (h : RM w w.heap.size A M) (hl : M.length ≤ 1048576) (hll : ∀ (k : Nat) (l : List UInt8), M[k]? = some l → l.length ≤ 1048576) (hv : RB w w.heap.size Av v) (hvl : ((v.length : Nat) : Int) ≤ 1048576) :
    Calls Try.prog 31 #[.slice A M.length c, .slice Av v.length cv] w (TellsB w (applyLL M v) (applyE M v)) := by
  have HR := Lib.hid (right_any A c M w _ h hl hll)
  by_cases hr : rightB M = true
  case neg =>
    rw [Bool.not_eq_true] at hr
    obtain ⟨e1, e2⟩ := applyB_no (M := M) (v := v) (by unfold applyB; rw [hr]; rfl)
    rw [e1, e2]
    rw [hr] at HR
    generalize M.length = N at *
    generalize v.length = m at *
    clear h hl hll hv hvl hr e1 e2
    go_enter Try.func31, Try.ntmps31
    go_wp2_with fail
    refine HR.out.mono ?_
    rintro e w1 ⟨rfl, rfl⟩
    go_wp2_with fail
    go_ret2
    exact ⟨none, 0, rfl, RB.nil _ _ _, Below.refl _ _⟩
  rw [hr] at HR
  obtain ⟨n, h1, h2, h3, h4, h5, h6, h7⟩ := right_facts hr
  by_cases hn : (M.headD []).length = v.length
  case neg =>
    obtain ⟨e1, e2⟩ := applyB_no (M := M) (v := v) (by unfold applyB; rw [decide_eq_false hn]; exact Bool.and_false _)
    rw [e1, e2]
    obtain ⟨b, o, rfl, hb⟩ := h.at_ (by omega)
    obtain ⟨A0, c0, q0, _, _⟩ := h.row h5
    rw [h6, Nat.add_zero] at q0
    rw [h6] at hn
    have hbb : (((v.length : Nat) : Int) != (n : Int)) = true := by simp; omega
    have h1' : (0 : Int) < ((M.length : Nat) : Int) := by omega
    generalize M.length = N at *
    generalize v.length = m at *
    clear h hl hll hv hvl hr h1 h2 h3 h4 h5 h6 h7 hn hb e1 e2
    go_enter Try.func31, Try.ntmps31
    go_wp2_with fail
    refine HR.out.mono ?_
    rintro e w1 ⟨rfl, rfl⟩
    go_wp2_with fail
    go_ret2
    exact ⟨none, 0, rfl, RB.nil _ _ _, Below.refl _ _⟩
  obtain ⟨e1, e2⟩ := applyB_yes (M := M) (v := v) (by unfold applyB; rw [hr, decide_eq_true hn]; rfl)
  rw [e1, e2]
  refine (apply_ok A c M Av cv v w h hv hr hn).mono fun e w' ⟨he, hb, hbe⟩ => ?_
  rw [he]
  exact tellsB_blk (apply_len M v).symm hb hbe
set_option maxHeartbeats 2000000 in
theorem rapply_told (A : Option Addr) (c : Nat) (M : Mtx) (Av : Option Addr) (cv : Nat) (v : List UInt8) (w : World) (h : RM w w.heap.size A M) (hl : M.length ≤ 1048576) (hll : ∀ (k : Nat) (l : List UInt8), M[k]? = some l → l.length ≤ 1048576) (hv : RB w w.heap.size Av v) (hvl : ((v.length : Nat) : Int) ≤ 1048576) :
    Calls Try.prog 32 #[.slice A M.length c, .slice Av v.length cv] w (TellsB w (applyLL M v) (applyE M v)) := by
  have HR := Lib.hid (rright_any A c M w _ h hl hll)
  by_cases hr : rightB M = true
  case neg =>
    rw [Bool.not_eq_true] at hr
    obtain ⟨e1, e2⟩ := applyB_no (M := M) (v := v) (by unfold applyB; rw [hr]; rfl)
    rw [e1, e2]
    rw [hr] at HR
    generalize M.length = N at *
    generalize v.length = m at *
    clear h hl hll hv hvl hr e1 e2
    go_enter Try.func32, Try.ntmps32
    go_wp2_with fail
    refine HR.out.mono ?_
    rintro e w1 ⟨rfl, q, hw⟩
    have Hb : Hid (Below w.heap.size w w1) := by rw [hw]; exact drewN_below (Below.refl _ _) q
    clear hw
    go_wp2_with fail
    go_ret2
    exact ⟨none, 0, rfl, RB.nil _ _ _, Hb.out⟩
  rw [hr] at HR
  obtain ⟨n, h1, h2, h3, h4, h5, h6, h7⟩ := right_facts hr
  by_cases hn : (M.headD []).length = v.length
  case neg =>
    obtain ⟨e1, e2⟩ := applyB_no (M := M) (v := v) (by unfold applyB; rw [decide_eq_false hn]; exact Bool.and_false _)
    rw [e1, e2]
    obtain ⟨b, o, rfl, hb⟩ := h.at_ (by omega)
    obtain ⟨A0, c0, q0, _, _⟩ := h.row h5
    rw [h6, Nat.add_zero] at q0
    rw [h6] at hn
    have hbb : (((v.length : Nat) : Int) != (n : Int)) = true := by simp; omega
    have h1' : (0 : Int) < ((M.length : Nat) : Int) := by omega
    generalize M.length = N at *
    generalize v.length = m at *
    clear h hl hll hv hvl hr h1 h2 h3 h4 h5 h6 h7 hn hb e1 e2
    go_enter Try.func32, Try.ntmps32
    go_wp2_with fail
    refine HR.out.mono ?_
    rintro e w1 ⟨rfl, q, hw⟩
    have Hb : Hid (Below w.heap.size w w1) := by rw [hw]; exact drewN_below (Below.refl _ _) q
    have q1 : w1.cell? ⟨b, o, none⟩ = some (.slice A0 n c0) := by rw [hw]; exact q0
    clear hw q0
    go_wp2_with fail
    go_ret2
    exact ⟨none, 0, rfl, RB.nil _ _ _, Hb.out⟩
  obtain ⟨e1, e2⟩ := applyB_yes (M := M) (v := v) (by unfold applyB; rw [hr, decide_eq_true hn]; rfl)
  rw [e1, e2]
  rw [hn] at h6
  subst h6
  obtain ⟨ds, Hds, hmd⟩ := make_run M.length (by omega)
  obtain ⟨b, o, rfl, hb⟩ := h.at_ (by omega)
  obtain ⟨A0, c0, q0, _, _⟩ := h.row h5
  rw [hn, Nat.add_zero] at q0
  have Hh := Lib.hid h
  have Hv := Lib.hid hv
  have Hb := Lib.hid hb
  have Hn := Lib.hid h7
  obtain ⟨N, hN⟩ : ∃ N, N = M.length := ⟨_, rfl⟩
  obtain ⟨n, hn'⟩ : ∃ n, n = v.length := ⟨_, rfl⟩
  have HN : Hid (N = M.length ∧ n = v.length) := ⟨hN, hn'⟩
  have hN1 : (N : Int) ≤ 255 := by omega
  have hn1 : (n : Int) ≤ 255 := by omega
  have hN0 : (0 : Int) < (N : Int) := by omega
  rw [← hN] at hmd HR ⊢
  rw [← hn'] at q0 ⊢
  clear h hl hll hv hvl hr h1 h2 h3 h4 h5 h7 hn hb e1 e2 hN hn'
  go_enter Try.func32, Try.ntmps32
  go_wp2_with fail
  refine HR.out.mono ?_
  rintro e w1 ⟨rfl, q, hw⟩
  have HB1 : Hid (Below w.heap.size w w1 ∧ w1.heap.size = w.heap.size) := by rw [hw]; exact ⟨drewN_below (Below.refl _ _) q, rfl⟩
  have q1 : w1.cell? ⟨b, o, none⟩ = some (.slice A0 n c0) := by rw [hw]; exact q0
  have Hst : Hid (AppRel w1 M v 0 0 (w1.alloc (.cells ds 5))) := by
    refine ⟨?_, (Below.refl _ _).alloc (Nat.le_refl _) _⟩
    have := heap_alloc_new w1 (.cells ds 5)
    unfold Blk
    rw [this, Hds.out, ← sumsK_start]
  have Hh1 : Hid (RM w1 w1.heap.size (some ⟨b, o, none⟩) M) := (Hh.out.below HB1.out.1).wide HB1.out.1.size
  have Hv1 : Hid (RB w1 w1.heap.size Av v) := (Hv.out.below HB1.out.1).wide HB1.out.1.size
  have Hlt1 : Hid (b < w1.heap.size) := by rw [HB1.out.2]; exact Hb.out
  clear hw q0 HR Hh Hv Hb
  go_wp2_with fail
  clear q1
  obtain ⟨g, hg⟩ : ∃ g, g = w1.heap.size := ⟨_, rfl⟩
  rw [← hg]
  have HG := Lib.hid hg
  clear hg
  go_loopw [7] (fun iv wr => ∃ i : Nat, iv = .int .i64 (i : Int) ∧ i ≤ N ∧ Hid (AppRel w1 M v i 0 wr)) (fun iv _ => N - (intOf iv).toNat)
  case atStart => exact ⟨0, rfl, Nat.zero_le _, Hst.out⟩
  case round =>
    obtain ⟨i, rfl, hi, hrel⟩ := hrel
    by_cases hlt : i < N
    · obtain ⟨r, hr⟩ : ∃ r, M[i]? = some r := ⟨_, List.getElem?_eq_getElem (by rw [← HN.out.1]; exact hlt)⟩
      obtain ⟨A', c', hc, hrb, _⟩ := Hh1.out.row hr
      have hb := Hlt1.out
      have hc0 : wr.cell? ⟨b, o + i, none⟩ = some (.slice A' r.length c') := (hrel.out.2.cell (p := ⟨b, o + i, none⟩) hb).trans hc
      rw [show r.length = n by rw [HN.out.2]; exact Hn.out i r hr] at hc0
      have hlt' : (i : Int) < (N : Int) := by omega
      have Hr : Hid (M.getD i [] = r ∧ r.length = n ∧ RB w1 w1.heap.size A' r) := ⟨by rw [List.getD_eq_getElem?_getD, hr]; rfl, by rw [HN.out.2]; exact Hn.out i r hr, hrb⟩
      have Hrel := Lib.hid hrel.out
      have Hc0 : Hid (∀ wz, Below w1.heap.size w1 wz → wz.cell? ⟨b, o + i, none⟩ = some (.slice A' n c')) := fun wz hz => by
        have := (hz.cell (p := ⟨b, o + i, none⟩) Hlt1.out).trans hc
        rw [show r.length = n by rw [HN.out.2]; exact Hn.out i r hr] at this
        exact this
      clear hr hb hc hrb hrel
      obtain ⟨wo, rfl⟩ : ∃ wo : World, wo = wr := ⟨_, rfl⟩
      clear hc0
      go_wp2_with fail
      go_loopw [8] (fun jv wz => ∃ j : Nat, jv = .int .i64 (j : Int) ∧ j ≤ n ∧ Hid (AppRel w1 M v i j wz)) (fun jv _ => n - (intOf jv).toNat)
      case atStart => exact ⟨0, rfl, Nat.zero_le _, Hrel.out⟩
      case round =>
        obtain ⟨j, rfl, hj, hrel⟩ := hrel
        by_cases hjl : j < n
        · have hjl' : (j : Int) < (n : Int) := by omega
          obtain ⟨b', o', rfl, hb'⟩ := Hr.out.2.2.flat (by have := Hr.out.2.1; omega)
          obtain ⟨bv', ov, rfl, hbv⟩ := Hv1.out.flat (by have := HN.out.2; omega)
          obtain ⟨x, hx⟩ : ∃ x, r[j]? = some x := ⟨_, List.getElem?_eq_getElem (by rw [Hr.out.2.1]; exact hjl)⟩
          obtain ⟨y, hy⟩ : ∃ y, v[j]? = some y := ⟨_, List.getElem?_eq_getElem (by rw [← HN.out.2]; exact hjl)⟩
          have k1 : wr.cell? ⟨b', o' + j, none⟩ = some (.int .u8 (x.toNat : Int)) := by
            obtain ⟨ad, e, _, hc⟩ := Hr.out.2.2 j x hx
            cases e
            rw [add_flat] at hc
            exact (hrel.out.2.cell (p := ⟨b', o' + j, none⟩) hb').trans hc
          have k2 : wr.cell? ⟨bv', ov + j, none⟩ = some (.int .u8 (y.toNat : Int)) := by
            obtain ⟨ad, e, _, hc⟩ := Hv1.out j y hy
            cases e
            rw [add_flat] at hc
            exact (hrel.out.2.cell (p := ⟨bv', ov + j, none⟩) hbv).trans hc
          obtain ⟨s, hs⟩ : ∃ s, s = dotK (M.getD i []) v j := ⟨_, rfl⟩
          have k3 : wr.cell? ⟨w1.heap.size, i, none⟩ = some (.int .u8 (s.toNat : Int)) := by
            have hget := sumsK_get M v i j i (by rw [← HN.out.1]; exact hlt)
            rw [if_neg (by omega), if_pos rfl, ← hs] at hget
            have hil : i < (sumsK M v i j).length := (List.getElem?_eq_some_iff.1 hget).1
            rw [hrel.out.1.cell hil]
            rw [List.getElem?_eq_getElem hil] at hget
            rw [Option.some.inj hget]
          have k4 : wr.frozen? ⟨w1.heap.size, i, none⟩ = false := hrel.out.1.frozen i
          rw [← HG.out] at k3 k4
          have HM : Hid (∀ W, Calls Try.prog 20 #[.int .u8 (x.toNat : Int), .int .u8 (y.toNat : Int)] W fun e w' => e = .returned (.int .u8 ((bm x y).toNat : Int)) ∧ w' = W) := fun W => by
            have := rmul_any x.toNat y.toNat W (u8_lt x) (u8_lt y)
            rw [← bm_nat] at this
            exact this.mono fun _ _ ⟨a, b⟩ => ⟨a, b.symm⟩
          have k5 := Hc0.out wr hrel.out.2
          have hxor : bits .xor .u8 (s.toNat : Int) ((bm x y).toNat : Int) = ((s ^^^ bm x y).toNat : Int) := by rw [bx_nat]; exact u8_xor_nat _ _ (u8_lt s) (u8_lt _)
          have Hnx : Hid (∀ q, AppRel w1 M v i (j + 1) ((wr.setCell ⟨g, i, none⟩ (.int .u8 ((s ^^^ bm x y).toNat : Int))).drewN q)) := fun q => by
            rw [HG.out]
            have q1 := hrel.out.1.set i (s ^^^ bm x y)
            rw [hs, sumsK_step M v i j x y (by rw [← HN.out.1]; exact hlt) (by rw [Hr.out.1, List.getD_eq_getElem?_getD, hx]; rfl) (by rw [List.getD_eq_getElem?_getD, hy]; rfl), ← hs] at q1
            have q2 := hrel.out.2.setCell (p := ⟨w1.heap.size, i, none⟩) (Nat.le_refl _) (.int .u8 ((s ^^^ bm x y).toNat : Int))
            exact ⟨q1, ⟨q2.os, q2.tape, q2.output, q2.size, q2.block⟩⟩
          generalize (s ^^^ bm x y).toNat = s2 at *
          generalize (bm x y).toNat = p2 at *
          generalize x.toNat = xn at *
          generalize y.toNat = yn at *
          generalize s.toNat = sn at *
          clear hx hy hs hrel hb' hbv hjl
          go_wp2_with fail
          refine wp_region_still_tail 20 (by kernel_rfl) (by kernel_rfl) ?_
          simp only [List.take_succ_cons, List.take_zero, List.drop_succ_cons, List.drop_zero]
          repeat (first | still_step | still_call (HM.out _))
          try refine wpStill_nil ?_
          change wpList _ _ _ _ _ wr.drew
          go_wp2_with fail
          go_roundw
          case rel => exact ⟨j + 1, by go_num, by omega, Hnx.out 1⟩
          case measure => simp [intOf]; omega
        · obtain rfl : j = n := by omega
          have Hnx : Hid (AppRel w1 M v (i + 1) 0 wr) := by
            have := hrel.out
            rw [← Hr.out.2.1, ← Hr.out.1] at this
            unfold AppRel at this ⊢
            rw [sumsK_next] at this
            exact this
          clear hjl hrel
          go_wp2_with fail
          go_roundw
          case rel => exact ⟨i + 1, by go_num, by omega, Hnx.out⟩
          case measure => simp [intOf]; omega
    · obtain rfl : i = N := by omega
      have Hd : Hid (Blk wr w1.heap.size (applyL M v) ∧ Below w1.heap.size w1 wr) := by
        have := hrel.out
        unfold AppRel at this
        rw [HN.out.1, sumsK_done] at this
        exact this
      clear hlt hrel
      go_wp2_with fail
      go_ret2
      rw [HG.out]
      exact tellsB_blk (by rw [apply_len]; exact HN.out.1) Hd.out.1 (HB1.out.1.trans (Hd.out.2.mono HB1.out.1.size))
end Go.Proofs.Ytbfbjmngcojaoaa
