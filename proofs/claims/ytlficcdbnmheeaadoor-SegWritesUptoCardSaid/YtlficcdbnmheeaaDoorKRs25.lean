/-
  The second saying's parity, walked.
-/
import Derived.Test.YtlficcdbnmheeaaDoorKRs8
namespace Go.Proofs.YtlficcdbnmheeaaDoor
open Go.RowKit

set_option maxRecDepth 20000
/-- both lists under way -/
structure ParB (w : World) (P Q : List UInt8) (wr : World) : Prop where
  one : Blk wr w.heap.size P
  two : Blk wr (w.heap.size + 1) Q
  bel : Below w.heap.size w wr
theorem ParB.set1 {w wr : World} {P Q : List UInt8} {i : Nat} {a : UInt8} (h : ParB w (P.set i a) Q wr) (hi : i < P.length) : wr.cell? ⟨w.heap.size, i, none⟩ = some (.int .u8 (a.toNat : Int)) ∧ wr.frozen? ⟨w.heap.size, i, none⟩ = false ∧ ∀ (q : Nat) (b : UInt8), ParB w (P.set i b) Q ((wr.setCell ⟨w.heap.size, i, none⟩ (.int .u8 (b.toNat : Int))).drewN q) := by
  obtain ⟨h1, h2, h3⟩ := blk_at h.one hi
  refine ⟨h1, h2, fun q b => ⟨h3 q b, ?_, drewN_below (h.bel.setCell (p := ⟨w.heap.size, i, none⟩) (Nat.le_refl _) _) q⟩⟩
  exact (Below.heap_setCell _ _ _ _ (by show w.heap.size + 1 ≠ w.heap.size; omega)).trans h.two
theorem ParB.set2 {w wr : World} {P Q : List UInt8} {i : Nat} {a : UInt8} (h : ParB w P (Q.set i a) wr) (hi : i < Q.length) : wr.cell? ⟨w.heap.size + 1, i, none⟩ = some (.int .u8 (a.toNat : Int)) ∧ wr.frozen? ⟨w.heap.size + 1, i, none⟩ = false ∧ ∀ (q : Nat) (b : UInt8), ParB w P (Q.set i b) ((wr.setCell ⟨w.heap.size + 1, i, none⟩ (.int .u8 (b.toNat : Int))).drewN q) := by
  obtain ⟨h1, h2, h3⟩ := blk_at h.two hi
  refine ⟨h1, h2, fun q b => ⟨?_, h3 q b, drewN_below (h.bel.setCell (p := ⟨w.heap.size + 1, i, none⟩) (Nat.le_succ _) _) q⟩⟩
  exact (Below.heap_setCell _ _ _ _ (by show w.heap.size ≠ w.heap.size + 1; omega)).trans h.one
theorem par_val {r : List UInt8} {S : Mtx} {n i N : Nat} (hr : r.length = N) (hN : N = S.length) (hl : ∀ (t : Nat) (l : List UInt8), S[t]? = some l → l.length = n) (hi : i < n) : (lin r S n)[i]? = some (dotK r (col S i) N) := by
  have hL := lin_length (r := r) (L := S) (n := n) (by omega) hl
  have e := List.getElem?_eq_getElem (show i < (lin r S n).length by omega)
  rw [e]
  have := lin_get (r := r) (by omega) hl i hi
  rw [List.getD_eq_getElem?_getD, e] at this
  have this' : (lin r S n)[i] = dot r (col S i) := this
  rw [this']
  unfold dot
  rw [hr]
set_option maxHeartbeats 1600000 in
theorem rparity_any (A : Option Addr) (c N n : Nat) (S : Mtx) (w : World) (h : RM w w.heap.size A S) (hN : N = S.length) (hN1 : 1 ≤ N) (hN2 : N ≤ 255) (hn1 : 1 ≤ n) (hn2 : n ≤ 1048576) (hl : ∀ (t : Nat) (l : List UInt8), S[t]? = some l → l.length = n) :
    Calls Tryd.prog 79 #[.slice A N c] w fun e w' => ∃ g, e = .returned (.slice (some ⟨g, 0, none⟩) 2 2) ∧ MatO w' w.heap.size w'.heap.size (.slice (some ⟨g, 0, none⟩) 2 2) (linM (pairsM N) S n) ∧ Below w.heap.size w w' := by
  obtain ⟨ds, Hds, hmd⟩ := make_run n (by omega)
  obtain ⟨b, o, rfl, hb⟩ := h.at_ (by omega)
  obtain ⟨A0, c0, q0, _, _⟩ := h.row (head_get (M := S) (by omega))
  have h00 : (S.headD []).length = n := hl 0 _ (head_get (M := S) (by omega))
  rw [h00, Nat.add_zero] at q0
  obtain ⟨P, hP⟩ : ∃ P, P = lin (List.replicate N 1) S n := ⟨_, rfl⟩
  obtain ⟨Q, hQ⟩ : ∃ Q, Q = lin ((List.range N).map pwr) S n := ⟨_, rfl⟩
  have hPl : P.length = n := by rw [hP]; exact lin_length (by simp; omega) hl
  have hQl : Q.length = n := by rw [hQ]; exact lin_length (by simp; omega) hl
  have HPQ : Hid (P.length = n ∧ Q.length = n ∧ linM (pairsM N) S n = [P, Q] ∧ (∀ i, i < n → P[i]? = some (dotK (List.replicate N 1) (col S i) N)) ∧ ∀ i, i < n → Q[i]? = some (dotK ((List.range N).map pwr) (col S i) N)) :=
    ⟨hPl, hQl, by rw [hP, hQ]; rfl, fun i hi => by rw [hP]; exact par_val (by simp) hN hl hi, fun i hi => by rw [hQ]; exact par_val (by simp) hN hl hi⟩
  have hw2 : ∀ W, W = (w.alloc (.cells ds 5)).alloc (.cells ds 5) → ParB w (partP P 0) (partP Q 0) W ∧ W.cell? ⟨b, o, none⟩ = some (.slice A0 n c0) := fun W hW => by
    have hB : Below w.heap.size w W := by rw [hW]; exact ((Below.refl _ _).alloc (Nat.le_refl _) _).alloc (by simp) _
    refine ⟨⟨?_, ?_, hB⟩, (hB.cell (p := ⟨b, o, none⟩) hb).trans q0⟩
    · rw [hW, partP_zero, hPl]
      refine Blk.alloc ?_ _
      unfold Blk
      rw [heap_alloc_new, Hds.out]
    · rw [hW, partP_zero, hQl]
      unfold Blk
      have := heap_alloc_new (w.alloc (.cells ds 5)) (.cells ds 5)
      rw [show (w.alloc (.cells ds 5)).heap.size = w.heap.size + 1 by simp] at this
      rw [this, Hds.out]
  have Hw2 := Lib.hid hw2
  have Hh := Lib.hid h
  have Hl := Lib.hid hl
  have HN := Lib.hid hN
  have q1 : (w.alloc (.cells ds 5)).cell? ⟨b, o, none⟩ = some (.slice A0 n c0) := (World.cell?_alloc_lt w _ ⟨b, o, none⟩ hb).trans q0
  have HB : Hid (b < w.heap.size ∧ 1 ≤ N ∧ 1 ≤ n ∧ n ≤ 1048576) := ⟨hb, hN1, hn1, hn2⟩
  have hN0 : (0 : Int) < (N : Int) := by omega
  have hn2' : (n : Int) ≤ 1048576 := by omega
  have hN2' : (N : Int) ≤ 255 := by omega
  clear h hl hN hP hQ hPl hQl hw2 h00 hb hn1 hn2 hN1 hN2
  go_enter Tryd.func79, Tryd.ntmps79
  go_wp2_with fail
  obtain ⟨W2, hW2⟩ : ∃ W2, W2 = (w.alloc (.cells ds 5)).alloc (.cells ds 5) := ⟨_, rfl⟩
  have Hst : Hid (ParB w (partP P 0) (partP Q 0) W2) := (Hw2.out W2 hW2).1
  try rw [← hW2]
  clear q0 q1 hmd Hw2 Hds hW2
  go_loopw [5] (fun iv wr => ∃ i : Nat, iv = .int .i64 (i : Int) ∧ i ≤ n ∧ Hid (ParB w (partP P i) (partP Q i) wr)) (fun iv _ => n - (intOf iv).toNat)
  case atStart => exact ⟨0, rfl, Nat.zero_le _, Hst.out⟩
  case round =>
    obtain ⟨i, rfl, hi, hrel⟩ := hrel
    by_cases hlt : i < n
    · have hlt' : (i : Int) < (n : Int) := by omega
      have Hi : Hid (i < (partP P i).length ∧ i < (partP Q i).length ∧ i < n) := ⟨by rw [partP_length _ (by have := HPQ.out.1; omega), HPQ.out.1]; exact hlt, by rw [partP_length _ (by have := HPQ.out.2.1; omega), HPQ.out.2.1]; exact hlt, hlt⟩
      have Hs0 : Hid (ParB w ((partP P i).set i (dotK (List.replicate N 1) (col S i) 0)) ((partP Q i).set i (dotK ((List.range N).map pwr) (col S i) 0)) wr) := by
        rw [show dotK (List.replicate N 1) (col S i) 0 = 0 from rfl, show dotK ((List.range N).map pwr) (col S i) 0 = 0 from rfl, set_same' (partP_get (by rw [HPQ.out.1]; exact hlt)), set_same' (partP_get (by rw [HPQ.out.2.1]; exact hlt))]
        exact hrel.out
      clear hrel hlt
      obtain ⟨wo, rfl⟩ : ∃ wo : World, wo = wr := ⟨_, rfl⟩
      go_wp2_with fail
      go_loopw [6, 7] (fun tv kv wz => ∃ k p : Nat, tv = .int .u8 (p : Int) ∧ kv = .int .i64 (k : Int) ∧ k ≤ N ∧ Hid (p = ex k ∧ ParB w ((partP P i).set i (dotK (List.replicate N 1) (col S i) k)) ((partP Q i).set i (dotK ((List.range N).map pwr) (col S i) k)) wz)) (fun _ kv _ => N - (intOf kv).toNat)
      case atStart => exact ⟨0, 1, rfl, rfl, Nat.zero_le _, rfl, Hs0.out⟩
      case round =>
        obtain ⟨k, p, rfl, rfl, hk, hrel⟩ := hrel
        by_cases hkl : k < N
        · have hkl' : (k : Int) < (N : Int) := by omega
          obtain ⟨hp, hr⟩ := hrel.out
          obtain ⟨l, hx⟩ : ∃ l, S[k]? = some l := ⟨_, List.getElem?_eq_getElem (by rw [← HN.out]; exact hkl)⟩
          have hll := Hl.out k l hx
          obtain ⟨x, hxi⟩ : ∃ x, l[i]? = some x := ⟨_, List.getElem?_eq_getElem (by rw [hll]; exact Hi.out.2.2)⟩
          obtain ⟨A1, c1, hc1, hr1, _⟩ := Hh.out.row hx
          obtain ⟨b1, o1, rfl, hb1⟩ := hr1.flat (by rw [hll]; exact HB.out.2.2.1)
          rw [hll] at hc1
          have hc2 : w.cell? ⟨b1, o1 + i, none⟩ = some (.int .u8 (x.toNat : Int)) := by
            obtain ⟨ad, e, _, hc⟩ := hr1 i x hxi
            cases e
            rw [add_flat] at hc
            exact hc
          have hcx : (col S i).getD k 0 = x := by rw [col_get hx, List.getD_eq_getElem?_getD, hxi]; rfl
          have n1 : dotK (List.replicate N 1) (col S i) k ^^^ x = dotK (List.replicate N 1) (col S i) (k + 1) := by
            show _ = dotK _ (col S i) k ^^^ bm ((List.replicate N (1 : UInt8)).getD k 0) ((col S i).getD k 0)
            rw [ones_get N k hkl, hcx, bm_one]
          have n2 : dotK ((List.range N).map pwr) (col S i) k ^^^ bm (pwr k) x = dotK ((List.range N).map pwr) (col S i) (k + 1) := by
            show _ = dotK _ (col S i) k ^^^ bm (((List.range N).map pwr).getD k 0) ((col S i).getD k 0)
            rw [pows_get N k hkl, hcx]
          have Hrd : Hid (∀ W, Below w.heap.size w W → W.cell? ⟨b, o + k, none⟩ = some (.slice (some ⟨b1, o1, none⟩) n c1) ∧ W.cell? ⟨b1, o1 + i, none⟩ = some (.int .u8 (x.toNat : Int))) := fun W hW => ⟨(hW.cell (p := ⟨b, o + k, none⟩) HB.out.1).trans hc1, (hW.cell (p := ⟨b1, o1 + i, none⟩) hb1).trans hc2⟩
          obtain ⟨s1, s2, s3⟩ := hr.set1 Hi.out.1
          have hr2 := s3 1 (dotK (List.replicate N 1) (col S i) (k + 1))
          obtain ⟨t1, t2, t3⟩ := hr2.set2 Hi.out.2.1
          obtain ⟨r1, r2⟩ := Hrd.out wr hr.bel
          obtain ⟨r3, r4⟩ := Hrd.out _ hr2.bel
          have HM : Hid (∀ W, Calls Tryd.prog 100 #[.int .u8 (p : Int), .int .u8 (x.toNat : Int)] W fun e w' => e = .returned (.int .u8 ((bm (pwr k) x).toNat : Int)) ∧ w' = W) := fun W => by rw [hp]; exact pwr_mul k x W
          have HT : Hid (∀ W, Calls Tryd.prog 100 #[.int .u8 (p : Int), .int .u8 2] W fun e w' => e = .returned (.int .u8 ((ex (k + 1) : Nat) : Int)) ∧ W = w') := fun W => by rw [hp]; exact pwr_next k W
          have e1 : bits .xor .u8 ((dotK (List.replicate N 1) (col S i) k).toNat : Int) (x.toNat : Int) = ((dotK (List.replicate N 1) (col S i) (k + 1)).toNat : Int) := by rw [u8_xor_nat _ _ (u8_lt _) (u8_lt _), ← bx_nat, n1]
          have e2 : bits .xor .u8 ((dotK ((List.range N).map pwr) (col S i) k).toNat : Int) ((bm (pwr k) x).toNat : Int) = ((dotK ((List.range N).map pwr) (col S i) (k + 1)).toNat : Int) := by rw [u8_xor_nat _ _ (u8_lt _) (u8_lt _), ← bx_nat, n2]
          have Hnx : Hid (∀ q, ParB w ((partP P i).set i (dotK (List.replicate N 1) (col S i) (k + 1))) ((partP Q i).set i (dotK ((List.range N).map pwr) (col S i) (k + 1))) ((((wr.setCell ⟨w.heap.size, i, none⟩ (.int .u8 ((dotK (List.replicate N 1) (col S i) (k + 1)).toNat : Int))).drew).setCell ⟨w.heap.size + 1, i, none⟩ (.int .u8 ((dotK ((List.range N).map pwr) (col S i) (k + 1)).toNat : Int))).drewN q)) := fun q => t3 q _
          generalize (dotK (List.replicate N 1) (col S i) (k + 1)).toNat = z1 at *
          generalize (dotK (List.replicate N 1) (col S i) k).toNat = z0 at *
          generalize (dotK ((List.range N).map pwr) (col S i) (k + 1)).toNat = y1 at *
          generalize (dotK ((List.range N).map pwr) (col S i) k).toNat = y0 at *
          generalize (bm (pwr k) x).toNat = mm at *
          generalize x.toNat = xn at *
          obtain ⟨W1, hW1⟩ : ∃ W1, W1 = (wr.setCell ⟨w.heap.size, i, none⟩ (.int .u8 (z1 : Int))).drew := ⟨_, rfl⟩
          have HF : Hid (W1.cell? ⟨w.heap.size + 1, i, none⟩ = some (.int .u8 (y0 : Int)) ∧ W1.frozen? ⟨w.heap.size + 1, i, none⟩ = false ∧ W1.cell? ⟨b, o + k, none⟩ = some (.slice (some ⟨b1, o1, none⟩) n c1) ∧ W1.cell? ⟨b1, o1 + i, none⟩ = some (.int .u8 (xn : Int))) := by
            rw [hW1]
            exact ⟨t1, t2, r3, r4⟩
          rw [← hW1] at Hnx
          have hc1n : (n : Int) ≤ (c1 : Int) ∨ True := .inr trivial
          clear hp hr hx hll hxi hc1 hr1 hb1 hc2 hcx n1 n2 s3 hr2 t1 t2 t3 r3 r4 hrel hkl
          go_wp2_with fail
          refine wp_region_still_tail 15 (by kernel_rfl) (by kernel_rfl) ?_
          simp only [List.take_succ_cons, List.take_zero, List.drop_succ_cons, List.drop_zero]
          repeat still_step
          try refine wpStill_nil ?_
          change wpList _ _ _ _ _ wr.drew
          have E2 := Lib.hid e2
          clear e2
          go_wp2_with fail
          rw [← hW1]
          obtain ⟨f1, f2, f3, f4⟩ := HF.out
          have e2 := E2.out
          clear hW1 r1 r2 s1 s2
          refine wp_region_still_tail 17 (by kernel_rfl) (by kernel_rfl) ?_
          simp only [List.take_succ_cons, List.take_zero, List.drop_succ_cons, List.drop_zero]
          repeat (first | still_step | still_call (HM.out _))
          try refine wpStill_nil ?_
          change wpList _ _ _ _ _ W1.drew
          clear e2
          go_wp2_with fail
          refine (HT.out _).mono ?_
          rintro e w9 ⟨rfl, rfl⟩
          go_wp2_with fail
          go_roundw
          case rel => exact ⟨k + 1, ex (k + 1), rfl, by go_num, by omega, rfl, Hnx.out 1⟩
          case measure => simp [intOf]; omega
        · obtain rfl : k = N := by omega
          have Hd : Hid (ParB w (partP P (i + 1)) (partP Q (i + 1)) wr) := by
            have := hrel.out.2
            rw [partP_step (HPQ.out.2.2.2.1 i Hi.out.2.2), partP_step (HPQ.out.2.2.2.2 i Hi.out.2.2)] at this
            exact this
          clear hrel hkl
          go_wp2_with fail
          go_roundw
          case rel => exact ⟨i + 1, by go_num, by omega, Hd.out⟩
          case measure => simp [intOf]; omega
    · obtain rfl : i = n := by omega
      have Hd : Hid (Blk wr w.heap.size P ∧ Blk wr (w.heap.size + 1) Q ∧ Below w.heap.size w wr) := by
        obtain ⟨h1, h2, h3⟩ := hrel.out
        have e1 := partP_done P
        have e2 := partP_done Q
        rw [HPQ.out.1] at e1
        rw [HPQ.out.2.1] at e2
        rw [e1] at h1
        rw [e2] at h2
        exact ⟨h1, h2, h3⟩
      clear hrel hlt
      go_wp2_with fail
      go_ret
      have hm := mat_two (lo := w.heap.size) Hd.out.1 Hd.out.2.1 (by omega) (Nat.le_refl _) (Nat.le_succ _) HPQ.out.1 HPQ.out.2.1 HB.out.2.2.1 HB.out.2.2.2
      refine ⟨_, rfl, ?_, Hd.out.2.2.alloc Hd.out.2.2.size _⟩
      rw [HPQ.out.2.2.1]
      exact hm
end Go.Proofs.YtlficcdbnmheeaaDoor

/-
  The second saying's Parity, there.
-/
namespace Go.Proofs.YtlficcdbnmheeaaDoor
open Go.RowKit

set_option maxRecDepth 20000
theorem par_bad {k : Nat} {S : Mtx} (h : parB k S = false) : parL k S = [] ∧ parE k S = 1 := by
  unfold parL parE
  rw [h]
  exact ⟨rfl, rfl⟩
theorem par_no {k : Nat} {S : Mtx} (hk : 1 ≤ k) (h : ¬ (S.length = k ∧ 1 ≤ (S.headD []).length ∧ ∀ (i : Nat) (l : List UInt8), S[i]? = some l → l.length = (S.headD []).length)) : parL k S = [] ∧ parE k S = 1 := by
  rcases hp : parB k S with _ | _
  · exact par_bad hp
  · exact absurd (par_facts hp hk) h
theorem tellsR_no {w w' : World} {k : Nat} {S : Mtx} (h : parL k S = [] ∧ parE k S = 1) (hb : Below w.heap.size w w') : TellsR w (parL k S) (parE k S) (.returned (.tuple #[.slice none 0 0, .int .i64 1])) w' := by
  rw [h.1, h.2]
  exact ⟨none, 0, rfl, RM.nil _ _ _, hb⟩
set_option maxHeartbeats 1600000 in
theorem rpar_any (k N c : Nat) (A : Option Addr) (S : Mtx) (w : World) (h : RM w w.heap.size A S) (hN : N = S.length) (hN2 : N ≤ 40) (hk1 : 1 ≤ k) (hk2 : k ≤ 32) (hl : ∀ (t : Nat) (l : List UInt8), S[t]? = some l → l.length ≤ 1048576) :
    Calls Tryd.prog 52 #[.int .i64 (k : Int), .slice A N c] w (TellsR w (parL k S) (parE k S)) := by
  by_cases hNk : N = k
  case neg =>
    have Hno := Lib.hid (par_no (S := S) hk1 (fun h => hNk (by rw [hN]; exact h.1)))
    have d1 : ((N : Int) != (k : Int)) = true := by simp; omega
    clear h hN hl hNk
    go_enter Tryd.func52, Tryd.ntmps52
    go_wp2_with fail
    go_ret2
    exact tellsR_no Hno.out (Below.refl _ _)
  subst hNk
  have d1 : ((N : Int) != (N : Int)) = false := by simp
  obtain ⟨n, hn⟩ : ∃ n, n = (S.headD []).length := ⟨_, rfl⟩
  obtain ⟨b, o, rfl, hb⟩ := h.at_ (by omega)
  have hS0 := head_get (M := S) (by omega)
  obtain ⟨A0, c0, q0, _, _⟩ := h.row hS0
  rw [← hn, Nat.add_zero] at q0
  have hnb := hl 0 _ hS0
  rw [← hn] at hnb
  have hN0 : (0 : Int) < (N : Int) := by omega
  by_cases hn0 : n = 0
  · subst hn0
    have Hno := Lib.hid (par_no (S := S) hk1 (fun h => by have := h.2.1; omega))
    clear h hN hl hn hS0
    go_enter Tryd.func52, Tryd.ntmps52
    go_wp2_with fail
    go_ret2
    exact tellsR_no Hno.out (Below.refl _ _)
  have d2 : ((n : Int) == 0) = false := by simp; omega
  have Hh := Lib.hid h
  have HB : Hid (N = S.length ∧ b < w.heap.size ∧ 1 ≤ n ∧ n ≤ 1048576 ∧ 1 ≤ N ∧ N ≤ 255 ∧ n = (S.headD []).length ∧ S[0]? = some (S.headD [])) := ⟨hN, hb, by omega, hnb, hk1, by omega, hn, hS0⟩
  have hnb' : (n : Int) ≤ 1048576 := by omega
  have hN40 : (N : Int) ≤ 40 := by omega
  have HP : Hid (∀ (q : Nat), (∀ (t : Nat) (l : List UInt8), S[t]? = some l → l.length = n) → Calls Tryd.prog 79 #[.slice (some ⟨b, o, none⟩) N c] (w.drewN q) fun e w' => ∃ g, e = .returned (.slice (some ⟨g, 0, none⟩) 2 2) ∧ TellsR w (parL N S) (parE N S) (.returned (.tuple #[.slice (some ⟨g, 0, none⟩) 2 2, .int .i64 0])) w') := fun q hla => by
    refine (rparity_any (some ⟨b, o, none⟩) c N n S (w.drewN q) (h.drewN q) hN hk1 (by omega) (by omega) hnb hla).mono ?_
    rintro e w' ⟨g, he, hm, hbel⟩
    refine ⟨g, he, ?_⟩
    have hp := par_yes hN.symm (by omega) hla
    have e1 : parL N S = linM (pairsM N) S n := by unfold parL; rw [if_pos hp, ← hn]
    have e2 : parE N S = 0 := by unfold parE; rw [if_pos hp]
    rw [e1, e2]
    exact ⟨some ⟨g, 0, none⟩, 2, rfl, mat_rm2 hm, (drewN_below (Below.refl _ w) q).trans hbel⟩
  clear h hN hl hn hS0 hb hnb hn0 hk1 hk2 hN2
  go_enter Tryd.func52, Tryd.ntmps52
  go_wp2_with fail
  clear d2
  go_loopw [6] (fun iv wr => ∃ i q : Nat, iv = .int .i64 (i : Int) ∧ 1 ≤ i ∧ i ≤ N ∧ Hid (wr = w.drewN q ∧ ∀ (t : Nat) (x : List UInt8), t < i → S[t]? = some x → x.length = n)) (fun iv _ => N - (intOf iv).toNat)
  case atStart => exact ⟨1, 0, rfl, Nat.le_refl _, HB.out.2.2.2.2.1, rfl, fun t x ht hx => by
    obtain rfl : t = 0 := by omega
    rw [HB.out.2.2.2.2.2.2.2] at hx
    cases hx
    exact HB.out.2.2.2.2.2.2.1.symm⟩
  case round =>
    obtain ⟨i, q, rfl, hi1, hi, hrel⟩ := hrel
    by_cases hlt : i < N
    · have hlt' : (i : Int) < (N : Int) := by omega
      obtain ⟨x, hx⟩ : ∃ x, S[i]? = some x := ⟨_, List.getElem?_eq_getElem (by have := HB.out.1; omega)⟩
      obtain ⟨Ax, cx, hcx, _, _⟩ := Hh.out.row hx
      have k0 : wr.cell? ⟨b, o, none⟩ = some (.slice A0 n c0) := by rw [hrel.out.1]; exact q0
      have k1 : wr.cell? ⟨b, o + i, none⟩ = some (.slice Ax x.length cx) := by rw [hrel.out.1]; exact hcx
      by_cases hxn : x.length = n
      case neg =>
        have d3 : ((x.length : Int) != (n : Int)) = true := by simp; omega
        have Hno := Lib.hid (par_no (S := S) HB.out.2.2.2.2.1 (fun h => hxn (by rw [HB.out.2.2.2.2.2.2.1]; exact h.2.2 i x hx)))
        have Hbe : Hid (Below w.heap.size w wr) := by rw [hrel.out.1]; exact drewN_below (Below.refl _ _) q
        generalize x.length = xl at *
        clear hx hcx hrel hlt hxn
        go_wp2_with fail
        go_quiet (fail)
        go_wp2_with fail
        go_ret2
        exact tellsR_no Hno.out (drewN_below Hbe.out _)
      have Hx : Hid (∀ nq, wr.drewN nq = w.drewN (q + nq) ∧ ∀ (t : Nat) (x : List UInt8), t < i + 1 → S[t]? = some x → x.length = n) := fun nq => ⟨by rw [hrel.out.1]; simp [World.drewN, Nat.add_assoc], fun t x' ht hx' => by
        by_cases e : t < i
        · exact hrel.out.2 t x' e hx'
        · obtain rfl : t = i := by omega
          rw [hx] at hx'
          cases hx'
          exact hxn⟩
      rw [hxn] at k1
      have d3 : ((n : Int) != (n : Int)) = false := by simp
      clear hx hcx hrel hlt hxn
      go_wp2_with fail
      go_quiet (fail)
      go_wp2_with fail
      go_roundw
      case rel => exact ⟨i + 1, q + nq, by go_num, by omega, by omega, Hx.out nq⟩
      case measure => simp [intOf]; omega
    · obtain rfl : i = N := by omega
      have HC := Lib.hid (HP.out q (fun t l hl => hrel.out.2 t l (by have := (List.getElem?_eq_some_iff.1 hl).1; have := HB.out; omega) hl))
      rw [← hrel.out.1] at HC
      clear hlt hrel
      go_wp2_with fail
      refine HC.out.mono ?_
      rintro e w9 ⟨g, rfl, ht⟩
      have Ht := Lib.hid ht
      clear ht
      go_wp2_with fail
      go_ret2
      exact Ht.out
end Go.Proofs.YtlficcdbnmheeaaDoor

/-
  The second saying's Parity, its good answer, with what it owns.
-/
namespace Go.Proofs.YtlficcdbnmheeaaDoor
open Go.RowKit

set_option maxRecDepth 20000
set_option maxHeartbeats 1600000 in
theorem rpar_ok (N c n : Nat) (A : Option Addr) (S : Mtx) (w : World) (h : RM w w.heap.size A S) (hN : N = S.length) (hk1 : 1 ≤ N) (hN2 : N ≤ 40) (hn1 : 1 ≤ n) (hn2 : n ≤ 1048576) (hla : ∀ (t : Nat) (l : List UInt8), S[t]? = some l → l.length = n) :
    Calls Tryd.prog 52 #[.int .i64 (N : Int), .slice A N c] w fun e w' => ∃ g, e = .returned (.tuple #[.slice (some ⟨g, 0, none⟩) 2 2, .int .i64 0]) ∧ MatO w' w.heap.size w'.heap.size (.slice (some ⟨g, 0, none⟩) 2 2) (parL N S) ∧ Below w.heap.size w w' := by
  have d1 : ((N : Int) != (N : Int)) = false := by simp
  obtain ⟨b, o, rfl, hb⟩ := h.at_ (by omega)
  have hS0 := head_get (M := S) (by omega)
  have hn : n = (S.headD []).length := (hla 0 _ hS0).symm
  obtain ⟨A0, c0, q0, _, _⟩ := h.row hS0
  rw [← hn, Nat.add_zero] at q0
  have hN0 : (0 : Int) < (N : Int) := by omega
  have d2 : ((n : Int) == 0) = false := by simp; omega
  have Hh := Lib.hid h
  have HB : Hid (N = S.length ∧ b < w.heap.size) := ⟨hN, hb⟩
  have hnb' : (n : Int) ≤ 1048576 := by omega
  have hN40 : (N : Int) ≤ 40 := by omega
  have Hla := Lib.hid hla
  have HP : Hid (∀ (q : Nat), Calls Tryd.prog 79 #[.slice (some ⟨b, o, none⟩) N c] (w.drewN q) fun e w' => ∃ g, e = .returned (.slice (some ⟨g, 0, none⟩) 2 2) ∧ MatO w' w.heap.size w'.heap.size (.slice (some ⟨g, 0, none⟩) 2 2) (parL N S) ∧ Below w.heap.size w w') := fun q => by
    refine (rparity_any (some ⟨b, o, none⟩) c N n S (w.drewN q) (h.drewN q) hN hk1 (by omega) (by omega) hn2 hla).mono ?_
    rintro e w' ⟨g, he, hm, hbel⟩
    have hp := par_yes hN.symm (by omega) hla
    have e1 : parL N S = linM (pairsM N) S n := by unfold parL; rw [if_pos hp, ← hn]
    rw [e1]
    exact ⟨g, he, hm, (drewN_below (Below.refl _ w) q).trans hbel⟩
  clear h hN hla hn hS0 hb hn1
  go_enter Tryd.func52, Tryd.ntmps52
  go_wp2_with fail
  clear d2
  go_loopw [6] (fun iv wr => ∃ i q : Nat, iv = .int .i64 (i : Int) ∧ 1 ≤ i ∧ i ≤ N ∧ Hid (wr = w.drewN q)) (fun iv _ => N - (intOf iv).toNat)
  case atStart => exact ⟨1, 0, rfl, Nat.le_refl _, hk1, rfl⟩
  case round =>
    obtain ⟨i, q, rfl, hi1, hi, hrel⟩ := hrel
    by_cases hlt : i < N
    · have hlt' : (i : Int) < (N : Int) := by omega
      obtain ⟨x, hx⟩ : ∃ x, S[i]? = some x := ⟨_, List.getElem?_eq_getElem (by have := HB.out.1; omega)⟩
      obtain ⟨Ax, cx, hcx, _, _⟩ := Hh.out.row hx
      have k0 : wr.cell? ⟨b, o, none⟩ = some (.slice A0 n c0) := by rw [hrel.out]; exact q0
      have k1 : wr.cell? ⟨b, o + i, none⟩ = some (.slice Ax n cx) := by rw [hrel.out, ← Hla.out i x hx]; exact hcx
      have Hx : Hid (∀ nq, wr.drewN nq = w.drewN (q + nq)) := fun nq => by rw [hrel.out]; simp [World.drewN, Nat.add_assoc]
      have d3 : ((n : Int) != (n : Int)) = false := by simp
      clear hx hcx hrel hlt
      go_wp2_with fail
      go_quiet (fail)
      go_wp2_with fail
      go_roundw
      case rel => exact ⟨i + 1, q + nq, by go_num, by omega, by omega, Hx.out nq⟩
      case measure => simp [intOf]; omega
    · obtain rfl : i = N := by omega
      have HC := Lib.hid (HP.out q)
      rw [← hrel.out] at HC
      clear hlt hrel
      go_wp2_with fail
      refine HC.out.mono ?_
      rintro e w9 ⟨g, rfl, ht⟩
      have Ht := Lib.hid ht
      clear ht
      go_wp2_with fail
      go_ret2
      exact ⟨_, rfl, Ht.out⟩
end Go.Proofs.YtlficcdbnmheeaaDoor
