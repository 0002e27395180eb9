/-
  RsFinds, walked.
-/
import Derived.Test.YtonihcgjepfpkaaKRs16
import Derived.Test.YtonihcgjepfpkaaKGf31
namespace Go.Proofs.Ytonihcgjepfpkaa
open Go.RowKit

set_option maxRecDepth 20000
theorem flip_nums {k n : Nat} (at' : Int) (hk : k ≤ 32) (hn1 : 1 ≤ n) (hn2 : n ≤ 4000) : ∃ m q i j : Nat, wrap64 (((k : Int) + 2) * (n : Int)) = (m : Int) ∧ ¬ (m : Int) = 0 ∧ (at'.tmod (m : Int) = (q : Int) ∨ (at'.tmod (m : Int) < 0 ∧ wrap64 (at'.tmod (m : Int) + (m : Int)) = (q : Int))) ∧
    i < k + 2 ∧ j < n ∧ (q : Int).tdiv (n : Int) = (i : Int) ∧ (q : Int).tmod (n : Int) = (j : Int) ∧ ((q : Int) / (n : Int) = (i : Int) ∧ IntKind.i64.wrap (i : Int) = (i : Int) ∧ wrap64 (i : Int) = (i : Int)) ∧ (j : Int) < (n : Int) ∧ (i : Int) < (k : Int) + 2 := by
  obtain ⟨m, hm⟩ : ∃ m, m = (k + 2) * n := ⟨_, rfl⟩
  have hm1 : 1 ≤ m := by
    rw [hm]
    exact Nat.mul_pos (by omega) (by omega)
  have hm2 : m ≤ 34 * 4000 := by
    rw [hm]
    exact Nat.mul_le_mul (show k + 2 ≤ 34 by omega) hn2
  have hwm : wrap64 (((k : Int) + 2) * (n : Int)) = (m : Int) := by
    have e9 : ((k : Int) + 2) * (n : Int) = (m : Int) := by rw [hm, Int.natCast_mul, Int.natCast_add]; rfl
    rw [e9]
    clear e9 hm
    unfold wrap64; omega
  obtain ⟨rb1, rb2⟩ := rem_small at' m hm1
  have hsplit : ∃ q : Nat, q < m ∧ (at'.tmod (m : Int) = (q : Int) ∨ (at'.tmod (m : Int) < 0 ∧ wrap64 (at'.tmod (m : Int) + (m : Int)) = (q : Int))) := by
    generalize at'.tmod (m : Int) = z at *
    by_cases h9 : z < 0
    · refine ⟨(z + (m : Int)).toNat, by omega, .inr ⟨h9, ?_⟩⟩
      rw [show ((z + (m : Int)).toNat : Int) = z + (m : Int) by omega]
      clear hm hwm
      unfold wrap64; omega
    · exact ⟨z.toNat, by omega, .inl (by omega)⟩
  obtain ⟨q, hq, hs⟩ := hsplit
  have hi : q / n < k + 2 := Nat.div_lt_of_lt_mul (by rw [Nat.mul_comm, ← hm]; exact hq)
  refine ⟨m, q, q / n, q % n, hwm, by omega, hs, hi, Nat.mod_lt _ (by omega), by rw [Int.ofNat_tdiv], by rw [Int.ofNat_tmod], ?_, Int.ofNat_lt.2 (Nat.mod_lt _ (by omega)), by generalize q / n = d at *; clear hs hwm; omega⟩
  rw [← Int.natCast_ediv]
  generalize q / n = d at *
  clear hm hwm hs
  have h2 : wrap64 (d : Int) = (d : Int) := by unfold wrap64; omega
  have h1 : IntKind.i64.wrap (d : Int) = (d : Int) := by rw [IntKind.wrap_i64]; omega
  exact ⟨rfl, h1, h2⟩
theorem flip_row {w : World} {lo hi g nn c i j n : Nat} {X : Mtx} (h : MatO w lo hi (.slice (some ⟨g, 0, none⟩) nn c) X) (hi' : i < X.length) (hj : j < n) (hl : ∀ (t : Nat) (l : List UInt8), X[t]? = some l → l.length = n) :
    ∃ (r : List UInt8) (b c' : Nat) (x : UInt8), X[i]? = some r ∧ r.length = n ∧ r[j]? = some x ∧ lo ≤ b ∧ w.cell? ⟨g, i, none⟩ = some (.slice (some ⟨b, 0, none⟩) n c') ∧ w.cell? ⟨b, j, none⟩ = some (.int .u8 (x.toNat : Int)) ∧ w.frozen? ⟨b, j, none⟩ = false ∧
      ∀ y : UInt8, MatO ((w.drewN 1).setCell ⟨b, j, none⟩ (.int .u8 (y.toNat : Int))) lo hi (.slice (some ⟨g, 0, none⟩) nn c) (X.set i (r.set j y)) := by
  obtain ⟨r, hr⟩ : ∃ r, X[i]? = some r := ⟨_, List.getElem?_eq_getElem hi'⟩
  have hrl := hl i r hr
  obtain ⟨b, c', hra, hset⟩ := (h.drewN 1).row hr
  obtain ⟨x, hx⟩ : ∃ x, r[j]? = some x := ⟨_, List.getElem?_eq_getElem (by omega)⟩
  have k1 := hra.head
  rw [hrl] at k1
  exact ⟨r, b, c', x, hr, hrl, hx, hra.low, k1, hra.cells j x hx, hra.free j, fun y => hset j y⟩
set_option maxHeartbeats 8000000 in
theorem rsFinds_any (A : Option Addr) (cA Nb : Nat) (a : Mtx) (at' : Int) (y8 : UInt8) (w : World) (ha : RM w w.heap.size A a) (hNa : Nb = a.length) (hla : a.length ≤ 1048576) (hra : ∀ (k : Nat) (l : List UInt8), a[k]? = some l → l.length ≤ 1048576) :
    Calls Try.prog 5 #[.slice A Nb cA, .int .i64 at', .int .u8 (y8.toNat : Int)] w fun e w' => e = .returned (.bool true) ∧ Below w.heap.size w w' := by
  have Hk := Lib.hid (known6_any w)
  have HFa : Hid (∀ W, Below w.heap.size w W → Calls Try.prog 9 #[.slice A Nb cA] W fun e w' => e = .returned (.bool (fewS a)) ∧ W = w') := fun W hW => by rw [hNa]; exact few6_any A cA a W _ (ha.below hW) hla hra
  have Ha := Lib.hid ha
  have HN := Lib.hid hNa
  have hNa' : (Nb : Int) ≤ 1048576 := by omega
  clear ha hNa hla hra
  go_enter Try.func5, Try.ntmps5
  go_wp2_with fail
  refine Hk.out.mono ?_
  rintro e w1 ⟨rfl, hb1⟩
  have Hb1 := Lib.hid hb1
  have HFa1 := Lib.hid (HFa.out w1 hb1)
  clear hb1 Hk HFa
  by_cases c1 : (Nb : Int) < 1
  · go_wp2_with fail
    go_ret
    exact ⟨rfl, Hb1.out⟩
  by_cases c2 : (32 : Int) < (Nb : Int)
  · go_wp2_with fail
    go_ret
    exact ⟨rfl, Hb1.out⟩
  rcases hfa : fewS a with _ | _
  · rw [hfa] at HFa1
    go_wp2_with fail
    refine HFa1.out.mono ?_
    rintro e w2 ⟨rfl, rfl⟩
    go_wp2_with fail
    go_ret
    exact ⟨rfl, Hb1.out⟩
  rw [hfa] at HFa1
  obtain ⟨fa1, fa2⟩ := few_facts hfa
  obtain ⟨n, hn⟩ : ∃ n, n = (a.headD []).length := ⟨_, rfl⟩
  obtain ⟨ba, oa, rfl, hba⟩ := Ha.out.at_ (by have := HN.out; omega)
  have ha0 := head_get (M := a) (by have := HN.out; omega)
  obtain ⟨A0, c0, q0, _, _⟩ := Ha.out.row ha0
  rw [← hn, Nat.add_zero] at q0
  have hn4 : n ≤ 4000 := by rw [hn]; have := sumS_le ha0; omega
  have Hq0 : Hid (∀ W, Below w.heap.size w W → W.cell? ⟨ba, oa, none⟩ = some (.slice A0 n c0)) := fun W hW => (hW.cell (p := ⟨ba, oa, none⟩) hba).trans q0
  have q1 := Hq0.out w1 Hb1.out
  by_cases hn0 : n = 0
  · subst hn0
    clear q0 hn ha0
    go_wp2_with fail
    refine HFa1.out.mono ?_
    rintro e w2 ⟨rfl, rfl⟩
    go_wp2_with fail
    go_ret
    exact ⟨rfl, Hb1.out⟩
  have c6 : ((n : Int) == 0) = false := by simp; omega
  by_cases hb0 : y8 = 0
  · subst hb0
    have z0 : ((0 : UInt8).toNat : Int) = 0 := rfl
    rw [z0]
    clear q0 hn ha0 z0
    go_wp2_with fail
    refine HFa1.out.mono ?_
    rintro e w2 ⟨rfl, rfl⟩
    go_wp2_with fail
    go_ret
    exact ⟨rfl, Hb1.out⟩
  have c7 : ((y8.toNat : Int) == 0) = false := by
    have : y8.toNat ≠ 0 := fun e => hb0 (UInt8.toNat_inj.1 e)
    simp; omega
  have Hy8 : Hid (y8 ≠ 0) := hb0
  clear hb0
  have Hn : Hid (n = (a.headD []).length ∧ 1 ≤ n ∧ n ≤ 4000 ∧ 1 ≤ Nb ∧ Nb ≤ 32 ∧ ba < w.heap.size ∧ a[0]? = some (a.headD [])) := ⟨hn, by omega, hn4, by omega, by omega, hba, ha0⟩
  have hn' : (n : Int) ≤ 4000 := by omega
  have hN32 : (Nb : Int) ≤ 32 := by omega
  clear q0 hn ha0 hfa fa1 fa2 hn4 hn0 hba c2 hNa'
  go_wp2_with fail
  refine HFa1.out.mono ?_
  rintro e w2 ⟨rfl, rfl⟩
  go_wp2_with fail
  have e1 : decide ((Nb : Int) < 1) = false := by simp; omega
  have e2 : decide ((32 : Int) < (Nb : Int)) = false := by simp; omega
  simp only [e1, e2, Bool.or_false]
  clear e1 e2 q1 HFa1
  go_loopw [8] (fun iv wr => ∃ i q : Nat, iv = .int .i64 (i : Int) ∧ i ≤ Nb ∧ Hid (wr = w1.drewN q ∧ ∀ (t : Nat) (x : List UInt8), t < i → a[t]? = some x → x.length = n)) (fun iv _ => Nb - (intOf iv).toNat)
  case atStart => exact ⟨0, 0, rfl, Nat.zero_le _, by simp [World.drewN], fun t x ht => by omega⟩
  case round =>
    obtain ⟨i, q, rfl, hi, hrel⟩ := hrel
    have Hbe : Hid (Below w.heap.size w wr) := by rw [hrel.out.1]; exact drewN_below Hb1.out q
    by_cases hlt : i < Nb
    · have hlt' : (i : Int) < (Nb : Int) := by omega
      obtain ⟨x, hx⟩ : ∃ x, a[i]? = some x := ⟨_, List.getElem?_eq_getElem (by have := HN.out; omega)⟩
      obtain ⟨Ax, cx, hcx, _, _⟩ := Ha.out.row hx
      have k0 := Hq0.out wr Hbe.out
      have k1 : wr.cell? ⟨ba, oa + i, none⟩ = some (.slice Ax x.length cx) := (Hbe.out.cell (p := ⟨ba, oa + i, none⟩) Hn.out.2.2.2.2.2.1).trans hcx
      by_cases hxn : x.length = n
      case neg =>
        have d1 : ((x.length : Int) != (n : Int)) = true := by simp; omega
        generalize x.length = xl at *
        clear hx hcx hrel hlt hxn
        go_wp2_with fail
        go_quiet (fail)
        go_wp2_with fail
        go_ret
        exact ⟨rfl, drewN_below Hbe.out _⟩
      have Hx : Hid (∀ nq, wr.drewN nq = w1.drewN (q + nq) ∧ ∀ (t : Nat) (x : List UInt8), t < i + 1 → a[t]? = some x → x.length = n) := fun nq => ⟨by rw [hrel.out.1]; simp [World.drewN, Nat.add_assoc], fun t x' ht hx' => by
        by_cases e : t < i
        · exact hrel.out.2 t x' e hx'
        · obtain rfl : t = i := by omega
          rw [hx] at hx'
          cases hx'
          exact hxn⟩
      rw [hxn] at k1
      have d1 : ((n : Int) != (n : Int)) = false := by simp
      clear hx hcx hrel hlt hxn
      go_wp2_with fail
      go_quiet (fail)
      go_wp2_with fail
      go_roundw
      case rel => exact ⟨i + 1, q + nq, by go_num, by omega, Hx.out nq⟩
      case measure => simp [intOf]; omega
    · obtain rfl : i = Nb := by omega
      have hla : ∀ (t : Nat) (l : List UInt8), a[t]? = some l → l.length = n := fun t l hl => hrel.out.2 t l (by have := (List.getElem?_eq_some_iff.1 hl).1; have := HN.out; omega) hl
      have hbe := Hbe.out
      obtain ⟨w3, hw3⟩ : ∃ w3, w3 = wr.alloc (.cells #[.int .i64 (i : Int)] 47) := ⟨_, rfl⟩
      have HNw : Hid (Calls Try.prog 10 #[.int .i64 (i : Int)] wr fun e w' => e = .returned (.tuple #[.pointer (some ⟨wr.heap.size, 0, none⟩), .int .i64 0]) ∧ w' = w3) := by rw [hw3]; exact new_yes i wr (by omega) (by omega)
      have hb3 : Below wr.heap.size wr w3 := by rw [hw3]; exact (Below.refl _ _).alloc (Nat.le_refl _) _
      have hc3 : w3.cell? ⟨wr.heap.size, 0, none⟩ = some (.int .i64 (i : Int)) := by rw [hw3]; exact cell_new _ _ _
      have hs3 : wr.heap.size < w3.heap.size := World.block_lt_of_cell? _ _ hc3
      have hb03 : Below w.heap.size w w3 := hbe.trans (hb3.mono hbe.size)
      have HPar : Hid (Calls Try.prog 12 #[.pointer (some ⟨wr.heap.size, 0, none⟩), .slice (some ⟨ba, oa, none⟩) i cA] w3 fun e w' => ∃ A8 c8, e = .returned (.tuple #[.slice A8 2 c8, .int .i64 0]) ∧ MatO w' w3.heap.size w'.heap.size (.slice A8 2 c8) (linM (pairsM i) a n) ∧ Below w3.heap.size w3 w') := by
        have := parity_any wr.heap.size i i cA (some ⟨ba, oa, none⟩) a w3 hc3 ((Ha.out.below hb03).wide hb03.size) HN.out (by omega) (by omega) (by omega) (fun t l hl => by rw [hla t l hl]; have := Hn.out; omega)
        have hp := par_yes HN.out.symm Hn.out.2.1 hla
        have e1 : parL i a = linM (pairsM i) a n := by unfold parL; rw [if_pos hp, ← Hn.out.1]
        have e2 : parE i a = 0 := by unfold parE; rw [if_pos hp]
        rw [e1, e2] at this
        refine this.mono fun e w' hx => ?_
        obtain ⟨A8, c8, g1, _, g2, g3⟩ := hx.rm
        exact ⟨A8, c8, g1, g2, g3⟩
      have H3 : Hid (Below w.heap.size w w3 ∧ w3.cell? ⟨wr.heap.size, 0, none⟩ = some (.int .i64 (i : Int)) ∧ wr.heap.size < w3.heap.size) := ⟨hb03, hc3, hs3⟩
      have Hla := Lib.hid hla
      clear hla hbe hw3 hb3 hc3 hs3 hb03 hlt hrel
      go_wp2_with fail
      refine HNw.out.mono ?_
      rintro e w' ⟨rfl, rfl⟩
      go_wp2_with fail
      refine HPar.out.mono ?_
      rintro e w4 ⟨A4, c4, rfl, r4, b4⟩
      have Hb4 : Hid (Below w.heap.size w w4 ∧ Below w'.heap.size w' w4) := ⟨H3.out.1.trans (b4.mono H3.out.1.size), b4⟩
      obtain ⟨b4', c4', e4, _, hb4lo, hb4hi, hb4lt, _⟩ := r4.head (by simp [linM, pairsM])
      cases e4
      have hP2 : (linM (pairsM i) a n).length = 2 := rfl
      have Hp4 : Hid (MatO w4 w'.heap.size w4.heap.size (.slice (some ⟨b4', 0, none⟩) 2 c4) (linM (pairsM i) a n) ∧ w'.heap.size ≤ w4.heap.size) := ⟨r4, b4.size⟩
      have Hst : Hid (MatO w4 w4.heap.size w4.heap.size (.slice none 0 0) (a.take 0) ∧ Below w4.heap.size w4 w4) := ⟨MatO.none _ _ _, Below.refl _ _⟩
      have hbal : ba < w4.heap.size := by have := Hb4.out.1.size; have := Hn.out.2.2.2.2.2.1; omega
      have Hra : Hid (∀ (t : Nat) (l : List UInt8), a[t]? = some l → ∃ A' c', w4.cell? ⟨ba, oa + t, none⟩ = some (.slice A' l.length c') ∧ RB w4 w.heap.size A' l) := fun t l hl => by
        obtain ⟨A', c', h1, h2, _⟩ := (Ha.out.below Hb4.out.1).row hl
        exact ⟨A', c', h1, h2⟩
      clear r4 b4 HPar HNw hP2 hb4lo hb4hi hb4lt
      go_wp2_with fail
      obtain ⟨wo, rfl⟩ : ∃ wo : World, wo = wr := ⟨_, rfl⟩
      obtain ⟨w3, rfl⟩ : ∃ w3 : World, w3 = w' := ⟨_, rfl⟩
      go_loopw [13, 14] (fun vv iv wz => ∃ (v : Value) (t : Nat), vv = v ∧ iv = .int .i64 (t : Int) ∧ t ≤ i ∧ Hid (MatO wz w4.heap.size wz.heap.size v (a.take t) ∧ Below w4.heap.size w4 wz)) (fun _ iv _ => i - (intOf iv).toNat)
      case atStart => exact ⟨_, 0, rfl, rfl, Nat.zero_le _, Hst.out⟩
      case round =>
        obtain ⟨v, k, rfl, rfl, hk, hrel⟩ := hrel
        by_cases hlt : k < i
        · have hlt' : (k : Int) < (i : Int) := by omega
          obtain ⟨x, hx⟩ : ∃ x, a[k]? = some x := ⟨_, List.getElem?_eq_getElem (by have := HN.out; omega)⟩
          have hln := Hla.out k x hx
          obtain ⟨A', c', hc, hrb⟩ := Hra.out k x hx
          have kl : (wr.alloc (.cells #[] 5)).cell? ⟨ba, oa + k, none⟩ = some (.slice A' x.length c') := (World.cell?_alloc_lt wr _ ⟨ba, oa + k, none⟩ (Nat.lt_of_lt_of_le hbal hrel.out.2.size)).trans ((hrel.out.2.cell (p := ⟨ba, oa + k, none⟩) hbal).trans hc)
          have Hrb : Hid (RB wr wr.heap.size A' x ∧ x.length ≤ 4000) := ⟨(hrb.wide Hb4.out.1.size |>.below hrel.out.2).wide hrel.out.2.size, by rw [hln]; exact Hn.out.2.2.1⟩
          have HSt : Hid (∀ rv w1, Own w1 wr.heap.size rv x → Below wr.heap.size wr w1 → ∃ rows : List Value, OwnV (w1.alloc (.cells #[rv] 41)) w4.heap.size 41 u13 rows ∧ rows.length = k ∧ w4.heap.size ≤ w1.heap.size ∧
              ∀ v' w', OwnV w' w4.heap.size 41 v' (rows ++ [rv]) → (w1.alloc (.cells #[rv] 41)).grownBy w' u13.ownBlock → (v'.ownBlock = u13.ownBlock ∨ v'.ownBlock = some (w1.alloc (.cells #[rv] 41)).heap.size) → MatO w' w4.heap.size w'.heap.size v' (a.take (k + 1)) ∧ Below w4.heap.size w4 w') := fun rv w1 ho hb => by
            obtain ⟨rows, r1, r2, r3⟩ := matO_step hrel.out (by rw [hln]; exact Hn.out.2.1) ho hb
            refine ⟨rows, r1, ?_, Nat.le_trans hrel.out.2.size hb.size, ?_⟩
            · rw [r2, List.length_take]
              have := (List.getElem?_eq_some_iff.1 hx).1
              omega
            · rw [List.take_add_one, hx]
              exact r3
          have hk32 : k ≤ 32 := by omega
          clear hx hc hrb hrel hlt hln
          go_wp2_with (first
            | (at_builtin; (refine app_bytes rfl (.tmp 78) (.tmp 82) rfl wr.heap.size _ [] rfl (Own.made wr _ (Nat.le_refl _)) _ A' x.length c' x rfl rfl (Hrb.out.1.alloc (Nat.le_refl _) _) (by have := Hrb.out.2; simp; omega) (by simp) ?_); intro rv w1 hown hbel _; obtain ⟨A9, c9, rfl, _⟩ := hown.rb; obtain ⟨rows, r1, r2, r3, r4⟩ := HSt.out _ w1 (by simpa using hown) (((Below.refl _ _).alloc (Nat.le_refl _) _).trans hbel); have Hr1 := Lib.hid r1; have Hr2 := Lib.hid r2; have Hr3 := Lib.hid r3; have Hr4 := Lib.hid r4; clear r1 r2 r3 r4 hown hbel HSt kl)
            | (at_builtin; go_must (refine app_one rfl (.tmp 77) (.tmp 84) 22 41 rfl Try.underlying22 (.slice none 0 0) 24 info_row rfl w4.heap.size _ rows rfl Hr1.out ⟨w1.heap.size, 0, none⟩ 1 _ rfl (cell_new _ _ _) rfl (by have := Hr2.out; omega) (by have := Hr2.out; omega) (by have := Hr3.out; simp; omega) ?_); intro v9 W9 hown9 hg9 hb9; have Hn9 := Lib.hid (Hr4.out v9 W9 hown9 hg9 hb9); clear hown9 hg9 hb9))
          go_roundw
          case rel => exact ⟨v9, k + 1, rfl, by go_num, by omega, Hn9.out⟩
          case measure => simp [intOf]; omega
        obtain rfl : k = i := by omega
        have hak : a.take k = a := List.take_of_length_le (by have := HN.out; omega)
        obtain ⟨rows, prow, j1, j2, j3, j4, j5, j6⟩ := mat_join hrel.out.1 (Hp4.out.1.below hrel.out.2) (Nat.le_refl _) Hp4.out.2
        rw [hak] at j2 j6
        have Hj : Hid (OwnV wr w4.heap.size 41 u13 rows ∧ k = rows.length ∧ 2 = prow.length ∧ (∀ (j : Nat) (u : Value), prow[j]? = some u → wr.cell? ⟨b4', j, none⟩ = some u) ∧ (∀ u ∈ prow, u.oneCell' = true) ∧ Below w4.heap.size w4 wr) := ⟨j1, by rw [j2]; exact HN.out, by rw [j3]; rfl, j4, j5, hrel.out.2⟩
        have HJ : Hid (∀ v' w', OwnV w' w4.heap.size 41 v' (rows ++ prow) → wr.grownBy w' u13.ownBlock → MatO w' w3.heap.size w'.heap.size v' (allD k n a)) := j6
        clear hrel hlt j1 j2 j3 j4 j5 j6 hak
        go_wp2_with (at_builtin; go_must (refine app_many rfl (.tmp 86) (.tmp 87) 22 41 rfl Try.underlying22 (.slice none 0 0) 24 info_row rfl w4.heap.size _ rows rfl Hj.out.1 ⟨b4', 0, none⟩ 2 c4 prow rfl Hj.out.2.2.1 (fun j u hj => by rw [add_flat, Nat.zero_add]; exact Hj.out.2.2.2.1 j u hj) Hj.out.2.2.2.2.1 (by have := Hj.out.2; omega) (by have := Hj.out.2; omega) Hj.out.2.2.2.2.2.size ?_); intro v6 w6 hown hg _; have H6 : Hid (MatO w6 w3.heap.size w6.heap.size v6 (allD k n a) ∧ Below w4.heap.size w4 w6) := ⟨HJ.out v6 w6 hown hg, Hj.out.2.2.2.2.2.grown hg Hj.out.2.2.2.2.2.size (fun g hg => (Hj.out.1.ge g hg).1)⟩; clear hown hg)
        have hXl := allD_length (n := n) HN.out.symm
        obtain ⟨g6, c6', e6, hc6, hg61, _, hg62, _⟩ := H6.out.1.head (by rw [hXl]; omega)
        rw [hXl] at e6 hc6
        subst e6
        have Hkk : Hid (1 ≤ k ∧ k ≤ 32 ∧ k + 2 ≤ c6') := ⟨Hn.out.2.2.2.1, Hn.out.2.2.2.2.1, hc6⟩
        have HChk : Hid (∀ (S : Mtx) (W : World), MatO W w3.heap.size w6.heap.size (.slice (some ⟨g6, 0, none⟩) (k + 2) c6') S → S.length = k + 2 → (∀ (t : Nat) (l : List UInt8), S[t]? = some l → l.length = n) → Below w3.heap.size w3 W →
            Calls Try.prog 18 #[.pointer (some ⟨wo.heap.size, 0, none⟩), .slice (some ⟨g6, 0, none⟩) (k + 2) c6'] W fun e w' => e = .returned (.tuple #[.bool (chkA k S), .int .i64 (chkE k S)]) ∧ Below W.heap.size W w') := fun S W h1 h2 h3 h4 =>
          check_any wo.heap.size k (k + 2) c6' (some ⟨g6, 0, none⟩) S W ((h4.cell (p := ⟨wo.heap.size, 0, none⟩) H3.out.2.2).trans H3.out.2.1) (mat_rm2 h1) h2.symm hc6 (by have := Hkk.out; omega) Hkk.out.1 (by have := Hkk.out; omega) (fun t l hl => by rw [h3 t l hl]; have := Hn.out; omega)
        have Hb36 : Hid (Below w3.heap.size w3 w6) := Hb4.out.2.trans (H6.out.2.mono Hp4.out.2)
        have HC1 := Lib.hid (HChk.out _ w6 H6.out.1 hXl (fun t l hl => allD_row HN.out.symm Hla.out hl) Hb36.out)
        obtain ⟨z1, z2⟩ := chk_all Hkk.out.1 Hn.out.2.1 HN.out.symm Hla.out
        rw [z1, z2] at HC1
        clear z1 z2 hXl hc6 hg61 hg62
        refine HC1.out.mono ?_
        rintro e w7 ⟨rfl, b7⟩
        have H7 : Hid (MatO w7 w3.heap.size w6.heap.size (.slice (some ⟨g6, 0, none⟩) (k + 2) c6') (allD k n a) ∧ Below w3.heap.size w3 w7) := ⟨H6.out.1.below b7, Hb36.out.trans (b7.mono Hb36.out.size)⟩
        have q7 := Hq0.out w7 (H3.out.1.trans (H7.out.2.mono H3.out.1.size))
        clear b7 HC1
        obtain ⟨m, q9, i9, j9, hwm, hm0, hs9, hi9', hj9', e1, e2, e1', hj9i, hi9i⟩ := flip_nums (k := k) (n := n) at' Hkk.out.2.1 Hn.out.2.1 Hn.out.2.2.1
        have hn0 : ¬ (n : Int) = 0 := fun e => by have := Hn.out.2.1; rw [Int.ofNat_eq_zero.1 e] at this; exact absurd this (by decide)
        obtain ⟨r9, bb, cb, x9, hr9, hrl, hx9, hlow, k1, k2, k3, hset⟩ := flip_row H7.out.1 (i := i9) (j := j9) (n := n) (by rw [allD_length HN.out.symm]; exact hi9') hj9' (fun t l hl => allD_row HN.out.symm Hla.out hl)
        have kx : bits .xor .u8 (x9.toNat : Int) (y8.toNat : Int) = ((x9 ^^^ y8).toNat : Int) := by
          rw [u8_xor_nat _ _ (u8_lt x9) (u8_lt y8), bx_nat]
        have hb8 : Below w3.heap.size w3 ((w7.drewN 1).setCell ⟨bb, j9, none⟩ (.int .u8 ((x9 ^^^ y8).toNat : Int))) := (drewN_below H7.out.2 1).setCell (p := ⟨bb, j9, none⟩) hlow _
        have HC2 := Lib.hid (HChk.out _ _ (hset (x9 ^^^ y8)) (by rw [List.length_set]; exact allD_length HN.out.symm) (fun t l hl => by
          by_cases e : i9 = t
          · subst e
            rw [List.getElem?_set_self (List.getElem?_eq_some_iff.1 hr9).1] at hl
            cases hl
            rw [List.length_set]; exact hrl
          · rw [List.getElem?_set_ne e] at hl
            exact allD_row HN.out.symm Hla.out hl) hb8)
        obtain ⟨z1, z2⟩ := chk_no (y := x9 ^^^ y8) Hkk.out.1 Hn.out.2.1 HN.out.symm Hla.out hr9 hj9' (by rw [List.getD_eq_getElem?_getD, hx9]; exact bx_ne x9 y8 Hy8.out)
        rw [z1, z2] at HC2
        have Hfin : Hid (∀ W, Below ((w7.drewN 1).setCell ⟨bb, j9, none⟩ (.int .u8 ((x9 ^^^ y8).toNat : Int))).heap.size ((w7.drewN 1).setCell ⟨bb, j9, none⟩ (.int .u8 ((x9 ^^^ y8).toNat : Int))) W → Below w.heap.size w W) := fun W h => H3.out.1.trans ((hb8.trans (h.mono hb8.size)).mono H3.out.1.size)
        have HF : Hid (w7.cell? ⟨g6, i9, none⟩ = some (.slice (some ⟨bb, 0, none⟩) n cb) ∧ w7.cell? ⟨bb, j9, none⟩ = some (.int .u8 (x9.toNat : Int)) ∧ w7.frozen? ⟨bb, j9, none⟩ = false ∧ bits .xor .u8 (x9.toNat : Int) (y8.toNat : Int) = ((x9 ^^^ y8).toNat : Int) ∧ ¬ (n : Int) = 0 ∧
          (q9 : Int).tdiv (n : Int) = (i9 : Int) ∧ (q9 : Int).tmod (n : Int) = (j9 : Int) ∧ ((q9 : Int) / (n : Int) = (i9 : Int) ∧ IntKind.i64.wrap (i9 : Int) = (i9 : Int) ∧ wrap64 (i9 : Int) = (i9 : Int)) ∧ (j9 : Int) < (n : Int) ∧ (i9 : Int) < (k : Int) + 2) := ⟨k1, k2, k3, kx, hn0, e1, e2, e1', hj9i, hi9i⟩
        clear z1 z2 hset hlow hrl hr9 hx9 hb8 hi9' hj9' k1 k2 k3 kx hn0 e1 e2 e1' hj9i hi9i
        rcases hs9 with t1 | ⟨t1, t2⟩
        · have t2 : ¬ (q9 : Int) < 0 := fun h => absurd h (Int.not_lt.2 (Int.natCast_nonneg q9))
          go_wp2_with fail
          obtain ⟨k1, k2, k3, kx, hn0, e1, e2, ⟨e3, e4, e5⟩, hj9i, hi9i⟩ := HF.out
          have hn0' : ¬ n = 0 := fun h => hn0 (congrArg Int.ofNat h)
          refine wp_region_still_tail 35 (by kernel_rfl) (by kernel_rfl) ?_
          simp only [List.take_succ_cons, List.take_zero, List.drop_succ_cons, List.drop_zero]
          repeat still_step
          refine wpStill_nil ?_
          clear k1
          change wpList _ _ _ _ _ w7.drew
          go_wp2_with fail
          refine HC2.out.mono ?_
          rintro e w9 ⟨rfl, b9⟩
          have Hf := Lib.hid (Hfin.out w9 b9)
          clear b9
          go_wp2_with fail
          go_ret
          exact ⟨rfl, Hf.out⟩
        · go_wp2_with fail
          obtain ⟨k1, k2, k3, kx, hn0, e1, e2, ⟨e3, e4, e5⟩, hj9i, hi9i⟩ := HF.out
          have hn0' : ¬ n = 0 := fun h => hn0 (congrArg Int.ofNat h)
          refine wp_region_still_tail 35 (by kernel_rfl) (by kernel_rfl) ?_
          simp only [List.take_succ_cons, List.take_zero, List.drop_succ_cons, List.drop_zero]
          repeat still_step
          refine wpStill_nil ?_
          clear k1
          change wpList _ _ _ _ _ w7.drew
          go_wp2_with fail
          refine HC2.out.mono ?_
          rintro e w9 ⟨rfl, b9⟩
          have Hf := Lib.hid (Hfin.out w9 b9)
          clear b9
          go_wp2_with fail
          go_ret
          exact ⟨rfl, Hf.out⟩
theorem rsFinds_nat (A : Option Addr) (cA Nb : Nat) (a : Mtx) (at' : Int) (x : Nat) (w : World) (hx : x < 256) (ha : RM w w.heap.size A a) (hNa : Nb = a.length) (hla : a.length ≤ 1048576) (hra : ∀ (k : Nat) (l : List UInt8), a[k]? = some l → l.length ≤ 1048576) :
    Calls Try.prog 5 #[.slice A Nb cA, .int .i64 at', .int .u8 (x : Int)] w fun e w' => e = .returned (.bool true) ∧ Below w.heap.size w w' := by
  have := rsFinds_any A cA Nb a at' (UInt8.ofNat x) w ha hNa hla hra
  rwa [show ((UInt8.ofNat x).toNat : Int) = (x : Int) by rw [UInt8.toNat_ofNat', Nat.mod_eq_of_lt (by omega)]] at this
end Go.Proofs.Ytonihcgjepfpkaa
