/-
  The second saying's Inverse, walked.
-/
import Derived.Test.YtonihcgjepfpkaaKGf31
import Derived.Deep.DeepCutAuto
import Derived.StillTailTactics
import Derived.Deep.CutBlock
namespace Go.Proofs.Ytonihcgjepfpkaa
open Go.RowKit

set_option maxRecDepth 20000
set_option maxHeartbeats 16000000 in
theorem rinverse_sq (A : Option Addr) (c n : Nat) (M : Mtx) (w : World) (h : RM w w.heap.size A M) (hn1 : 1 ≤ n) (hn2 : n ≤ 255) (hd : Dim M n) (hr : rightB M = true) :
    Calls Try.prog 35 #[.slice A n c] w fun e w' => (∃ S, invK n M n = some S ∧ TellsR w S.2 0 e w') ∨ (invK n M n = none ∧ TellsR w [] 4 e w') := by
  have hlen := hd.1
  have HR := Lib.hid (rright_any A c M w _ h (by omega) (fun k l hk => by rw [hd.2 k l hk]; omega))
  rw [hr, hlen] at HR
  obtain ⟨b, o, rfl, hb⟩ := h.at_ (by omega)
  obtain ⟨A0, c0, q0, _, _⟩ := h.row (hd.get (i := 0) (by omega)).1
  rw [(hd.get (i := 0) (by omega)).2, Nat.add_zero] at q0
  have HU : Hid (∀ W, Calls Try.prog 33 #[.int .i64 (n : Int)] W (MadeE W (unitM n))) := fun W => runit_any n W hn1 hn2
  have Hd := Lib.hid hd
  have Hh := Lib.hid h
  have Hb := Lib.hid hb
  have Hn1 := Lib.hid hn1
  have hn0' : (0 : Int) < (n : Int) := by omega
  have hn2' : (n : Int) ≤ 255 := by omega
  clear h hd hr hlen hb hn1
  go_enter Try.func35, Try.ntmps35
  go_wp2_with fail
  refine HR.out.mono ?_
  rintro e w1 ⟨rfl, q, hw⟩
  have q1 : w1.cell? ⟨b, o, none⟩ = some (.slice A0 n c0) := by rw [hw]; exact q0
  have Hst : Hid (MatO w1 w.heap.size w1.heap.size (.slice none 0 0) (M.take 0) ∧ Below w.heap.size w w1) := ⟨MatO.none _ _ _, by rw [hw]; exact drewN_below (Below.refl _ _) q⟩
  clear hw q0 HR
  go_wp2_with fail
  clear q1
  go_loopw [5, 6] (fun vv iv wr => ∃ (v : Value) (i : Nat), vv = v ∧ iv = .int .i64 (i : Int) ∧ i ≤ n ∧ Hid (MatO wr w.heap.size wr.heap.size v (M.take i) ∧ Below w.heap.size w wr)) (fun _ iv _ => n - (intOf iv).toNat)
  case atStart => exact ⟨_, 0, rfl, rfl, Nat.zero_le _, Hst.out⟩
  case round =>
    obtain ⟨v, k, rfl, rfl, hk, hrel⟩ := hrel
    by_cases hlt : k < n
    · have hlt' : (k : Int) < (n : Int) := by omega
      obtain ⟨hx, hln⟩ := Hd.out.get hlt
      generalize M.getD k [] = l at hx hln
      obtain ⟨A', c', hc, hrb, _⟩ := Hh.out.row hx
      have kl : (wr.alloc (.cells #[] 5)).cell? ⟨b, o + k, none⟩ = some (.slice A' l.length c') := (World.cell?_alloc_lt wr _ ⟨b, o + k, none⟩ (Nat.lt_of_lt_of_le Hb.out hrel.out.2.size)).trans ((hrel.out.2.cell (p := ⟨b, o + k, none⟩) Hb.out).trans hc)
      have Hrb : Hid (RB wr wr.heap.size A' l ∧ l.length ≤ 255) := ⟨(hrb.below hrel.out.2).wide hrel.out.2.size, by rw [hln]; exact hn2⟩
      have HSt : Hid (∀ rv w1, Own w1 wr.heap.size rv l → Below wr.heap.size wr w1 → ∃ rows : List Value, OwnV (w1.alloc (.cells #[rv] 41)) w.heap.size 41 u5 rows ∧ rows.length = k ∧ w.heap.size ≤ w1.heap.size ∧
          ∀ v' w', OwnV w' w.heap.size 41 v' (rows ++ [rv]) → (w1.alloc (.cells #[rv] 41)).grownBy w' u5.ownBlock → (v'.ownBlock = u5.ownBlock ∨ v'.ownBlock = some (w1.alloc (.cells #[rv] 41)).heap.size) → MatO w' w.heap.size w'.heap.size v' (M.take (k + 1)) ∧ Below w.heap.size w w') := fun rv w1 ho hb => by
        obtain ⟨rows, r1, r2, r3⟩ := matO_step hrel.out (by rw [hln]; exact Hn1.out) ho hb
        refine ⟨rows, r1, ?_, Nat.le_trans hrel.out.2.size hb.size, ?_⟩
        · rw [r2, List.length_take]
          have := (List.getElem?_eq_some_iff.1 hx).1
          omega
        · rw [List.take_add_one, hx]
          exact r3
      clear hx hc hrb hrel hlt hln
      go_wp2_with (first
        | (at_builtin; (refine app_bytes rfl (.tmp 34) (.tmp 38) rfl wr.heap.size _ [] rfl (Own.made wr _ (Nat.le_refl _)) _ A' l.length c' l rfl rfl (Hrb.out.1.alloc (Nat.le_refl _) _) (by have := Hrb.out.2; simp; omega) (by simp) ?_); intro rv w1 hown hbel _; obtain ⟨A9, c9, rfl, _⟩ := hown.rb; obtain ⟨rows, r1, r2, r3, r4⟩ := HSt.out _ w1 (by simpa using hown) (((Below.refl _ _).alloc (Nat.le_refl _) _).trans hbel); have Hr1 := Lib.hid r1; have Hr2 := Lib.hid r2; have Hr3 := Lib.hid r3; have Hr4 := Lib.hid r4; clear r1 r2 r3 r4 hown hbel HSt kl)
        | (at_builtin; go_must (refine app_one rfl (.tmp 33) (.tmp 40) 22 41 rfl Try.underlying22 (.slice none 0 0) 24 info_row rfl w.heap.size _ rows rfl Hr1.out ⟨w1.heap.size, 0, none⟩ 1 _ rfl (cell_new _ _ _) rfl (by have := Hr2.out; omega) (by have := Hr2.out; omega) (by have := Hr3.out; simp; omega) ?_); intro v9 W9 hown9 hg9 hb9; have Hn := Lib.hid (Hr4.out v9 W9 hown9 hg9 hb9); clear hown9 hg9 hb9))
      go_roundw
      case rel => exact ⟨v9, k + 1, rfl, by go_num, by omega, Hn.out⟩
      case measure => simp [intOf]; omega
    obtain rfl : k = n := by omega
    obtain ⟨hme, hbe⟩ := hrel.out
    rw [List.take_of_length_le (by rw [Hd.out.1]; exact Nat.le_refl _)] at hme
    obtain ⟨ga, ca, rfl, _, _⟩ := hme.head (by rw [Hd.out.1]; exact Hn1.out)
    rw [Hd.out.1] at hme ⊢
    have Hm : Hid (MatO wr w.heap.size wr.heap.size (.slice (some ⟨ga, 0, none⟩) k ca) M ∧ Below w.heap.size w wr) := ⟨hme, hbe⟩
    have HU1 := Lib.hid (HU.out wr)
    clear hlt hrel hme hbe HU Hh
    go_wp2_with fail
    refine HU1.out.mono ?_
    rintro e w2 ⟨Au, cu, rfl, mu, bu⟩
    have hul : (unitM k).length = k := by simp [unitM]
    rw [hul] at mu ⊢
    obtain ⟨gb, cb, eu, _⟩ := mu.head (by rw [hul]; exact Hn1.out)
    rw [hul] at eu
    cases eu
    obtain ⟨lo1, hlo1⟩ : ∃ x, x = w.heap.size := ⟨_, rfl⟩
    obtain ⟨hi1, hhi1⟩ : ∃ x, x = wr.heap.size := ⟨_, rfl⟩
    obtain ⟨hi2, hhi2⟩ : ∃ x, x = w2.heap.size := ⟨_, rfl⟩
    have Hs0 : Hid (invK k M 0 = some (M, unitM k) ∧ Pair2 w ga ca gb cu k lo1 hi1 hi1 hi2 M (unitM k) w2) := by
      refine ⟨rfl, ?_, ?_, Hm.out.2.trans (bu.mono Hm.out.2.size), Hd.out, dim_unit k, by omega, Nat.le_refl _, by omega, by rw [hhi1]; exact Hm.out.2.size⟩
      · rw [hlo1, hhi1]
        exact Hm.out.1.below bu
      · rw [hhi1, hhi2]
        exact mu
    clear mu bu hul HU1 Hm hlo1 hhi1 hhi2
    go_wp2_with fail
    go_loopw [9] (fun iv wz => ∃ (i : Nat) (L R : Mtx), iv = .int .i64 (i : Int) ∧ i ≤ k ∧ Hid (invK k M i = some (L, R) ∧ Pair2 w ga ca gb cu k lo1 hi1 hi1 hi2 L R wz)) (fun iv _ => k - (intOf iv).toNat)
    case atStart => exact ⟨0, M, unitM k, rfl, Nat.zero_le _, Hs0.out⟩
    case round =>
      obtain ⟨i, L, R, rfl, hi, hrel⟩ := hrel
      by_cases hlt : i < k
      case neg =>
        obtain rfl : i = k := by omega
        have Hd' : Hid (∃ A9 c9, Value.slice (some ⟨gb, 0, none⟩) i cu = .slice A9 R.length c9 ∧ RM wr wr.heap.size A9 R ∧ Below w.heap.size w wr ∧ invK i M i = some (L, R)) := by
          obtain ⟨p1, p2⟩ := hrel.out
          obtain ⟨A9, c9, e9, _, r9⟩ := p2.m2.rm
          exact ⟨A9, c9, e9, r9, p2.bel, p1⟩
        clear hlt hrel
        go_wp2_with fail
        go_ret2
        obtain ⟨A9, c9, e9, r9, b9, i9⟩ := Hd'.out
        exact .inl ⟨_, i9, A9, c9, by rw [← e9]; rfl, r9, b9⟩
      have hlt' : (i : Int) < (k : Int) := by omega
      have Hi := Lib.hid hlt
      have HK := Lib.hid hrel.out.1
      have Hp0 := Lib.hid hrel.out.2
      clear hrel hlt
      obtain ⟨wo, rfl⟩ : ∃ wo : World, wo = wr := ⟨_, rfl⟩
      have Hpv : Hid (pivFrom L i (k - i) i = pivot L i) := by
        show _ = _
        unfold pivot
        rw [Hp0.out.d1.1]
      go_wp2_with fail
      go_loopw [10] (fun pv wz => ∃ p : Nat, pv = .int .i64 (p : Int) ∧ i ≤ p ∧ p ≤ k ∧ Hid (pivFrom L i (k - p) p = pivot L i ∧ Pair2 w ga ca gb cu k lo1 hi1 hi1 hi2 L R wz)) (fun pv _ => k - (intOf pv).toNat)
      case atStart => exact ⟨i, rfl, Nat.le_refl _, hi, Hpv.out, Hp0.out⟩
      case round =>
        obtain ⟨p, rfl, hip, hpk, hrel⟩ := hrel
        by_cases hpl : p < k
        case neg =>
          obtain rfl : p = k := by omega
          have Hno : Hid (invK p M p = none ∧ Below w.heap.size w wr) := by
            refine ⟨invK_none (k := i + 1) ?_ p (by have := Hi.out; omega), hrel.out.2.bel⟩
            show (invK p M i).bind (stepM p i) = none
            rw [HK.out]
            show stepM p i (L, R) = none
            unfold stepM
            have hpn : pivot L i = none := by rw [← hrel.out.1, Nat.sub_self]; rfl
            rw [show pivot (L, R).1 i = none from hpn]
          clear hrel hpl hpk
          go_wp2_with fail
          go_ret2
          exact .inr ⟨Hno.out.1, none, 0, rfl, RM.nil _ _ _, Hno.out.2⟩
        have hpl' : (p : Int) < (k : Int) := by omega
        obtain ⟨bp, cp, e1, e2, e3⟩ := hrel.out.2.elem (i := p) (j := i) hpl Hi.out
        have e2' : (k : Int) ≤ (cp : Int) := by omega
        have hnx := pivFrom_next L i k p hpl
        rw [hrel.out.1] at hnx
        by_cases hz : at2 L p i = 0
        · rw [if_neg (by simpa using hz)] at hnx
          have Hnx : Hid (pivFrom L i (k - (p + 1)) (p + 1) = pivot L i ∧ Pair2 w ga ca gb cu k lo1 hi1 hi1 hi2 L R wr) := ⟨hnx.symm, hrel.out.2⟩
          rw [hz] at e3
          clear hz hnx hrel hpl
          have hz0 : ((0 : UInt8).toNat : Int) = 0 := rfl
          rw [hz0] at e3
          go_wp2_with fail
          go_roundw
          case rel => exact ⟨p + 1, by go_num, by omega, by omega, Hnx.out⟩
          case measure => simp [intOf]; omega
        rw [if_pos hz] at hnx
        have Hpiv := Lib.hid hnx
        have Hne := Lib.hid hz
        have hbz : (((at2 L p i).toNat : Int) == 0) = false := by
          have : (at2 L p i).toNat ≠ 0 := fun e => hz (UInt8.toNat_inj.1 e)
          simp; omega
        have Hp2 := Lib.hid hrel.out.2
        have Hpk := Lib.hid hpl
        have hpne : ((p : Int) == (k : Int)) = false := by simp; omega
        generalize (at2 L p i).toNat = xz at e3 hbz
        clear hz hnx hrel hpl
        obtain ⟨wq, rfl⟩ : ∃ wq : World, wq = wr := ⟨_, rfl⟩
        go_upto_region 18 with fail
        clear e1 e2 e2' e3 hbz
        go_cut [71] (fun v wx => ∃ W, W = wx ∧ v = .slice (some ⟨ga, 0, none⟩) k ca ∧ Hid (Pair2 w ga ca gb cu k lo1 hi1 hi1 hi2 (swapM L i p) R wx))
        case first =>
          obtain ⟨bi, ci, bq, cq, s1, s2, s3, s4, s5, s6⟩ := Hp2.out.swapL Hi.out Hpk.out
          have S5 := Lib.hid s5
          have S6 := Lib.hid s6
          have hi9 : (i : Int) < (k : Int) := by have := Hi.out; omega
          clear s5 s6
          by_cases hii : i = p
          · subst hii
            rw [s1] at s2
            cases s2
            clear s4
            go_region
            all_goals
              go_wp2_with fail
              go_meet
              exact ⟨_, rfl, rfl, by first | exact S5.out 1 | exact S6.out 1⟩
          · have hpi : ¬ p = i := fun e => hii e.symm
            clear hii
            go_region
            all_goals
              go_wp2_with fail
              go_meet
              exact ⟨_, rfl, rfl, by first | exact S5.out 1 | exact S6.out 1⟩
        case rest =>
        obtain ⟨W18, rfl, rfl, hP⟩ := hcut
        have HP18 := Lib.hid hP.out
        clear hP
        go_upto_region 19 with fail
        go_cut [85] (fun v wx => ∃ W, W = wx ∧ v = .slice (some ⟨gb, 0, none⟩) k cu ∧ Hid (Pair2 w ga ca gb cu k lo1 hi1 hi1 hi2 (swapM L i p) (swapM R i p) wx))
        case first =>
          obtain ⟨bi, ci, bq, cq, s1, s2, s3, s4, s5, s6⟩ := HP18.out.swapR Hi.out Hpk.out
          have S5 := Lib.hid s5
          have S6 := Lib.hid s6
          have hi9 : (i : Int) < (k : Int) := by have := Hi.out; omega
          clear s5 s6
          by_cases hii : i = p
          · subst hii
            rw [s1] at s2
            cases s2
            clear s4
            go_region
            all_goals
              go_wp2_with fail
              go_meet
              exact ⟨_, rfl, rfl, by first | exact S5.out 1 | exact S6.out 1⟩
          · have hpi : ¬ p = i := fun e => hii e.symm
            clear hii
            go_region
            all_goals
              go_wp2_with fail
              go_meet
              exact ⟨_, rfl, rfl, by first | exact S5.out 1 | exact S6.out 1⟩
        case rest =>
        obtain ⟨W19, rfl, rfl, hP⟩ := hcut
        have Hne1 : Hid (at2 (swapM L i p) i i ≠ 0) := by show _ ≠ _; rw [at2_swap Hp0.out.d1.1 Hi.out Hpk.out]; exact Hne.out
        have Hstep : Hid (invK k M (i + 1) = some (elimK i k (turnM i p (L, R)))) := by
          show (invK k M i).bind (stepM k i) = _
          rw [HK.out]
          show stepM k i (L, R) = _
          unfold stepM
          rw [show pivot (L, R).1 i = some p from Hpiv.out]
        have Hturn : Hid (turnM i p (L, R) = (scaleM (swapM L i p) i (gib (at2 (swapM L i p) i i)), scaleM (swapM R i p) i (gib (at2 (swapM L i p) i i)))) := rfl
        generalize turnM i p (L, R) = S0 at *
        generalize swapM L i p = L1 at *
        generalize swapM R i p = R1 at *
        have HP19 := Lib.hid hP.out
        obtain ⟨b3, c3, k1, k2, k3⟩ := HP19.out.elem (i := i) (j := i) Hi.out Hi.out
        have HV := Lib.hid (inv_u8 (at2 L1 i i) Hne1.out W19)
        have HscL := Lib.hid (HP19.out.scaleL hn2 Hi.out k1 (gib (at2 L1 i i)))
        have hi9 : (i : Int) < (k : Int) := by have := Hi.out; omega
        have k2' : (k : Int) ≤ (c3 : Int) := by omega
        generalize hyn : (at2 L1 i i).toNat = yn at HV k3
        generalize hxn : (gib (at2 L1 i i)).toNat = xn at HV HscL
        clear hP HP18 Hp2 Hp0 Hne1 Hne Hpiv HK hyn
        go_wp2_with fail
        refine HV.out.mono ?_
        rintro e w4 ⟨rfl, rfl⟩
        clear k3
        go_wp2_with fail
        refine HscL.out.mono ?_
        rintro e w5 ⟨rfl, hp5⟩
        obtain ⟨b6, c6, r1, r2⟩ := hp5.rowR Hi.out
        have HscR := Lib.hid (hp5.scaleR hn2 Hi.out r1 (gib (at2 L1 i i)))
        rw [hxn] at HscR
        clear hp5 k1 k2 k2' HscL HV
        go_wp2_with fail
        refine HscR.out.mono ?_
        rintro e w6 ⟨rfl, hp6⟩
        have Hs1 : Hid (elimK i 0 S0 = (scaleM L1 i (gib (at2 L1 i i)), scaleM R1 i (gib (at2 L1 i i))) ∧ Pair2 w ga ca gb cu k lo1 hi1 hi1 hi2 (scaleM L1 i (gib (at2 L1 i i))) (scaleM R1 i (gib (at2 L1 i i))) w6) := ⟨Hturn.out, hp6⟩
        clear hp6 r1 r2 HscR Hturn hxn
        go_wp2_with fail
        go_loopw [12] (fun jv wz => ∃ (j : Nat) (L' R' : Mtx), jv = .int .i64 (j : Int) ∧ j ≤ k ∧ Hid (elimK i j S0 = (L', R') ∧ Pair2 w ga ca gb cu k lo1 hi1 hi1 hi2 L' R' wz)) (fun jv _ => k - (intOf jv).toNat)
        case atStart => exact ⟨0, _, _, rfl, Nat.zero_le _, Hs1.out⟩
        case round =>
          obtain ⟨j, L', R', rfl, hj, hrel⟩ := hrel
          by_cases hjl : j < k
          case neg =>
            obtain rfl : j = k := by omega
            have Hn : Hid (invK j M (i + 1) = some (L', R') ∧ Pair2 w ga ca gb cu j lo1 hi1 hi1 hi2 L' R' wr) := ⟨by rw [Hstep.out, hrel.out.1], hrel.out.2⟩
            clear hjl hrel
            go_wp2_with fail
            go_roundw
            case rel => exact ⟨i + 1, L', R', by go_num, by have := Hi.out; omega, Hn.out⟩
            case measure => (have := Hi.out; simp [intOf]; omega)
          have hjl' : (j : Int) < (k : Int) := by omega
          by_cases hji : j = i
          · have hbb : ((j : Int) != (i : Int)) = false := by simp [hji]
            have Hn : Hid (elimK i (j + 1) S0 = (L', R') ∧ Pair2 w ga ca gb cu k lo1 hi1 hi1 hi2 L' R' wr) := ⟨by
              show stepRow i j (elimK i j S0) = _
              rw [hrel.out.1]
              unfold stepRow
              rw [if_pos hji], hrel.out.2⟩
            clear hji hjl hrel
            go_wp2_with fail
            go_roundw
            case rel => exact ⟨j + 1, L', R', by go_num, by omega, Hn.out⟩
            case measure => simp [intOf]; omega
          have hbb : ((j : Int) != (i : Int)) = true := by simp; omega
          obtain ⟨b5, c5, k1, k2, k3⟩ := hrel.out.2.elem (i := j) (j := i) hjl Hi.out
          have k2' : (k : Int) ≤ (c5 : Int) := by omega
          have Hn : Hid (elimK i (j + 1) S0 = (addM L' j i (at2 L' j i), addM R' j i (at2 L' j i))) := by
            show stepRow i j (elimK i j S0) = _
            rw [hrel.out.1]
            unfold stepRow
            rw [if_neg hji]
          by_cases hz : at2 L' j i = 0
          · rw [hz, addM_zero hrel.out.2.d1 hjl Hi.out, addM_zero hrel.out.2.d2 hjl Hi.out] at Hn
            have Hn2 : Hid (elimK i (j + 1) S0 = (L', R') ∧ Pair2 w ga ca gb cu k lo1 hi1 hi1 hi2 L' R' wr) := ⟨Hn.out, hrel.out.2⟩
            rw [hz] at k3
            have hz0 : ((0 : UInt8).toNat : Int) = 0 := rfl
            rw [hz0] at k3
            clear hz hji hjl hrel Hn
            go_wp2_with fail
            go_roundw
            case rel => exact ⟨j + 1, L', R', by go_num, by omega, Hn2.out⟩
            case measure => simp [intOf]; omega
          have hbz : (((at2 L' j i).toNat : Int) != 0) = true := by
            have : (at2 L' j i).toNat ≠ 0 := fun e => hz (UInt8.toNat_inj.1 e)
            simp; omega
          obtain ⟨b7, c7, m1, m2, _⟩ := hrel.out.2.elem (i := i) (j := i) Hi.out Hi.out
          have Had := Lib.hid (Pair2.mixL (w := wr.drew) (hrel.out.2.drewN 1) hn2 hjl Hi.out hji k1 m1 (at2 L' j i))
          have Hjl := Lib.hid hjl
          have Hji := Lib.hid hji
          generalize hx5 : (at2 L' j i).toNat = x5 at Had k3 hbz
          clear hji hjl hz hrel
          go_wp2_with fail
          refine wp_region_still_tail 9 (by kernel_rfl) (by kernel_rfl) ?_
          simp only [List.take_succ_cons, List.take_zero, List.drop_succ_cons, List.drop_zero]
          repeat still_step
          try refine wpStill_nil ?_
          change wpList _ _ _ _ _ wr.drew
          go_wp2_with fail
          refine Had.out.mono ?_
          rintro e w7 ⟨rfl, hp7⟩
          obtain ⟨b8, c8, r1, r2⟩ := hp7.rowR Hjl.out
          obtain ⟨b9, c9, r3, r4⟩ := hp7.rowR Hi.out
          have Hbd := Lib.hid (Pair2.mixR (w := w7.drew) (hp7.drewN 1) hn2 Hjl.out Hi.out Hji.out r1 r3 (at2 L' j i))
          rw [hx5] at Hbd
          clear hp7 k1 k2 k2' k3 hbz m1 m2 Had hx5
          go_wp2_with fail
          refine wp_region_still_tail 9 (by kernel_rfl) (by kernel_rfl) ?_
          simp only [List.take_succ_cons, List.take_zero, List.drop_succ_cons, List.drop_zero]
          repeat still_step
          try refine wpStill_nil ?_
          change wpList _ _ _ _ _ w7.drew
          go_wp2_with fail
          refine Hbd.out.mono ?_
          rintro e w8 ⟨rfl, hp8⟩
          have Hn8 := Lib.hid hp8
          clear hp8 r1 r2 r3 r4 Hbd
          go_wp2_with fail
          go_roundw
          case rel => exact ⟨j + 1, _, _, by go_num, by have := Hjl.out; omega, Hn.out, Hn8.out⟩
          case measure => (have := Hjl.out; simp [intOf]; omega)
end Go.Proofs.Ytonihcgjepfpkaa
