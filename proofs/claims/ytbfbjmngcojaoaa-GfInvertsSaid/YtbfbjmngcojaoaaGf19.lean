/-
  The program's inverse, walked.
-/
import Derived.Test.YtbfbjmngcojaoaaGf18
namespace Go.Proofs.Ytbfbjmngcojaoaa
open Go.RowKit

set_option maxRecDepth 20000
section
variable {w0 w : World} {a4 a5 g1 g2 n lo1 hi1 lo2 hi2 : Nat} {L R : Mtx}
theorem Two.swap (h : Two w0 a4 a5 g1 g2 n lo1 hi1 lo2 hi2 L R w) (hn : n ≤ 255) {i p : Nat} (hi : i < n) (hp : p < n) (u : Value) :
    Calls Try.prog 47 #[.func (.func 49) #[] #[], .int .i64 (i : Int), .int .i64 (p : Int), u, .pointer (some ⟨a4, 0, none⟩), .pointer (some ⟨a5, 0, none⟩)] w fun e w' => e = .returned (.tuple #[]) ∧ Two w0 a4 a5 g1 g2 n lo1 hi1 lo2 hi2 (swapM L i p) (swapM R i p) w' :=
  both_swap _ _ _ h (swap_any g1 n n i p u L lo1 hi1 w h.m1 h.d1.1.symm hi hp hn) (h.d1.swap hi hp) (fun w1 h1 => swap_any g2 n n i p u R lo2 hi2 w1 h1.m2 h1.d2.1.symm hi hp hn) (h.d2.swap hi hp)
theorem Two.scale (h : Two w0 a4 a5 g1 g2 n lo1 hi1 lo2 hi2 L R w) (hn : n ≤ 255) {i : Nat} (hi : i < n) (u : Value) (x : UInt8) :
    Calls Try.prog 47 #[.func (.func 50) #[] #[], .int .i64 (i : Int), u, .int .u8 (x.toNat : Int), .pointer (some ⟨a4, 0, none⟩), .pointer (some ⟨a5, 0, none⟩)] w fun e w' => e = .returned (.tuple #[]) ∧ Two w0 a4 a5 g1 g2 n lo1 hi1 lo2 hi2 (scaleM L i x) (scaleM R i x) w' :=
  both_scale _ _ _ h (scale_any g1 n n i u x L lo1 hi1 w h.m1 h.d1.1.symm hi hn (by rw [(h.d1.get hi).2]; exact hn)) (h.d1.scale hi x) (fun w1 h1 => scale_any g2 n n i u x R lo2 hi2 w1 h1.m2 h1.d2.1.symm hi hn (by rw [(h1.d2.get hi).2]; exact hn)) (h.d2.scale hi x)
theorem Two.add (h : Two w0 a4 a5 g1 g2 n lo1 hi1 lo2 hi2 L R w) (hn : n ≤ 255) {i p : Nat} (hi : i < n) (hp : p < n) (hpi : p ≠ i) (x : UInt8) :
    Calls Try.prog 47 #[.func (.func 51) #[] #[], .int .i64 (p : Int), .int .i64 (i : Int), .int .u8 (x.toNat : Int), .pointer (some ⟨a4, 0, none⟩), .pointer (some ⟨a5, 0, none⟩)] w fun e w' => e = .returned (.tuple #[]) ∧ Two w0 a4 a5 g1 g2 n lo1 hi1 lo2 hi2 (addM L p i x) (addM R p i x) w' :=
  both_add _ _ _ h (addrow_any g1 n n p i x L lo1 hi1 w h.m1 h.d1.1.symm hp hi hpi hn (by rw [(h.d1.get hi).2]; exact hn) (by rw [(h.d1.get hp).2, (h.d1.get hi).2])) (h.d1.add hp hi x) (fun w1 h1 => addrow_any g2 n n p i x R lo2 hi2 w1 h1.m2 h1.d2.1.symm hp hi hpi hn (by rw [(h1.d2.get hi).2]; exact hn) (by rw [(h1.d2.get hp).2, (h1.d2.get hi).2])) (h.d2.add hp hi x)
theorem Two.pivot (h : Two w0 a4 a5 g1 g2 n lo1 hi1 lo2 hi2 L R w) (hn : n ≤ 255) {i : Nat} (hi : i < n) :
    Calls Try.prog 48 #[.slice (some ⟨g1, 0, none⟩) n n, .int .i64 (i : Int)] w fun e w' => e = .returned (.int .i64 (pivI (pivot L i))) ∧ w = w' := by
  obtain ⟨A, c, e, _, hr⟩ := h.m1.rm
  have hl := h.d1.1
  have e1 := (Value.slice.inj e)
  have := pivot_any A c i L w _ hr (by omega) (by omega) (fun k l hk => by rw [h.d1.2 k l hk]; exact hi)
  rw [← e] at this
  exact this
theorem Two.inv (h : Two w0 a4 a5 g1 g2 n lo1 hi1 lo2 hi2 L R w) {i : Nat} (h0 : at2 L i i ≠ 0) :
    Calls Try.prog 14 #[.int .u8 ((at2 L i i).toNat : Int), .int .i64 (-1)] w fun e w' => e = .returned (.tuple #[.int .u8 ((gib (at2 L i i)).toNat : Int), .int .i64 0]) ∧ w = w' := by
  have hne : (at2 L i i).toNat ≠ 0 := fun e => h0 (UInt8.toNat_inj.1 e)
  have := pow_any (at2 L i i).toNat (-1) w (u8_lt _)
  rw [(powV_inv (u8_lt _) hne).1, (powV_inv (u8_lt _) hne).2, ← gib_nat] at this
  exact this
end
/-- what the program's Inverse answers -/
def sqB (M : Mtx) : Bool := rightB M && decide (M.length = (M.headD []).length)
def invL (M : Mtx) : Mtx := if sqB M then (match invK M.length M M.length with | none => [] | some S => S.2) else []
def invC (M : Mtx) : Nat := if sqB M then (match invK M.length M M.length with | none => 4 | some _ => 0) else 1
theorem inv_sq {M : Mtx} (h : sqB M = true) : ∃ n, 1 ≤ n ∧ n ≤ 255 ∧ Dim M n ∧ M[0]? = some (M.headD []) := by
  unfold sqB at h
  rw [Bool.and_eq_true, decide_eq_true_eq] at h
  obtain ⟨n, h1, h2, h3, h4, h5, h6, h7⟩ := right_facts h.1
  exact ⟨n, h3, h4, ⟨by rw [h.2, h6], h7⟩, h5⟩
set_option maxHeartbeats 8000000 in
theorem inverse_sq (A : Option Addr) (c n : Nat) (M : Mtx) (w : World) (h : RM w w.heap.size A M) (hn1 : 1 ≤ n) (hn2 : n ≤ 255) (hd : Dim M n) (hr : rightB M = true) :
    Calls Try.prog 33 #[.slice A n c] w fun e w' => (∃ S, invK n M n = some S ∧ ∃ g lo hi, e = .returned (.tuple #[.slice (some ⟨g, 0, none⟩) n n, .int .i64 0]) ∧ MatO w' lo hi (.slice (some ⟨g, 0, none⟩) n n) S.2 ∧ w.heap.size ≤ lo ∧ hi ≤ w'.heap.size ∧ Dim S.2 n ∧ Below w.heap.size w w') ∨
      (invK n M n = none ∧ e = .returned (.tuple #[.slice none 0 0, .int .i64 4]) ∧ Below w.heap.size w w') := by
  have hlen := hd.1
  have HR : Hid (Calls Try.prog 27 #[.slice A n c] w fun e w' => e = .returned (.bool true) ∧ w = w') := by
    have := right_any A c M w _ h (by omega) (fun k l hk => by rw [hd.2 k l hk]; omega)
    rw [hr, hlen] at this
    exact this
  obtain ⟨b, o, rfl, hb⟩ := h.at_ (by omega)
  obtain ⟨A0, c0, q0, _, _⟩ := h.row (hd.get (i := 0) (by omega)).1
  rw [(hd.get (i := 0) (by omega)).2, Nat.add_zero] at q0
  have HE := Lib.hid (eachClone_any (some ⟨b, o, none⟩) c n M w h hlen.symm hn2 (fun k l hk => by rw [hd.2 k l hk]; omega))
  have HU : Hid (∀ W, Calls Try.prog 22 #[.int .i64 (n : Int)] W (MadeM W n (unitM n))) := fun W => unit_any n W hn1 hn2
  have Hd := Lib.hid hd
  have hn1' : (1 : Int) ≤ (n : Int) := by omega
  have hn0' : (0 : Int) < (n : Int) := by omega
  have hn2' : (n : Int) ≤ 255 := by omega
  clear h hd hr hlen hb hn1
  go_enter Try.func33, Try.ntmps33
  go_wp2_with fail
  refine HR.out.mono ?_
  rintro e w1 ⟨rfl, rfl⟩
  go_wp2_with fail
  refine HE.out.mono ?_
  rintro e w1 ⟨rfl, hm1, hb1⟩
  have Hm1 := Lib.hid hm1
  have Hb1 := Lib.hid hb1
  have HU1 := Lib.hid (HU.out (w1.alloc (.cells #[.slice (some ⟨w.heap.size, 0, none⟩) n n] 38)))
  clear hm1 hb1 HE HR HU q0
  go_wp2_with fail
  refine HU1.out.mono ?_
  rintro e w2 ⟨g2, rfl, hm2, hb2⟩
  have Hst : Hid (∃ a4 a5 lo1 hi1 lo2 hi2, a4 = w1.heap.size ∧ a5 = w2.heap.size ∧ Two w a4 a5 w.heap.size g2 n lo1 hi1 lo2 hi2 M (unitM n) (w2.alloc (.cells #[.slice (some ⟨g2, 0, none⟩) n n] 38))) := by
    have hs : (w1.alloc (.cells #[.slice (some ⟨w.heap.size, 0, none⟩) n n] 38)).heap.size = w1.heap.size + 1 := by simp
    rw [hs] at hm2 hb2
    exact ⟨_, _, _, _, _, _, rfl, rfl, Two.start (A := none) (Nat.le_refl _) Hm1.out Hb1.out Hd.out hm2 hb2⟩
  clear hm2 hb2 HU1 Hm1 Hb1
  go_upto_region 6 with fail
  obtain ⟨a4, a5, lo1, hi1, lo2, hi2, e4, e5, ht⟩ := Hst.out
  rw [← e4, ← e5]
  generalize w2.alloc (.cells #[.slice (some ⟨g2, 0, none⟩) n n] 38) = W0 at ht ⊢
  have c4 := ht.c4
  have Hs0 : Hid (invK n M 0 = some (M, unitM n) ∧ Two w a4 a5 w.heap.size g2 n lo1 hi1 lo2 hi2 M (unitM n) W0) := ⟨rfl, ht⟩
  clear Hst e4 e5 ht
  obtain ⟨g1, hg1⟩ : ∃ g1, g1 = w.heap.size := ⟨_, rfl⟩
  rw [← hg1] at c4 Hs0
  rw [← hg1]
  have Hg1 := Lib.hid hg1
  clear hg1
  go_wp2_with fail
  clear c4
  go_loopw [8, 9, 10, 11, 12, 36] (fun _ _ _ _ _ iv wr => ∃ (i : Nat) (L R : Mtx), iv = .int .i64 (i : Int) ∧ i ≤ n ∧ Hid (invK n M i = some (L, R) ∧ Two w a4 a5 g1 g2 n lo1 hi1 lo2 hi2 L R wr)) (fun _ _ _ _ _ iv _ => n - (intOf iv).toNat)
  case atStart => exact ⟨0, M, unitM n, rfl, Nat.zero_le _, Hs0.out⟩
  case round =>
    obtain ⟨i, L, R, rfl, hi, hrel⟩ := hrel
    by_cases hlt : i < n
    case neg =>
      obtain rfl : i = n := by omega
      have c5 := hrel.out.2.c5
      have Hfin : Hid (∃ S, invK i M i = some S ∧ ∃ g lo hi, Ending.returned (.tuple #[.slice (some ⟨g2, 0, none⟩) i i, .int .i64 0]) = .returned (.tuple #[.slice (some ⟨g, 0, none⟩) i i, .int .i64 0]) ∧ MatO wr lo hi (.slice (some ⟨g, 0, none⟩) i i) S.2 ∧ w.heap.size ≤ lo ∧ hi ≤ wr.heap.size ∧ Dim S.2 i ∧ Below w.heap.size w wr) := by
        obtain ⟨q1, q2⟩ := hrel.out
        exact ⟨_, q1, g2, lo2, hi2, rfl, q2.m2, q2.o6, by have := q2.o3; have := q2.o4; omega, q2.d2, q2.bel⟩
      clear hlt hrel
      go_wp2_with fail
      go_ret2
      exact .inl Hfin.out
    have hlt' : (i : Int) < (n : Int) := by omega
    obtain ⟨hk, ht⟩ := hrel.out
    have c4 := ht.c4
    have Ht := Lib.hid ht
    have Hk := Lib.hid hk
    have HP := Lib.hid (ht.pivot hn2 hlt)
    obtain ⟨wo, rfl⟩ : ∃ wo : World, wo = wr := ⟨_, rfl⟩
    clear hk ht hrel
    rcases hpv : pivot L i with _ | p
    · rw [hpv] at HP
      have Hno : Hid (invK n M n = none ∧ Below w.heap.size w wo) := by
        refine ⟨invK_none (k := i + 1) ?_ n (by omega), Ht.out.bel⟩
        show (invK n M i).bind (stepM n i) = none
        rw [Hk.out]
        show stepM n i (L, R) = none
        unfold stepM
        rw [show pivot (L, R).1 i = none from hpv]
      clear hpv hlt
      go_wp2_with fail
      refine HP.out.mono ?_
      rintro e w3 ⟨rfl, rfl⟩
      go_wp2_with fail
      go_ret2
      exact .inr ⟨Hno.out.1, rfl, Hno.out.2⟩
    rw [hpv] at HP
    obtain ⟨hp1, hp2, hp3⟩ := pivot_some hpv Ht.out.d1.1 hlt
    have HP2 : Hid (Calls Try.prog 48 #[.slice (some ⟨g1, 0, none⟩) n n, .int .i64 (i : Int)] wo fun e w' => e = .returned (.int .i64 (p : Int)) ∧ wo = w') := HP.out
    have Hsw : Hid (Calls Try.prog 47 #[.func (.func 49) #[] #[], .int .i64 (i : Int), .int .i64 (p : Int), .int .u8 1, .pointer (some ⟨a4, 0, none⟩), .pointer (some ⟨a5, 0, none⟩)] wo fun e w' => e = .returned (.tuple #[]) ∧ Two w a4 a5 g1 g2 n lo1 hi1 lo2 hi2 (swapM L i p) (swapM R i p) w') := Ht.out.swap hn2 hlt hp2 _
    have hpp : ¬ (p : Int) < 0 := by omega
    have Hne : Hid (at2 (swapM L i p) i i ≠ 0) := by show _ ≠ _; rw [at2_swap Ht.out.d1.1 hlt hp2]; exact hp3
    have Hstep : Hid (invK n M (i + 1) = some (elimK i n (turnM i p (L, R)))) := by
      show (invK n M i).bind (stepM n i) = _
      rw [Hk.out]
      show stepM n i (L, R) = _
      unfold stepM
      rw [show pivot (L, R).1 i = some p from hpv]
    obtain ⟨L1, hL1⟩ : ∃ L1, L1 = swapM L i p := ⟨_, rfl⟩
    obtain ⟨R1, hR1⟩ : ∃ R1, R1 = swapM R i p := ⟨_, rfl⟩
    have Hturn : Hid (turnM i p (L, R) = (scaleM L1 i (gib (at2 L1 i i)), scaleM R1 i (gib (at2 L1 i i)))) := by rw [hL1, hR1]; rfl
    rw [← hL1] at Hsw Hne
    rw [← hR1] at Hsw
    have Hi := Lib.hid hlt
    clear hL1 hR1 hp1 hp2 hp3 hpv HP Ht Hk hlt
    go_wp2_with fail
    refine HP2.out.mono ?_
    rintro e w3 ⟨rfl, rfl⟩
    go_wp2_with fail
    refine Hsw.out.mono ?_
    rintro e w3 ⟨rfl, ht3⟩
    clear c4 HP2 Hsw
    have c4 := ht3.c4
    obtain ⟨b3, c3, k1, k2, k3⟩ := ht3.elem (i := i) (j := i) Hi.out Hi.out
    have HV := Lib.hid (ht3.inv (i := i) Hne.out)
    have Hsc := Lib.hid (ht3.scale hn2 (i := i) Hi.out (.int .i64 (i : Int)) (gib (at2 L1 i i)))
    generalize (at2 L1 i i).toNat = y at HV k3
    have k2' : (n : Int) ≤ (c3 : Int) := by omega
    clear ht3 Hne
    go_wp2_with fail
    refine HV.out.mono ?_
    rintro e w4 ⟨rfl, rfl⟩
    clear k1 k3
    generalize hxn : (gib (at2 L1 i i)).toNat = xn at *
    go_wp2_with fail
    refine Hsc.out.mono ?_
    rintro e w4 ⟨rfl, ht4⟩
    clear c4
    have c4 := ht4.c4
    have Hs1 : Hid (elimK i 0 (turnM i p (L, R)) = (scaleM L1 i (gib (at2 L1 i i)), scaleM R1 i (gib (at2 L1 i i))) ∧ Two w a4 a5 g1 g2 n lo1 hi1 lo2 hi2 (scaleM L1 i (gib (at2 L1 i i))) (scaleM R1 i (gib (at2 L1 i i))) w4) := ⟨Hturn.out, ht4⟩
    generalize turnM i p (L, R) = S0 at *
    clear ht4 Hsc HV hxn Hturn
    go_wp2_with fail
    clear c4
    go_loopw [12, 66] (fun _ jv wz => ∃ (j : Nat) (L' R' : Mtx), jv = .int .i64 (j : Int) ∧ j ≤ n ∧ Hid (elimK i j S0 = (L', R') ∧ Two w a4 a5 g1 g2 n lo1 hi1 lo2 hi2 L' R' wz)) (fun _ jv _ => n - (intOf jv).toNat)
    case atStart => exact ⟨0, _, _, rfl, Nat.zero_le _, Hs1.out⟩
    case round =>
      obtain ⟨j, L', R', rfl, hj, hrel⟩ := hrel
      by_cases hjl : j < n
      case neg =>
        obtain rfl : j = n := by omega
        have Hn : Hid (invK j M (i + 1) = some (L', R') ∧ Two w a4 a5 g1 g2 j lo1 hi1 lo2 hi2 L' R' wr) := ⟨by rw [Hstep.out, hrel.out.1], hrel.out.2⟩
        clear hjl hrel
        go_wp2_with fail
        go_roundw
        case rel => exact ⟨i + 1, L', R', by go_num, by have := Hi.out; omega, Hn.out⟩
        case measure => (have := Hi.out; simp [intOf]; omega)
      have hjl' : (j : Int) < (n : Int) := by omega
      by_cases hji : j = i
      · have hbb : ((j : Int) != (i : Int)) = false := by simp [hji]
        have Hn : Hid (elimK i (j + 1) S0 = (L', R') ∧ Two w a4 a5 g1 g2 n lo1 hi1 lo2 hi2 L' R' wr) := ⟨by
          show stepRow i j (elimK i j S0) = _
          rw [hrel.out.1]
          unfold stepRow
          rw [if_pos hji], hrel.out.2⟩
        clear hji hjl hrel
        go_wp2_with fail
        go_roundw
        case rel => exact ⟨j + 1, L', R', by go_num, by omega, Hn.out⟩
        case measure => simp [intOf]; omega
      · have hbb : ((j : Int) != (i : Int)) = true := by simp; omega
        obtain ⟨b5, c5, k1, k2, k3⟩ := hrel.out.2.elem (i := j) (j := i) hjl Hi.out
        have c4 := hrel.out.2.c4
        have Had := Lib.hid (hrel.out.2.add hn2 (i := i) (p := j) Hi.out hjl hji (at2 L' j i))
        have Hn : Hid (elimK i (j + 1) S0 = (addM L' j i (at2 L' j i), addM R' j i (at2 L' j i))) := by
          show stepRow i j (elimK i j S0) = _
          rw [hrel.out.1]
          unfold stepRow
          rw [if_neg hji]
        have k2' : (n : Int) ≤ (c5 : Int) := by omega
        have hin : (i : Int) < (n : Int) := by have := Hi.out; omega
        generalize hx5 : (at2 L' j i).toNat = x5 at Had k3
        clear hji hjl hrel hx5
        go_wp2_with fail
        refine Had.out.mono ?_
        rintro e w6 ⟨rfl, ht6⟩
        have Hn6 := Lib.hid ht6
        clear ht6 Had k1 k3 c4
        go_wp2_with fail
        go_roundw
        case rel => exact ⟨j + 1, _, _, by go_num, by omega, Hn.out, Hn6.out⟩
        case measure => simp [intOf]; omega
end Go.Proofs.Ytbfbjmngcojaoaa
