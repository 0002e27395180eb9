/-
  The program's inverse, walked.
-/
import Derived.Test.YtonihcgjepfpkaaKGf17
namespace Go.Proofs.Ytonihcgjepfpkaa
open Go.RowKit

set_option maxRecDepth 20000
section
variable {w0 w : World} {a4 a5 g1 g2 n lo1 hi1 lo2 hi2 : Nat} {L R : Mtx}
theorem Two.swap (h : Two w0 a4 a5 g1 g2 n lo1 hi1 lo2 hi2 L R w) (hn : n ≤ 255) {i p : Nat} (hi : i < n) (hp : p < n) (u : Value) :
    Calls Try.prog 61 #[.func (.func 63) #[] #[], .int .i64 (i : Int), .int .i64 (p : Int), u, .pointer (some ⟨a4, 0, none⟩), .pointer (some ⟨a5, 0, none⟩)] w fun e w' => e = .returned (.tuple #[]) ∧ Two w0 a4 a5 g1 g2 n lo1 hi1 lo2 hi2 (swapM L i p) (swapM R i p) w' :=
  both_swap _ _ _ h (swap_any g1 n n i p u L lo1 hi1 w h.m1 h.d1.1.symm hi hp hn) (h.d1.swap hi hp) (fun w1 h1 => swap_any g2 n n i p u R lo2 hi2 w1 h1.m2 h1.d2.1.symm hi hp hn) (h.d2.swap hi hp)
theorem Two.scale (h : Two w0 a4 a5 g1 g2 n lo1 hi1 lo2 hi2 L R w) (hn : n ≤ 255) {i : Nat} (hi : i < n) (u : Value) (x : UInt8) :
    Calls Try.prog 61 #[.func (.func 65) #[] #[], .int .i64 (i : Int), u, .int .u8 (x.toNat : Int), .pointer (some ⟨a4, 0, none⟩), .pointer (some ⟨a5, 0, none⟩)] w fun e w' => e = .returned (.tuple #[]) ∧ Two w0 a4 a5 g1 g2 n lo1 hi1 lo2 hi2 (scaleM L i x) (scaleM R i x) w' :=
  both_scale _ _ _ h (scale_any g1 n n i u x L lo1 hi1 w h.m1 h.d1.1.symm hi hn (by rw [(h.d1.get hi).2]; exact hn)) (h.d1.scale hi x) (fun w1 h1 => scale_any g2 n n i u x R lo2 hi2 w1 h1.m2 h1.d2.1.symm hi hn (by rw [(h1.d2.get hi).2]; exact hn)) (h.d2.scale hi x)
theorem Two.add (h : Two w0 a4 a5 g1 g2 n lo1 hi1 lo2 hi2 L R w) (hn : n ≤ 255) {i p : Nat} (hi : i < n) (hp : p < n) (hpi : p ≠ i) (x : UInt8) :
    Calls Try.prog 61 #[.func (.func 66) #[] #[], .int .i64 (p : Int), .int .i64 (i : Int), .int .u8 (x.toNat : Int), .pointer (some ⟨a4, 0, none⟩), .pointer (some ⟨a5, 0, none⟩)] w fun e w' => e = .returned (.tuple #[]) ∧ Two w0 a4 a5 g1 g2 n lo1 hi1 lo2 hi2 (addM L p i x) (addM R p i x) w' :=
  both_add _ _ _ h (addrow_any g1 n n p i x L lo1 hi1 w h.m1 h.d1.1.symm hp hi hpi hn (by rw [(h.d1.get hi).2]; exact hn) (by rw [(h.d1.get hp).2, (h.d1.get hi).2])) (h.d1.add hp hi x) (fun w1 h1 => addrow_any g2 n n p i x R lo2 hi2 w1 h1.m2 h1.d2.1.symm hp hi hpi hn (by rw [(h1.d2.get hi).2]; exact hn) (by rw [(h1.d2.get hp).2, (h1.d2.get hi).2])) (h.d2.add hp hi x)
theorem Two.pivot (h : Two w0 a4 a5 g1 g2 n lo1 hi1 lo2 hi2 L R w) (hn : n ≤ 255) {i : Nat} (hi : i < n) :
    Calls Try.prog 62 #[.slice (some ⟨g1, 0, none⟩) n n, .int .i64 (i : Int)] w fun e w' => e = .returned (.int .i64 (pivI (pivot L i))) ∧ w = w' := by
  obtain ⟨A, c, e, _, hr⟩ := h.m1.rm
  have hl := h.d1.1
  have e1 := (Value.slice.inj e)
  have := pivot_any A c i L w _ hr (by omega) (by omega) (fun k l hk => by rw [h.d1.2 k l hk]; exact hi)
  rw [← e] at this
  exact this
theorem Two.inv (h : Two w0 a4 a5 g1 g2 n lo1 hi1 lo2 hi2 L R w) {i : Nat} (h0 : at2 L i i ≠ 0) :
    Calls Try.prog 64 #[.int .u8 ((at2 L i i).toNat : Int), .int .i64 (-1)] w fun e w' => e = .returned (.tuple #[.int .u8 ((gib (at2 L i i)).toNat : Int), .int .i64 0]) ∧ w = w' := by
  have hne : (at2 L i i).toNat ≠ 0 := fun e => h0 (UInt8.toNat_inj.1 e)
  have := pow_any (at2 L i i).toNat (-1) w (u8_lt _)
  rw [(powV_inv (u8_lt _) hne).1, (powV_inv (u8_lt _) hne).2, ← gib_nat] at this
  exact this
end
/-- what the program's Inverse answers -/
def sqB (M : Mtx) : Bool := rightB M && decide (M.length = (M.headD []).length)
def invL (M : Mtx) : Mtx := if sqB M then (match invK M.length M M.length with | none => [] | some S => S.2) else []
def invC (M : Mtx) : Nat := if sqB M then (match invK M.length M M.length with | none => 4 | some _ => 0) else 1
theorem inv_sq {M : Mtx} (h : sqB M = true) : ∃ n, 1 ≤ n ∧ n ≤ 255 ∧ Dim M n ∧ M[0]? = some (M.headD []) := by
  unfold sqB at h
  rw [Bool.and_eq_true, decide_eq_true_eq] at h
  obtain ⟨n, h1, h2, h3, h4, h5, h6, h7⟩ := right_facts h.1
  exact ⟨n, h3, h4, ⟨by rw [h.2, h6], h7⟩, h5⟩
set_option maxHeartbeats 8000000 in
theorem inverse_sq (A : Option Addr) (c n : Nat) (M : Mtx) (w : World) (h : RM w w.heap.size A M) (hn1 : 1 ≤ n) (hn2 : n ≤ 255) (hd : Dim M n) (hr : rightB M = true) :
    Calls Try.prog 49 #[.slice A n c] w fun e w' => (∃ S, invK n M n = some S ∧ ∃ g lo hi, e = .returned (.tuple #[.slice (some ⟨g, 0, none⟩) n n, .int .i64 0]) ∧ MatO w' lo hi (.slice (some ⟨g, 0, none⟩) n n) S.2 ∧ w.heap.size ≤ lo ∧ hi ≤ w'.heap.size ∧ Dim S.2 n ∧ Below w.heap.size w w') ∨
      (invK n M n = none ∧ e = .returned (.tuple #[.slice none 0 0, .int .i64 4]) ∧ Below w.heap.size w w') := by
  have hlen := hd.1
  have HR : Hid (Calls Try.prog 59 #[.slice A n c] w fun e w' => e = .returned (.bool true) ∧ w = w') := by
    have := right_any A c M w _ h (by omega) (fun k l hk => by rw [hd.2 k l hk]; omega)
    rw [hr, hlen] at this
    exact this
  obtain ⟨b, o, rfl, hb⟩ := h.at_ (by omega)
  obtain ⟨A0, c0, q0, _, _⟩ := h.row (hd.get (i := 0) (by omega)).1
  rw [(hd.get (i := 0) (by omega)).2, Nat.add_zero] at q0
  have HE := Lib.hid (eachClone_any (some ⟨b, o, none⟩) c n M w h hlen.symm hn2 (fun k l hk => by rw [hd.2 k l hk]; omega))
  have HU : Hid (∀ W, Calls Try.prog 47 #[.int .i64 (n : Int)] W (MadeM W n (unitM n))) := fun W => unit_any n W hn1 hn2
  have Hd := Lib.hid hd
  have hn1' : (1 : Int) ≤ (n : Int) := by omega
  have hn0' : (0 : Int) < (n : Int) := by omega
  have hn2' : (n : Int) ≤ 255 := by omega
  clear h hd hr hlen hb hn1
  go_enter Try.func49, Try.ntmps49
  go_wp2_with fail
  refine HR.out.mono ?_
  rintro e w1 ⟨rfl, rfl⟩
  go_wp2_with fail
  refine HE.out.mono ?_
  rintro e w1 ⟨rfl, hm1, hb1⟩
  have Hm1 := Lib.hid hm1
  have Hb1 := Lib.hid hb1
  have HU1 := Lib.hid (HU.out (w1.alloc (.cells #[.slice (some ⟨w.heap.size, 0, none⟩) n n] 52)))
  clear hm1 hb1 HE HR HU q0
  go_wp2_with fail
  refine HU1.out.mono ?_
  rintro e w2 ⟨g2, rfl, hm2, hb2⟩
  have Hst : Hid (∃ a4 a5 lo1 hi1 lo2 hi2, a4 = w1.heap.size ∧ a5 = w2.heap.size ∧ Two w a4 a5 w.heap.size g2 n lo1 hi1 lo2 hi2 M (unitM n) (w2.alloc (.cells #[.slice (some ⟨g2, 0, none⟩) n n] 52))) := by
    have hs : (w1.alloc (.cells #[.slice (some ⟨w.heap.size, 0, none⟩) n n] 52)).heap.size = w1.heap.size + 1 := by simp
    rw [hs] at hm2 hb2
    exact ⟨_, _, _, _, _, _, rfl, rfl, Two.start (A := none) (Nat.le_refl _) Hm1.out Hb1.out Hd.out hm2 hb2⟩
  clear hm2 hb2 HU1 Hm1 Hb1
  go_upto_region 6 with fail
  obtain ⟨a4, a5, lo1, hi1, lo2, hi2, e4, e5, ht⟩ := Hst.out
  rw [← e4, ← e5]
  generalize w2.alloc (.cells #[.slice (some ⟨g2, 0, none⟩) n n] 52) = W0 at ht ⊢
  have c4 := ht.c4
  have Hs0 : Hid (invK n M 0 = some (M, unitM n) ∧ Two w a4 a5 w.heap.size g2 n lo1 hi1 lo2 hi2 M (unitM n) W0) := ⟨rfl, ht⟩
  clear Hst e4 e5 ht
  obtain ⟨g1, hg1⟩ : ∃ g1, g1 = w.heap.size := ⟨_, rfl⟩
  rw [← hg1] at c4 Hs0
  rw [← hg1]
  have Hg1 := Lib.hid hg1
  clear hg1
  go_wp2_with fail
  clear c4
  go_loopw [8, 9, 10, 11, 12, 36] (fun _ _ _ _ _ iv wr => ∃ (i : Nat) (L R : Mtx), iv = .int .i64 (i : Int) ∧ i ≤ n ∧ Hid (invK n M i = some (L, R) ∧ Two w a4 a5 g1 g2 n lo1 hi1 lo2 hi2 L R wr)) (fun _ _ _ _ _ iv _ => n - (intOf iv).toNat)
  case atStart => exact ⟨0, M, unitM n, rfl, Nat.zero_le _, Hs0.out⟩
  case round =>
    obtain ⟨i, L, R, rfl, hi, hrel⟩ := hrel
    by_cases hlt : i < n
    case neg =>
      obtain rfl : i = n := by omega
      have c5 := hrel.out.2.c5
      have Hfin : Hid (∃ S, invK i M i = some S ∧ ∃ g lo hi, Ending.returned (.tuple #[.slice (some ⟨g2, 0, none⟩) i i, .int .i64 0]) = .returned (.tuple #[.slice (some ⟨g, 0, none⟩) i i, .int .i64 0]) ∧ MatO wr lo hi (.slice (some ⟨g, 0, none⟩) i i) S.2 ∧ w.heap.size ≤ lo ∧ hi ≤ wr.heap.size ∧ Dim S.2 i ∧ Below w.heap.size w wr) := by
        obtain ⟨q1, q2⟩ := hrel.out
        exact ⟨_, q1, g2, lo2, hi2, rfl, q2.m2, q2.o6, by have := q2.o3; have := q2.o4; omega, q2.d2, q2.bel⟩
      clear hlt hrel
      go_wp2_with fail
      go_ret2
      exact .inl Hfin.out
    have hlt' : (i : Int) < (n : Int) := by omega
    obtain ⟨hk, ht⟩ := hrel.out
    have c4 := ht.c4
    have Ht := Lib.hid ht
    have Hk := Lib.hid hk
    have HP := Lib.hid (ht.pivot hn2 hlt)
    obtain ⟨wo, rfl⟩ : ∃ wo : World, wo = wr := ⟨_, rfl⟩
    clear hk ht hrel
    rcases hpv : pivot L i with _ | p
    · rw [hpv] at HP
      have Hno : Hid (invK n M n = none ∧ Below w.heap.size w wo) := by
        refine ⟨invK_none (k := i + 1) ?_ n (by omega), Ht.out.bel⟩
        show (invK n M i).bind (stepM n i) = none
        rw [Hk.out]
        show stepM n i (L, R) = none
        unfold stepM
        rw [show pivot (L, R).1 i = none from hpv]
      clear hpv hlt
      go_wp2_with fail
      refine HP.out.mono ?_
      rintro e w3 ⟨rfl, rfl⟩
      go_wp2_with fail
      go_ret2
      exact .inr ⟨Hno.out.1, rfl, Hno.out.2⟩
    rw [hpv] at HP
    obtain ⟨hp1, hp2, hp3⟩ := pivot_some hpv Ht.out.d1.1 hlt
    have HP2 : Hid (Calls Try.prog 62 #[.slice (some ⟨g1, 0, none⟩) n n, .int .i64 (i : Int)] wo fun e w' => e = .returned (.int .i64 (p : Int)) ∧ wo = w') := HP.out
    have Hsw : Hid (Calls Try.prog 61 #[.func (.func 63) #[] #[], .int .i64 (i : Int), .int .i64 (p : Int), .int .u8 1, .pointer (some ⟨a4, 0, none⟩), .pointer (some ⟨a5, 0, none⟩)] wo fun e w' => e = .returned (.tuple #[]) ∧ Two w a4 a5 g1 g2 n lo1 hi1 lo2 hi2 (swapM L i p) (swapM R i p) w') := Ht.out.swap hn2 hlt hp2 _
    have hpp : ¬ (p : Int) < 0 := by omega
    have Hne : Hid (at2 (swapM L i p) i i ≠ 0) := by show _ ≠ _; rw [at2_swap Ht.out.d1.1 hlt hp2]; exact hp3
    have Hstep : Hid (invK n M (i + 1) = some (elimK i n (turnM i p (L, R)))) := by
      show (invK n M i).bind (stepM n i) = _
      rw [Hk.out]
      show stepM n i (L, R) = _
      unfold stepM
      rw [show pivot (L, R).1 i = some p from hpv]
    obtain ⟨L1, hL1⟩ : ∃ L1, L1 = swapM L i p := ⟨_, rfl⟩
    obtain ⟨R1, hR1⟩ : ∃ R1, R1 = swapM R i p := ⟨_, rfl⟩
    have Hturn : Hid (turnM i p (L, R) = (scaleM L1 i (gib (at2 L1 i i)), scaleM R1 i (gib (at2 L1 i i)))) := by rw [hL1, hR1]; rfl
    rw [← hL1] at Hsw Hne
    rw [← hR1] at Hsw
    have Hi := Lib.hid hlt
    clear hL1 hR1 hp1 hp2 hp3 hpv HP Ht Hk hlt
    go_wp2_with fail
    refine HP2.out.mono ?_
    rintro e w3 ⟨rfl, rfl⟩
    go_wp2_with fail
    refine Hsw.out.mono ?_
    rintro e w3 ⟨rfl, ht3⟩
    clear c4 HP2 Hsw
    have c4 := ht3.c4
    obtain ⟨b3, c3, k1, k2, k3⟩ := ht3.elem (i := i) (j := i) Hi.out Hi.out
    have HV := Lib.hid (ht3.inv (i := i) Hne.out)
    have Hsc := Lib.hid (ht3.scale hn2 (i := i) Hi.out (.int .i64 (i : Int)) (gib (at2 L1 i i)))
    generalize (at2 L1 i i).toNat = y at HV k3
    have k2' : (n : Int) ≤ (c3 : Int) := by omega
    clear ht3 Hne
    go_wp2_with fail
    refine HV.out.mono ?_
    rintro e w4 ⟨rfl, rfl⟩
    clear k1 k3
    generalize hxn : (gib (at2 L1 i i)).toNat = xn at *
    go_wp2_with fail
    refine Hsc.out.mono ?_
    rintro e w4 ⟨rfl, ht4⟩
    clear c4
    have c4 := ht4.c4
    have Hs1 : Hid (elimK i 0 (turnM i p (L, R)) = (scaleM L1 i (gib (at2 L1 i i)), scaleM R1 i (gib (at2 L1 i i))) ∧ Two w a4 a5 g1 g2 n lo1 hi1 lo2 hi2 (scaleM L1 i (gib (at2 L1 i i))) (scaleM R1 i (gib (at2 L1 i i))) w4) := ⟨Hturn.out, ht4⟩
    generalize turnM i p (L, R) = S0 at *
    clear ht4 Hsc HV hxn Hturn
    go_wp2_with fail
    clear c4
    go_loopw [12, 66] (fun _ jv wz => ∃ (j : Nat) (L' R' : Mtx), jv = .int .i64 (j : Int) ∧ j ≤ n ∧ Hid (elimK i j S0 = (L', R') ∧ Two w a4 a5 g1 g2 n lo1 hi1 lo2 hi2 L' R' wz)) (fun _ jv _ => n - (intOf jv).toNat)
    case atStart => exact ⟨0, _, _, rfl, Nat.zero_le _, Hs1.out⟩
    case round =>
      obtain ⟨j, L', R', rfl, hj, hrel⟩ := hrel
      by_cases hjl : j < n
      case neg =>
        obtain rfl : j = n := by omega
        have Hn : Hid (invK j M (i + 1) = some (L', R') ∧ Two w a4 a5 g1 g2 j lo1 hi1 lo2 hi2 L' R' wr) := ⟨by rw [Hstep.out, hrel.out.1], hrel.out.2⟩
        clear hjl hrel
        go_wp2_with fail
        go_roundw
        case rel => exact ⟨i + 1, L', R', by go_num, by have := Hi.out; omega, Hn.out⟩
        case measure => (have := Hi.out; simp [intOf]; omega)
      have hjl' : (j : Int) < (n : Int) := by omega
      by_cases hji : j = i
      · have hbb : ((j : Int) != (i : Int)) = false := by simp [hji]
        have Hn : Hid (elimK i (j + 1) S0 = (L', R') ∧ Two w a4 a5 g1 g2 n lo1 hi1 lo2 hi2 L' R' wr) := ⟨by
          show stepRow i j (elimK i j S0) = _
          rw [hrel.out.1]
          unfold stepRow
          rw [if_pos hji], hrel.out.2⟩
        clear hji hjl hrel
        go_wp2_with fail
        go_roundw
        case rel => exact ⟨j + 1, L', R', by go_num, by omega, Hn.out⟩
        case measure => simp [intOf]; omega
      · have hbb : ((j : Int) != (i : Int)) = true := by simp; omega
        obtain ⟨b5, c5, k1, k2, k3⟩ := hrel.out.2.elem (i := j) (j := i) hjl Hi.out
        have c4 := hrel.out.2.c4
        have Had := Lib.hid (hrel.out.2.add hn2 (i := i) (p := j) Hi.out hjl hji (at2 L' j i))
        have Hn : Hid (elimK i (j + 1) S0 = (addM L' j i (at2 L' j i), addM R' j i (at2 L' j i))) := by
          show stepRow i j (elimK i j S0) = _
          rw [hrel.out.1]
          unfold stepRow
          rw [if_neg hji]
        have k2' : (n : Int) ≤ (c5 : Int) := by omega
        have hin : (i : Int) < (n : Int) := by have := Hi.out; omega
        generalize hx5 : (at2 L' j i).toNat = x5 at Had k3
        clear hji hjl hrel hx5
        go_wp2_with fail
        refine Had.out.mono ?_
        rintro e w6 ⟨rfl, ht6⟩
        have Hn6 := Lib.hid ht6
        clear ht6 Had k1 k3 c4
        go_wp2_with fail
        go_roundw
        case rel => exact ⟨j + 1, _, _, by go_num, by omega, Hn.out, Hn6.out⟩
        case measure => simp [intOf]; omega
end Go.Proofs.Ytonihcgjepfpkaa

/-
  In the end the left matrix is Unit: so the right one undoes the given one.
-/
namespace Go.Proofs.Ytonihcgjepfpkaa
open Go.RowKit

set_option maxRecDepth 20000
theorem at2_scale {M : Mtx} {i r j : Nat} {x : UInt8} (hi : i < M.length) : at2 (scaleM M i x) r j = if r = i then bm (at2 M i j) x else at2 M r j := by
  unfold at2 scaleM
  rw [set_getD hi]
  by_cases h : r = i
  · rw [if_pos h, if_pos h, scale_get]
  · rw [if_neg h, if_neg h]
theorem at2_add {M : Mtx} {n p i r j : Nat} {x : UInt8} (hd : Dim M n) (hp : p < n) (hi : i < n) : at2 (addM M p i x) r j = if r = p then at2 M p j ^^^ bm (at2 M i j) x else at2 M r j := by
  unfold at2 addM
  rw [set_getD (by rw [hd.1]; exact hp)]
  by_cases h : r = p
  · rw [if_pos h, if_pos h, add_get _ _ _ (by rw [(hd.get hp).2, (hd.get hi).2])]
  · rw [if_neg h, if_neg h]
theorem at2_swap' {M : Mtx} {i p r j : Nat} (hi : i < M.length) (hp : p < M.length) : at2 (swapM M i p) r j = at2 M (if r = p then i else if r = i then p else r) j := by
  unfold at2
  rw [swap_getD hi hp]
def Col (n k : Nat) (L : Mtx) : Prop := ∀ j, j < k → ∀ r, r < n → at2 L r j = if r = j then 1 else 0
structure Good (n k : Nat) (M L R : Mtx) : Prop where
  d1 : Dim L n
  d2 : Dim R n
  ak : Alike2 n M L R
  col : Col n k L
section
variable {n i p : Nat} {M L R : Mtx}
theorem Good.swap (h : Good n i M L R) (hi : i < n) (hp : p < n) (hip : i ≤ p) : Good n i M (swapM L i p) (swapM R i p) := by
  refine ⟨h.d1.swap hi hp, h.d2.swap hi hp, h.ak.swap h.d1 h.d2 hi hp, fun j hj r hr => ?_⟩
  rw [at2_swap' (by rw [h.d1.1]; exact hi) (by rw [h.d1.1]; exact hp)]
  by_cases h1 : r = p
  · rw [if_pos h1, h.col j hj i hi, if_neg (by omega), if_neg (by omega)]
  · rw [if_neg h1]
    by_cases h2 : r = i
    · rw [if_pos h2, h.col j hj p hp, if_neg (by omega), if_neg (by omega)]
    · rw [if_neg h2, h.col j hj r hr]
theorem Good.scale (h : Good n i M L R) (hi : i < n) (x : UInt8) : Good n i M (scaleM L i x) (scaleM R i x) := by
  refine ⟨h.d1.scale hi x, h.d2.scale hi x, h.ak.scale h.d1 h.d2 hi, fun j hj r hr => ?_⟩
  rw [at2_scale (by rw [h.d1.1]; exact hi)]
  by_cases h1 : r = i
  · rw [if_pos h1, h.col j hj i hi, if_neg (by omega), if_neg (by omega), bm_zero]
  · rw [if_neg h1, h.col j hj r hr]
/-- k rows are cleared in column i -/
structure Clear (n i k : Nat) (M : Mtx) (S : Mtx × Mtx) : Prop where
  good : Good n i M S.1 S.2
  one : at2 S.1 i i = 1
  zero : ∀ r, r < k → r ≠ i → at2 S.1 r i = 0
theorem Clear.row {k : Nat} {S : Mtx × Mtx} (h : Clear n i k M S) (hi : i < n) (hk : k < n) : Clear n i (k + 1) M (stepRow i k S) := by
  unfold stepRow
  by_cases hki : k = i
  · rw [if_pos hki]
    exact ⟨h.good, h.one, fun r hr hri => h.zero r (by omega) hri⟩
  · rw [if_neg hki]
    obtain ⟨g, h1, h0⟩ := h
    refine ⟨⟨g.d1.add hk hi _, g.d2.add hk hi _, g.ak.add g.d1 g.d2 hi hk, fun j hj r hr => ?_⟩, ?_, fun r hr hri => ?_⟩
    · show at2 (addM S.1 k i _) r j = _
      rw [at2_add g.d1 hk hi]
      by_cases e : r = k
      · rw [if_pos e, g.col j hj i hi, if_neg (show ¬ i = j by omega), bm_zero, bx_zero, g.col j hj k hk, e]
      · rw [if_neg e, g.col j hj r hr]
    · show at2 (addM S.1 k i _) i i = 1
      rw [at2_add g.d1 hk hi, if_neg (fun e => hki e.symm)]
      exact h1
    · show at2 (addM S.1 k i _) r i = 0
      rw [at2_add g.d1 hk hi]
      by_cases e : r = k
      · rw [if_pos e, h1, bm_one, bx_self]
      · rw [if_neg e]
        exact h0 r (by omega) hri
theorem Clear.elim {S : Mtx × Mtx} (h : Clear n i 0 M S) (hi : i < n) : ∀ k, k ≤ n → Clear n i k M (elimK i k S)
  | 0, _ => h
  | k + 1, hk => (Clear.elim h hi k (by omega)).row hi (by omega)
theorem Good.step {S : Mtx × Mtx} (h : Good n i M L R) (hi : i < n) (hs : stepM n i (L, R) = some S) : Good n (i + 1) M S.1 S.2 := by
  unfold stepM at hs
  rcases hp : pivot L i with _ | p
  · rw [show pivot (L, R).1 i = none from hp] at hs
    cases hs
  · rw [show pivot (L, R).1 i = some p from hp] at hs
    obtain ⟨p1, p2, p3⟩ := pivot_some hp h.d1.1 hi
    cases hs
    have h1 := h.swap hi p2 p1
    have hy : at2 (swapM L i p) i i ≠ 0 := by rw [at2_swap h.d1.1 hi p2]; exact p3
    have h2 := h1.scale hi (gib (at2 (swapM L i p) i i))
    have hc : Clear n i 0 M (turnM i p (L, R)) := by
      refine ⟨h2, ?_, fun r hr => by omega⟩
      show at2 (scaleM (swapM L i p) i _) i i = 1
      rw [at2_scale (by rw [h1.d1.1]; exact hi), if_pos rfl, bm_gib hy]
    have h3 := hc.elim hi n (Nat.le_refl _)
    refine ⟨h3.good.d1, h3.good.d2, h3.good.ak, fun j hj r hr => ?_⟩
    by_cases e : j = i
    · subst e
      by_cases e2 : r = j
      · rw [if_pos e2, e2]; exact h3.one
      · rw [if_neg e2]; exact h3.zero r hr e2
    · exact h3.good.col j (by omega) r hr
theorem invK_good (hd : Dim M n) : ∀ (k : Nat) (S : Mtx × Mtx), k ≤ n → invK n M k = some S → Good n k M S.1 S.2
  | 0, S, _, h => by
    cases h
    refine ⟨hd, dim_unit n, fun v hv => ?_, fun j hj => by omega⟩
    exact (apply_unit n _ (by simp [applyL, hd.1])).symm
  | k + 1, S, hk, h => by
    unfold invK at h
    rcases h0 : invK n M k with _ | ⟨L, R⟩
    · rw [h0] at h; cases h
    · rw [h0] at h
      exact (invK_good hd k (L, R) (by omega) h0).step (by omega) h
end
theorem col_unit {n : Nat} {L : Mtx} (hd : Dim L n) (h : Col n n L) : L = unitM n := by
  have hu : (unitM n).length = n := by simp [unitM]
  apply List.ext_getElem?
  intro r
  by_cases hr : r < n
  · rw [(hd.get hr).1]
    have e1 : (unitM n)[r]? = some ((unitM n).getD r []) := by
      rw [List.getD_eq_getElem?_getD, List.getElem?_eq_getElem (by omega)]; rfl
    rw [e1]
    congr 1
    rw [unit_getD n r hr]
    apply List.ext_getElem?
    intro j
    by_cases hj : j < n
    · have e2 := h j hj r hr
      have e3 := unitrow_get n r j hr
      unfold at2 at e2
      have hj1 : j < (L.getD r []).length := by rw [(hd.get hr).2]; exact hj
      have hj2 : j < ((List.replicate n (0:UInt8)).set r 1).length := by simpa using hj
      rw [List.getD_eq_getElem?_getD (l := L.getD r []), List.getElem?_eq_getElem hj1] at e2
      rw [List.getD_eq_getElem?_getD, List.getElem?_eq_getElem hj2] at e3
      rw [List.getElem?_eq_getElem hj1, List.getElem?_eq_getElem hj2]
      congr 1
      have e4 : (if r = j then (1 : UInt8) else 0) = if j = r then 1 else 0 := by
        by_cases e : r = j
        · rw [if_pos e, if_pos e.symm]
        · rw [if_neg e, if_neg (fun q => e q.symm)]
      simp only [Option.getD_some] at e2 e3
      rw [e2, e3, e4]
    · rw [List.getElem?_eq_none (by rw [(hd.get hr).2]; omega), List.getElem?_eq_none (by simp; omega)]
  · rw [List.getElem?_eq_none (by rw [hd.1]; omega), List.getElem?_eq_none (by omega)]
/-- THE INVERSE UNDOES -/
theorem inv_undoes {n : Nat} {M : Mtx} {S : Mtx × Mtx} (hd : Dim M n) (h : invK n M n = some S) (v : List UInt8) (hv : v.length = n) : applyL S.2 (applyL M v) = v := by
  have g := invK_good hd n S (Nat.le_refl _) h
  have e := col_unit g.d1 g.col
  have := g.ak v hv
  rw [e, apply_unit n v hv] at this
  exact this.symm
end Go.Proofs.Ytonihcgjepfpkaa

/-
  GfSolves, walked: the inverse where there is none, the product with a vector, the law.
-/
namespace Go.Proofs.Ytonihcgjepfpkaa
open Go.RowKit

set_option maxRecDepth 20000
set_option maxHeartbeats 1000000 in
theorem inverse_no (A : Option Addr) (c : Nat) (M : Mtx) (w : World) (h : RM w w.heap.size A M) (hl : M.length ≤ 1048576) (hll : ∀ (k : Nat) (l : List UInt8), M[k]? = some l → l.length ≤ 1048576) (hs : sqB M = false) :
    Calls Try.prog 49 #[.slice A M.length c] w fun e w' => e = .returned (.tuple #[.slice none 0 0, .int .i64 1]) ∧ w = w' := by
  have HR := Lib.hid (right_any A c M w _ h hl hll)
  by_cases hr : rightB M = true
  · rw [hr] at HR
    obtain ⟨n, h1, h2, h3, h4, h5, h6, h7⟩ := right_facts hr
    have hne : M.length ≠ n := fun e => by
      unfold sqB at hs
      rw [hr, h6, decide_eq_true e] at hs
      cases hs
    obtain ⟨b, o, rfl, hb⟩ := h.at_ (by omega)
    obtain ⟨A0, c0, q0, _, _⟩ := h.row h5
    rw [h6, Nat.add_zero] at q0
    have hbb : (((M.length : Nat) : Int) != (n : Int)) = true := by simp; omega
    have h1' : (0 : Int) < ((M.length : Nat) : Int) := by omega
    generalize M.length = N at *
    clear h hl hll hs hr h1 h2 h3 h4 h5 h6 h7 hne hb
    go_enter Try.func49, Try.ntmps49
    go_wp2_with fail
    refine HR.out.mono ?_
    rintro e w1 ⟨rfl, rfl⟩
    go_wp2_with fail
    go_ret2
    exact ⟨rfl, rfl⟩
  · rw [Bool.not_eq_true] at hr
    rw [hr] at HR
    generalize M.length = N at *
    clear h hl hll hs hr
    go_enter Try.func49, Try.ntmps49
    go_wp2_with fail
    refine HR.out.mono ?_
    rintro e w1 ⟨rfl, rfl⟩
    go_wp2_with fail
    go_ret2
    exact ⟨rfl, rfl⟩
end Go.Proofs.Ytonihcgjepfpkaa

/-
  A matrix turned, rows for columns: the program's.
-/
namespace Go.Proofs.Ytonihcgjepfpkaa
open Go.RowKit

set_option maxRecDepth 20000
/-- row a of the turned matrix, i rows done and j elements of the next -/
def turnR (M : Mtx) (i j a : Nat) : List UInt8 := (List.range M.length).map fun b => if b < i ∨ (b = i ∧ a < j) then at2 M b a else 0
def turnK (M : Mtx) (n i j : Nat) : Mtx := (List.range n).map (turnR M i j)
def turnedM (M : Mtx) (n : Nat) : Mtx := (List.range n).map fun a => M.map fun r => r.getD a 0
theorem turnR_length (M : Mtx) (i j a : Nat) : (turnR M i j a).length = M.length := by simp [turnR]
theorem turnK_length (M : Mtx) (n i j : Nat) : (turnK M n i j).length = n := by simp [turnK]
theorem turnR_get (M : Mtx) (i j a b : Nat) (h : b < M.length) : (turnR M i j a)[b]? = some (if b < i ∨ (b = i ∧ a < j) then at2 M b a else 0) := by
  unfold turnR
  rw [List.getElem?_map, List.getElem?_range h]; rfl
theorem turnK_get (M : Mtx) (n i j a : Nat) (h : a < n) : (turnK M n i j)[a]? = some (turnR M i j a) := by
  unfold turnK
  rw [List.getElem?_map, List.getElem?_range h]; rfl
theorem turnK_zero (M : Mtx) (n : Nat) : blankM n M.length = turnK M n 0 0 := by
  apply List.ext_getElem?
  intro a
  by_cases h : a < n
  · unfold blankM
    rw [turnK_get M n 0 0 a h, List.getElem?_replicate, if_pos h]
    congr 1
    apply List.ext_getElem?
    intro b
    by_cases hb : b < M.length
    · rw [turnR_get M 0 0 a b hb, List.getElem?_replicate, if_pos hb, if_neg (by omega)]
    · rw [List.getElem?_eq_none (by simp; omega), List.getElem?_eq_none (by rw [turnR_length]; omega)]
  · rw [List.getElem?_eq_none (by simp [blankM]; omega), List.getElem?_eq_none (by rw [turnK_length]; omega)]
theorem turnK_step (M : Mtx) (n i j : Nat) (hi : i < M.length) (hj : j < n) : (turnK M n i j).set j ((turnR M i j j).set i (at2 M i j)) = turnK M n i (j + 1) := by
  apply List.ext_getElem?
  intro a
  by_cases h : a < n
  · rw [List.getElem?_set, turnK_length, turnK_get M n i j a h, turnK_get M n i (j + 1) a h]
    by_cases e : j = a
    · subst e
      rw [if_pos rfl, if_pos hj]
      congr 1
      apply List.ext_getElem?
      intro b
      by_cases hb : b < M.length
      · rw [List.getElem?_set, turnR_length, turnR_get M i j j b hb, turnR_get M i (j + 1) j b hb]
        by_cases e2 : i = b
        · subst e2
          rw [if_pos rfl, if_pos hi, if_pos (by omega)]
        · rw [if_neg e2]
          by_cases h1 : b < i
          · rw [if_pos (.inl h1), if_pos (.inl h1)]
          · rw [if_neg (by omega), if_neg (by omega)]
      · rw [List.getElem?_eq_none (by rw [List.length_set, turnR_length]; omega), List.getElem?_eq_none (by rw [turnR_length]; omega)]
    · rw [if_neg e]
      congr 1
      apply List.ext_getElem?
      intro b
      by_cases hb : b < M.length
      · rw [turnR_get M i j a b hb, turnR_get M i (j + 1) a b hb]
        by_cases h1 : b < i ∨ (b = i ∧ a < j)
        · rw [if_pos h1, if_pos (by omega)]
        · rw [if_neg h1, if_neg (by omega)]
      · rw [List.getElem?_eq_none (by rw [turnR_length]; omega), List.getElem?_eq_none (by rw [turnR_length]; omega)]
  · rw [List.getElem?_eq_none (by rw [List.length_set, turnK_length]; omega), List.getElem?_eq_none (by rw [turnK_length]; omega)]
theorem turnK_next (M : Mtx) (n i : Nat) : turnK M n i n = turnK M n (i + 1) 0 := by
  unfold turnK turnR
  apply List.map_congr_left
  intro a ha
  have ha' := List.mem_range.1 ha
  apply List.map_congr_left
  intro b _
  by_cases h1 : b < i ∨ (b = i ∧ a < n)
  · rw [if_pos h1, if_pos (by omega)]
  · rw [if_neg h1, if_neg (by omega)]
theorem turnK_done (M : Mtx) (n : Nat) : turnK M n M.length 0 = turnedM M n := by
  unfold turnK turnedM
  apply List.map_congr_left
  intro a _
  apply List.ext_getElem?
  intro b
  by_cases hb : b < M.length
  · rw [turnR_get M M.length 0 a b hb, if_pos (.inl hb), List.getElem?_map, List.getElem?_eq_getElem hb]
    unfold at2
    rw [List.getD_eq_getElem?_getD (l := M), List.getElem?_eq_getElem hb]; rfl
  · rw [List.getElem?_eq_none (by rw [turnR_length]; omega), List.getElem?_eq_none (by simp; omega)]
def TurnRel (w : World) (M : Mtx) (lo hi g n i j : Nat) (wr : World) : Prop := MatO wr lo hi (.slice (some ⟨g, 0, none⟩) n n) (turnK M n i j) ∧ Below w.heap.size w wr ∧ wr.heap.size = hi ∧ lo = w.heap.size
set_option maxHeartbeats 1600000 in
theorem turned_any (A : Option Addr) (c N n : Nat) (M : Mtx) (w : World) (h : RM w w.heap.size A M) (hN : N = M.length) (h1 : 1 ≤ N) (h2 : N ≤ 255) (h3 : 1 ≤ n) (h4 : n ≤ 255) (hn : ∀ (k : Nat) (l : List UInt8), M[k]? = some l → l.length = n) :
    Calls Try.prog 67 #[.slice A N c] w fun e w' => e = .returned (.slice (some ⟨w.heap.size, 0, none⟩) n n) ∧ MatO w' w.heap.size w'.heap.size (.slice (some ⟨w.heap.size, 0, none⟩) n n) (turnedM M n) ∧ Below w.heap.size w w' := by
  have Hb := Lib.hid (blank_any n N w h3 h4 h1 h2)
  obtain ⟨b, o, rfl, hb⟩ := h.at_ (by omega)
  obtain ⟨A0, c0, q0, _, _⟩ := h.row (head_get (M := M) (by omega))
  rw [hn 0 _ (head_get (M := M) (by omega)), Nat.add_zero] at q0
  have Hh := Lib.hid h
  have Hn := Lib.hid hn
  have HN := Lib.hid hN
  have hN0 : (0 : Int) < (N : Int) := by omega
  have hN1 : (N : Int) ≤ 255 := by omega
  have hn1 : (n : Int) ≤ 255 := by omega
  have Hlt := Lib.hid hb
  clear h hn hN h1 h2 h3 h4 hb
  go_enter Try.func67, Try.ntmps67
  go_wp2_with fail
  refine Hb.out.mono ?_
  rintro e w2 ⟨rfl, hm2, hb2⟩
  have Hst : Hid (TurnRel w M w.heap.size w2.heap.size w.heap.size n 0 0 w2) := ⟨by rw [← turnK_zero, ← HN.out]; exact hm2, hb2, rfl, rfl⟩
  clear hm2 hb2 q0 Hb
  generalize w2.heap.size = hi at *
  obtain ⟨g, hg⟩ : ∃ g, g = w.heap.size := ⟨_, rfl⟩
  obtain ⟨lo, hlo⟩ : ∃ lo, lo = w.heap.size := ⟨_, rfl⟩
  rw [← hg]
  have Hst2 : Hid (TurnRel w M lo hi g n 0 0 w2) := by rw [hg, hlo]; exact Hst.out
  have HG := Lib.hid hg
  clear hg hlo Hst
  go_wp2_with fail
  go_loopw [4, 5, 17] (fun _ _ iv wr => ∃ i : Nat, iv = .int .i64 (i : Int) ∧ i ≤ N ∧ Hid (TurnRel w M lo hi g n i 0 wr)) (fun _ _ iv _ => N - (intOf iv).toNat)
  case atStart => exact ⟨0, rfl, Nat.zero_le _, Hst2.out⟩
  case round =>
    obtain ⟨i, rfl, hiN, hrel⟩ := hrel
    by_cases hlt : i < N
    · obtain ⟨r, hr⟩ : ∃ r, M[i]? = some r := ⟨_, List.getElem?_eq_getElem (by rw [← HN.out]; exact hlt)⟩
      obtain ⟨A', c', hc, hrb, _⟩ := Hh.out.row hr
      have hc0 : wr.cell? ⟨b, o + i, none⟩ = some (.slice A' r.length c') := (hrel.out.2.1.cell (p := ⟨b, o + i, none⟩) Hlt.out).trans hc
      have hlt' : (i : Int) < (N : Int) := by omega
      have Hr : Hid (M.getD i [] = r ∧ r.length = n ∧ RB w w.heap.size A' r ∧ i < M.length) := ⟨by rw [List.getD_eq_getElem?_getD, hr]; rfl, Hn.out i r hr, hrb, by rw [← HN.out]; exact hlt⟩
      rw [Hr.out.2.1] at hc0
      have Hrel := Lib.hid hrel.out
      clear hr hc hrb hrel
      obtain ⟨wo, rfl⟩ : ∃ wo : World, wo = wr := ⟨_, rfl⟩
      go_wp2_with fail
      clear hc0
      go_loopw [6, 7, 24] (fun _ _ jv wz => ∃ j : Nat, jv = .int .i64 (j : Int) ∧ j ≤ n ∧ Hid (TurnRel w M lo hi g n i j wz)) (fun _ _ jv _ => n - (intOf jv).toNat)
      case atStart => exact ⟨0, rfl, Nat.zero_le _, Hrel.out⟩
      case round =>
        obtain ⟨j, rfl, hj, hrel⟩ := hrel
        by_cases hjl : j < n
        · have hjl' : (j : Int) < (n : Int) := by omega
          obtain ⟨b', o', rfl, hb'⟩ := Hr.out.2.2.1.flat (by have := Hr.out.2.1; omega)
          obtain ⟨x, hx⟩ : ∃ x, r[j]? = some x := ⟨_, List.getElem?_eq_getElem (by rw [Hr.out.2.1]; exact hjl)⟩
          have k1 : wr.cell? ⟨b', o' + j, none⟩ = some (.int .u8 (x.toNat : Int)) := by
            obtain ⟨ad, e, _, hc⟩ := Hr.out.2.2.1 j x hx
            cases e
            rw [add_flat] at hc
            exact (hrel.out.2.1.cell (p := ⟨b', o' + j, none⟩) hb').trans hc
          obtain ⟨r1, r2, r3, r4⟩ := hrel.out
          obtain ⟨b5, c5, hra, hset⟩ := r1.row (i := j) (turnK_get M n i j j hjl)
          have k2 := hra.head
          rw [turnR_length, ← HN.out] at k2
          have k3 := hra.cap
          rw [turnR_length, ← HN.out] at k3
          have k4 := hra.cells i _ (turnR_get M i j j i Hr.out.2.2.2)
          have k5 := hra.free i
          have k3' : (N : Int) ≤ (c5 : Int) := by omega
          have Hnx : Hid (TurnRel w M lo hi g n i (j + 1) (wr.setCell ⟨b5, i, none⟩ (.int .u8 (x.toNat : Int)))) := by
            have := hset i x
            have e : x = at2 M i j := by
              unfold at2
              rw [Hr.out.1, List.getD_eq_getElem?_getD, hx]; rfl
            rw [e] at this ⊢
            rw [turnK_step M n i j Hr.out.2.2.2 hjl] at this
            exact ⟨this, r2.setCell (p := ⟨b5, i, none⟩) (by rw [← r4]; exact hra.low) _, by simp [World.setCell, r3], r4⟩
          generalize x.toNat = xn at *
          clear hx hrel hb' hjl r1 r2 r3 r4 hra hset
          go_wp2_with fail
          go_roundw
          case rel => exact ⟨j + 1, by go_num, by omega, Hnx.out⟩
          case measure => simp [intOf]; omega
        · obtain rfl : j = n := by omega
          have Hnx : Hid (TurnRel w M lo hi g j (i + 1) 0 wr) := by
            have := hrel.out
            unfold TurnRel at this ⊢
            rw [turnK_next] at this
            exact this
          clear hjl hrel
          go_wp2_with fail
          go_roundw
          case rel => exact ⟨i + 1, by go_num, by omega, Hnx.out⟩
          case measure => simp [intOf]; omega
    · obtain rfl : i = N := by omega
      have Hd : Hid (MatO wr w.heap.size wr.heap.size (.slice (some ⟨g, 0, none⟩) n n) (turnedM M n) ∧ Below w.heap.size w wr) := by
        obtain ⟨r1, r2, r3, r4⟩ := hrel.out
        rw [HN.out, turnK_done, ← r3, r4] at r1
        exact ⟨r1, r2⟩
      clear hlt hrel
      go_wp2_with fail
      go_ret
      exact ⟨by rw [HG.out]; rfl, by rw [← HG.out] at *; exact Hd.out.1, Hd.out.2⟩
end Go.Proofs.Ytonihcgjepfpkaa

/-
  The program's each with a matrix's apply handed in, and Times.
-/
namespace Go.Proofs.Ytonihcgjepfpkaa
open Go.RowKit

set_option maxRecDepth 20000
set_option maxHeartbeats 1600000 in
theorem eachApply_any (A : Option Addr) (c N : Nat) (M : Mtx) (A2 : Option Addr) (c2 N2 n : Nat) (M2 : Mtx) (w : World) (h : RM w w.heap.size A M) (hN : N = M.length) (hNb : N ≤ 255) (hr : ∀ (k : Nat) (l : List UInt8), M[k]? = some l → l.length = n) (hn : n ≤ 255)
    (h2 : RM w w.heap.size A2 M2) (hN2 : N2 = M2.length) (hN21 : 1 ≤ N2) (hN22 : N2 ≤ 255) (hr2 : ∀ (k : Nat) (l : List UInt8), M2[k]? = some l → l.length = n) :
    Calls Try.prog 60 #[.slice A N c, .func (.func 68) #[.slice A2 N2 c2] #[]] w fun e w' => e = .returned (.slice (some ⟨w.heap.size, 0, none⟩) N N) ∧ MatO w' w.heap.size w'.heap.size (.slice (some ⟨w.heap.size, 0, none⟩) N N) (M.map (applyL M2)) ∧ Below w.heap.size w w' := by
  obtain ⟨cs, Hcs, hmk⟩ := make_rows N (by omega)
  have Hst := Lib.hid (EachAt.start w N (M.map (applyL M2)) hNb Hcs.out)
  have Hh := Lib.hid h
  have Hr := Lib.hid hr
  have HN := Lib.hid hN
  have HA : Hid (∀ (Av : Option Addr) (cv : Nat) (v : List UInt8) (W : World), v.length = n → RM W W.heap.size A2 M2 → RB W W.heap.size Av v → Calls Try.prog 68 #[.slice A2 N2 c2, .slice Av n cv] W fun e w' => e = .returned (.slice (some ⟨W.heap.size, 0, none⟩) N2 N2) ∧ Blk w' W.heap.size (applyL M2 v) ∧ Below W.heap.size W w') := fun Av cv v W hv h2 hb => by
    have := apply_any A2 c2 M2 Av cv v W h2 hb (by omega) (by omega) (fun k l hk => by rw [hr2 k l hk, hv]) (by omega)
    rw [hv, ← hN2] at this
    exact this
  have Hh2 := Lib.hid h2
  have HN2 : Hid (N2 = M2.length ∧ 1 ≤ N2 ∧ N2 ≤ 255) := ⟨hN2, hN21, hN22⟩
  have hN1 : (N : Int) ≤ 255 := by omega
  clear h hr hN h2 hN2 hN21 hN22 hr2
  go_enter Try.func60, Try.ntmps60
  go_wp2_with fail
  go_loopw [6, 7, 13] (fun _ _ iv wr => ∃ i : Nat, iv = .int .i64 (i : Int) ∧ i ≤ N ∧ Hid (EachAt w N (M.map (applyL M2)) i wr)) (fun _ _ iv _ => N - (intOf iv).toNat)
  case atStart => exact ⟨0, rfl, Nat.zero_le _, Hst.out⟩
  case round =>
    obtain ⟨k, rfl, hk, hrel⟩ := hrel
    by_cases hlt : k < N
    · obtain ⟨l, hx⟩ : ∃ l, M[k]? = some l := ⟨_, List.getElem?_eq_getElem (by rw [← HN.out]; exact hlt)⟩
      obtain ⟨b, o, A', c', rfl, hb, hc, hrb, _⟩ := Hh.out k l hx
      have hln := Hr.out k l hx
      have k1 : wr.cell? ⟨b, o + k, none⟩ = some (.slice A' n c') := by
        rw [← hln]
        exact (hrel.out.bel.cell (p := ⟨b, o + k, none⟩) hb).trans hc
      have hlt' : (k : Int) < (N : Int) := by omega
      have HC := Lib.hid (HA.out A' c' l wr hln ((Hh2.out.below hrel.out.bel).wide hrel.out.bel.size) ((hrb.below hrel.out.bel).wide hrel.out.bel.size))
      have hml : (applyL M2 l).length = N2 := by unfold applyL; rw [List.length_map]; exact HN2.out.1.symm
      have HS : Hid (∀ w1, Blk w1 wr.heap.size (applyL M2 l) → Below wr.heap.size wr w1 → (∃ u, w1.cell? ⟨w.heap.size, k, none⟩ = some u) ∧ w1.frozen? ⟨w.heap.size, k, none⟩ = false ∧ EachAt w N (M.map (applyL M2)) (k + 1) (w1.setCell ⟨w.heap.size, k, none⟩ (.slice (some ⟨wr.heap.size, 0, none⟩) N2 N2))) := fun w1 ho hb => by
        have ho' : Own w1 wr.heap.size (.slice (some ⟨wr.heap.size, 0, none⟩) N2 N2) (applyL M2 l) := by
          have := ho.own (base := wr.heap.size) (Nat.le_refl _) (by rw [hml]; have := HN2.out.2.2; omega)
          rw [hml] at this
          exact this
        exact hrel.out.step hlt (by rw [List.getElem?_map, hx]; rfl) (by rw [hml]; exact HN2.out.2.1) ho' hb
      clear hx hb hc hrb hrel hlt hln hml
      obtain ⟨g, hg⟩ : ∃ g, g = w.heap.size := ⟨_, rfl⟩
      have HG := Lib.hid hg
      rw [← hg] at HS ⊢
      clear hg
      go_wp2_with fail
      refine HC.out.mono ?_
      rintro e w1 ⟨rfl, ho, hb1⟩
      obtain ⟨⟨u, k2⟩, k3, k4⟩ := HS.out w1 ho hb1
      have Hn := Lib.hid k4
      clear ho hb1 k4
      go_wp2_with fail
      go_roundw
      case rel => exact ⟨k + 1, by go_num, by omega, Hn.out⟩
      case measure => simp [intOf]; omega
    · obtain rfl : k = N := by omega
      have Hd : Hid (MatO wr w.heap.size wr.heap.size (.slice (some ⟨w.heap.size, 0, none⟩) k k) (M.map (applyL M2)) ∧ Below w.heap.size w wr) := ⟨hrel.out.done (by rw [List.length_map]; exact HN.out), hrel.out.bel⟩
      clear hlt hrel
      go_wp2_with fail
      go_ret
      exact ⟨rfl, Hd.out.1, Hd.out.2⟩
/-- the product, by columns -/
def timesM (M O : Mtx) : Mtx := turnedM ((turnedM O (O.headD []).length).map (applyL M)) M.length
def timesB (M O : Mtx) : Bool := rightB M && rightB O && decide ((M.headD []).length = O.length)
theorem turned_row (O : Mtx) (n : Nat) (k : Nat) (l : List UInt8) (h : (turnedM O n)[k]? = some l) : l.length = O.length := by
  unfold turnedM at h
  rw [List.getElem?_map] at h
  obtain ⟨a, _, rfl⟩ := Option.map_eq_some_iff.1 h
  simp
theorem turned_length (O : Mtx) (n : Nat) : (turnedM O n).length = n := by simp [turnedM]
set_option maxHeartbeats 1600000 in
theorem times_ok (A : Option Addr) (c : Nat) (M : Mtx) (A2 : Option Addr) (c2 : Nat) (O : Mtx) (w : World) (h : RM w w.heap.size A M) (h2 : RM w w.heap.size A2 O) (hr : rightB M = true) (hr2 : rightB O = true) (hmo : (M.headD []).length = O.length) :
    Calls Try.prog 50 #[.slice A M.length c, .slice A2 O.length c2] w fun e w' => ∃ g, e = .returned (.tuple #[.slice (some ⟨g, 0, none⟩) M.length M.length, .int .i64 0]) ∧ RM w' w'.heap.size (some ⟨g, 0, none⟩) (timesM M O) ∧ (∃ lo, w.heap.size ≤ lo ∧ MatO w' lo w'.heap.size (.slice (some ⟨g, 0, none⟩) M.length M.length) (timesM M O)) ∧ Below w.heap.size w w' := by
  obtain ⟨n, m1, m2, m3, m4, m5, m6, m7⟩ := right_facts hr
  obtain ⟨p, o1, o2, o3, o4, o5, o6, o7⟩ := right_facts hr2
  have HR1 := Lib.hid (right_any A c M w _ h (by omega) (fun k l hk => by rw [m7 k l hk]; omega))
  have HR2 := Lib.hid (right_any A2 c2 O w _ h2 (by omega) (fun k l hk => by rw [o7 k l hk]; omega))
  rw [hr] at HR1
  rw [hr2] at HR2
  obtain ⟨b, o, rfl, hb⟩ := h.at_ (by omega)
  obtain ⟨A0, c0, q0, _, _⟩ := h.row m5
  rw [hmo, Nat.add_zero] at q0
  have hno : n = O.length := by rw [← m6, hmo]
  have HT := Lib.hid (turned_any A2 c2 O.length p O w h2 rfl o1 o2 o3 o4 o7)
  have HE : Hid (∀ W (A' : Option Addr) (c' : Nat), Below w.heap.size w W → RM W W.heap.size A' (turnedM O p) → Calls Try.prog 60 #[.slice A' p c', .func (.func 68) #[.slice (some ⟨b, o, none⟩) M.length c] #[]] W fun e w' => e = .returned (.slice (some ⟨W.heap.size, 0, none⟩) p p) ∧ MatO w' W.heap.size w'.heap.size (.slice (some ⟨W.heap.size, 0, none⟩) p p) ((turnedM O p).map (applyL M)) ∧ Below W.heap.size W w') := fun W A' c' hb hm =>
    eachApply_any A' c' p (turnedM O p) (some ⟨b, o, none⟩) c M.length n M W hm (turned_length O p).symm o4 (fun k l hk => by rw [turned_row O p k l hk, hno]) m4 ((h.below hb).wide hb.size) rfl m1 m2 m7
  have HU : Hid (∀ W (A' : Option Addr) (c' : Nat), RM W W.heap.size A' ((turnedM O p).map (applyL M)) → Calls Try.prog 67 #[.slice A' p c'] W fun e w' => e = .returned (.slice (some ⟨W.heap.size, 0, none⟩) M.length M.length) ∧ MatO w' W.heap.size w'.heap.size (.slice (some ⟨W.heap.size, 0, none⟩) M.length M.length) (turnedM ((turnedM O p).map (applyL M)) M.length) ∧ Below W.heap.size W w') := fun W A' c' hm =>
    turned_any A' c' p M.length _ W hm (by rw [List.length_map, turned_length]) o3 o4 m1 m2 (fun k l hk => by
      rw [List.getElem?_map] at hk
      obtain ⟨a, _, rfl⟩ := Option.map_eq_some_iff.1 hk
      unfold applyL
      rw [List.length_map])
  have Hdef : Hid (turnedM ((turnedM O p).map (applyL M)) M.length = timesM M O) := by unfold timesM; rw [o6]; rfl
  have Hl : Hid ((turnedM O p).length = p ∧ (timesM M O).length = M.length) := ⟨turned_length O p, by unfold timesM; exact turned_length _ _⟩
  have h1' : (0 : Int) < ((M.length : Nat) : Int) := by omega
  generalize timesM M O = T at *
  generalize M.length = N at *
  generalize O.length = K at *
  clear h h2 hr hr2 hmo m1 m2 m3 m4 m5 m6 m7 o1 o2 o3 o4 o5 o6 o7 hno hb
  go_enter Try.func50, Try.ntmps50
  go_wp2_with fail
  refine HR1.out.mono ?_
  rintro e w1 ⟨rfl, rfl⟩
  go_wp2_with fail
  refine HR2.out.mono ?_
  rintro e w1 ⟨rfl, rfl⟩
  go_wp2_with fail
  refine HT.out.mono ?_
  rintro e w1 ⟨rfl, hm1, hb1⟩
  have Hb1 := Lib.hid hb1
  have HE1 : Hid (Calls Try.prog 60 #[.slice (some ⟨w.heap.size, 0, none⟩) p p, .func (.func 68) #[.slice (some ⟨b, o, none⟩) N c] #[]] w1 fun e w' => e = .returned (.slice (some ⟨w1.heap.size, 0, none⟩) p p) ∧ MatO w' w1.heap.size w'.heap.size (.slice (some ⟨w1.heap.size, 0, none⟩) p p) ((turnedM O p).map (applyL M)) ∧ Below w1.heap.size w1 w') := by
    obtain ⟨A3, c3, e3, _, r3⟩ := hm1.rm
    rw [Hl.out.1] at e3
    cases e3
    exact HE.out w1 _ _ hb1 r3
  clear hm1 hb1 HE HT HR1 HR2 q0
  go_wp2_with fail
  refine HE1.out.mono ?_
  rintro e w2 ⟨rfl, hm2, hb2⟩
  have Hb2 : Hid (Below w.heap.size w w2) := Hb1.out.trans (hb2.mono Hb1.out.size)
  have HU1 : Hid (Calls Try.prog 67 #[.slice (some ⟨w1.heap.size, 0, none⟩) p p] w2 fun e w' => e = .returned (.slice (some ⟨w2.heap.size, 0, none⟩) N N) ∧ MatO w' w2.heap.size w'.heap.size (.slice (some ⟨w2.heap.size, 0, none⟩) N N) T ∧ Below w2.heap.size w2 w') := by
    obtain ⟨A3, c3, e3, _, r3⟩ := hm2.rm
    rw [List.length_map, Hl.out.1] at e3
    cases e3
    rw [← Hdef.out]
    exact HU.out w2 _ _ r3
  clear hm2 hb2 HU HE1 Hb1
  go_wp2_with fail
  refine HU1.out.mono ?_
  rintro e w3 ⟨rfl, hm3, hb3⟩
  have Hend : Hid (RM w3 w3.heap.size (some ⟨w2.heap.size, 0, none⟩) T ∧ (∃ lo, w.heap.size ≤ lo ∧ MatO w3 lo w3.heap.size (.slice (some ⟨w2.heap.size, 0, none⟩) N N) T) ∧ Below w.heap.size w w3) := by
    obtain ⟨A3, c3, e3, _, r3⟩ := hm3.rm
    cases e3
    exact ⟨r3, ⟨_, Hb2.out.size, hm3⟩, Hb2.out.trans (hb3.mono Hb2.out.size)⟩
  clear hm3 hb3 HU1 Hb2
  go_wp2_with fail
  go_ret2
  exact ⟨_, rfl, Hend.out.1, Hend.out.2.1, Hend.out.2.2⟩
end Go.Proofs.Ytonihcgjepfpkaa
