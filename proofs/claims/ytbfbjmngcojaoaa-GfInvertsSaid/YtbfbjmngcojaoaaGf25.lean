/-
  Times that is refused; the program's Rows.
-/
import Derived.Test.YtbfbjmngcojaoaaGf24
import Derived.Test.YtbfbjmngcojaoaaGf12
namespace Go.Proofs.Ytbfbjmngcojaoaa
open Go.RowKit

set_option maxRecDepth 20000
/-- a matrix that was told, the caller's own -/
def TellsO (w : World) (L : Mtx) (code : Int) (e : Ending) (w' : World) : Prop :=
  ∃ A c, e = .returned (.tuple #[.slice A L.length c, .int .i64 code]) ∧ MatO w' w.heap.size w'.heap.size (.slice A L.length c) L ∧ Below w.heap.size w w'
theorem tellsO_bad {w : World} {f : FuncId} {args : Array Value} {code : Int} (h : Calls Try.prog f args w fun e w' => e = .returned (.tuple #[.slice none 0 0, .int .i64 code]) ∧ Below w.heap.size w w') : Calls Try.prog f args w (TellsO w [] code) :=
  h.mono fun e w' ⟨he, hw⟩ => ⟨none, 0, he, MatO.none _ _ _, hw⟩
theorem TellsO.rm {w w' : World} {L : Mtx} {code : Int} {e : Ending} (h : TellsO w L code e w') : ∃ A c, e = .returned (.tuple #[.slice A L.length c, .int .i64 code]) ∧ RM w' w'.heap.size A L ∧ MatO w' w.heap.size w'.heap.size (.slice A L.length c) L ∧ Below w.heap.size w w' := by
  obtain ⟨A, c, h1, h2, h3⟩ := h
  obtain ⟨A2, c2, e2, _, r⟩ := h2.rm
  cases e2
  exact ⟨A, c, h1, r, h2, h3⟩
set_option maxHeartbeats 1600000 in
theorem times_no (A : Option Addr) (c : Nat) (M : Mtx) (A2 : Option Addr) (c2 : Nat) (O : Mtx) (w : World) (h : RM w w.heap.size A M) (hl : M.length ≤ 1048576) (hll : ∀ (k : Nat) (l : List UInt8), M[k]? = some l → l.length ≤ 1048576)
    (h2 : RM w w.heap.size A2 O) (hl2 : O.length ≤ 1048576) (hll2 : ∀ (k : Nat) (l : List UInt8), O[k]? = some l → l.length ≤ 1048576) (hs : timesB M O = false) :
    Calls Try.prog 29 #[.slice A M.length c, .slice A2 O.length c2] w fun e w' => e = .returned (.tuple #[.slice none 0 0, .int .i64 1]) ∧ w = w' := by
  have HR := Lib.hid (right_any A c M w _ h hl hll)
  have HR2 := Lib.hid (right_any A2 c2 O w _ h2 hl2 hll2)
  by_cases hr : rightB M = true
  · rw [hr] at HR
    by_cases hr2 : rightB O = true
    · rw [hr2] at HR2
      obtain ⟨n, m1, m2, m3, m4, m5, m6, m7⟩ := right_facts hr
      have hne : n ≠ O.length := fun e => by
        unfold timesB at hs
        rw [hr, hr2, m6, decide_eq_true e] at hs
        cases hs
      obtain ⟨b, o, rfl, hb⟩ := h.at_ (by omega)
      obtain ⟨A0, c0, q0, _, _⟩ := h.row m5
      rw [m6, Nat.add_zero] at q0
      have hbb : ((n : Int) != ((O.length : Nat) : Int)) = true := by simp; omega
      have h1' : (0 : Int) < ((M.length : Nat) : Int) := by omega
      generalize M.length = N at *
      generalize O.length = K at *
      clear h hl hll h2 hl2 hll2 hs hr hr2 m1 m2 m3 m4 m5 m6 m7 hne hb
      go_enter Try.func29, Try.ntmps29
      go_wp2_with fail
      refine HR.out.mono ?_
      rintro e w1 ⟨rfl, rfl⟩
      go_wp2_with fail
      refine HR2.out.mono ?_
      rintro e w1 ⟨rfl, rfl⟩
      go_wp2_with fail
      go_ret2
      exact ⟨rfl, rfl⟩
    · rw [Bool.not_eq_true] at hr2
      rw [hr2] at HR2
      generalize M.length = N at *
      generalize O.length = K at *
      clear h hl hll h2 hl2 hll2 hs hr hr2
      go_enter Try.func29, Try.ntmps29
      go_wp2_with fail
      refine HR.out.mono ?_
      rintro e w1 ⟨rfl, rfl⟩
      go_wp2_with fail
      refine HR2.out.mono ?_
      rintro e w1 ⟨rfl, rfl⟩
      go_wp2_with fail
      go_ret2
      exact ⟨rfl, rfl⟩
  · rw [Bool.not_eq_true] at hr
    rw [hr] at HR
    generalize M.length = N at *
    generalize O.length = K at *
    clear h hl hll h2 hl2 hll2 hs hr HR2
    go_enter Try.func29, Try.ntmps29
    go_wp2_with fail
    refine HR.out.mono ?_
    rintro e w1 ⟨rfl, rfl⟩
    go_wp2_with fail
    go_ret2
    exact ⟨rfl, rfl⟩
def timesL (M O : Mtx) : Mtx := if timesB M O then timesM M O else []
def timesE (M O : Mtx) : Int := if timesB M O then 0 else 1
theorem times_any (A : Option Addr) (c : Nat) (M : Mtx) (A2 : Option Addr) (c2 : Nat) (O : Mtx) (w : World) (h : RM w w.heap.size A M) (hl : M.length ≤ 1048576) (hll : ∀ (k : Nat) (l : List UInt8), M[k]? = some l → l.length ≤ 1048576)
    (h2 : RM w w.heap.size A2 O) (hl2 : O.length ≤ 1048576) (hll2 : ∀ (k : Nat) (l : List UInt8), O[k]? = some l → l.length ≤ 1048576) :
    Calls Try.prog 29 #[.slice A M.length c, .slice A2 O.length c2] w (TellsO w (timesL M O) (timesE M O)) := by
  unfold timesL timesE
  by_cases hs : timesB M O = true
  · rw [if_pos hs, if_pos hs]
    unfold timesB at hs
    rw [Bool.and_eq_true, Bool.and_eq_true, decide_eq_true_eq] at hs
    refine (times_ok A c M A2 c2 O w h h2 hs.1.1 hs.1.2 hs.2).mono fun e w' ⟨g, he, _, ⟨lo, h1, h2⟩, h3⟩ => ?_
    have hlen : (timesM M O).length = M.length := by unfold timesM; exact turned_length _ _
    exact ⟨_, _, by rw [hlen]; exact he, by rw [hlen]; exact h2.wide h1 (Nat.le_refl _), h3⟩
  · rw [if_neg hs, if_neg hs]
    rw [Bool.not_eq_true] at hs
    exact tellsO_bad ((times_no A c M A2 c2 O w h hl hll h2 hl2 hll2 hs).mono fun e w' ⟨he, hw⟩ => ⟨he, by rw [← hw]; exact Below.refl _ _⟩)
theorem inverse_any (A : Option Addr) (c : Nat) (M : Mtx) (w : World) (h : RM w w.heap.size A M) (hl : M.length ≤ 1048576) (hll : ∀ (k : Nat) (l : List UInt8), M[k]? = some l → l.length ≤ 1048576) :
    Calls Try.prog 33 #[.slice A M.length c] w (TellsO w (invL M) (invC M)) := by
  by_cases hs : sqB M = true
  · obtain ⟨n, hn1, hn2, hd, _⟩ := inv_sq hs
    have hr : rightB M = true := by
      unfold sqB at hs
      rw [Bool.and_eq_true] at hs
      exact hs.1
    have := inverse_sq A c n M w h hn1 hn2 hd hr
    rw [← hd.1] at this
    refine this.mono fun e w' hx => ?_
    unfold invL invC
    rw [if_pos hs, if_pos hs]
    rcases hx with ⟨S, e1, g, lo, hi, e2, e3, e4, e5, e6, e7⟩ | ⟨e1, e2, e3⟩
    · rw [e1]
      have hl2 : S.2.length = M.length := e6.1
      exact ⟨_, _, by rw [hl2]; exact e2, by rw [hl2]; exact e3.wide e4 e5, e7⟩
    · rw [e1]
      exact ⟨none, 0, e2, MatO.none _ _ _, e3⟩
  · rw [Bool.not_eq_true] at hs
    have e1 : invL M = [] := by unfold invL; rw [hs]; rfl
    have e2 : ((invC M : Nat) : Int) = 1 := by unfold invC; rw [hs]; rfl
    rw [e1, e2]
    exact tellsO_bad ((inverse_no A c M w h hl hll hs).mono fun e w' ⟨he, hw⟩ => ⟨he, by rw [← hw]; exact Below.refl _ _⟩)
/-- rows by their numbers -/
def pick (M : Mtx) (ns : List Int) : Mtx := ns.map fun x => M.getD x.toNat []
def rowsB (M : Mtx) (ns : List Int) : Bool := rightB M && decide (1 ≤ ns.length ∧ ns.length ≤ 255 ∧ ∀ x ∈ ns, 0 ≤ x ∧ x < M.length)
def rowsL (M : Mtx) (ns : List Int) : Mtx := if rowsB M ns then pick M ns else []
def rowsE (M : Mtx) (ns : List Int) : Int := if rowsB M ns then 0 else 1
theorem rows_bad {M : Mtx} {ns : List Int} (h : rowsB M ns = false) : rowsL M ns = [] ∧ rowsE M ns = 1 := by
  unfold rowsL rowsE
  rw [h]
  exact ⟨rfl, rfl⟩
set_option maxHeartbeats 1600000 in
theorem rows_any (A : Option Addr) (c : Nat) (M : Mtx) (A2 : Option Addr) (c2 : Nat) (ns : List Int) (w : World) (h : RM w w.heap.size A M) (hl : M.length ≤ 1048576) (hll : ∀ (k : Nat) (l : List UInt8), M[k]? = some l → l.length ≤ 1048576)
    (h2 : RI w w.heap.size A2 ns) (hl2 : ns.length ≤ 1048576) :
    Calls Try.prog 35 #[.slice A M.length c, .slice A2 ns.length c2] w (TellsO w (rowsL M ns) (rowsE M ns)) := by
  have HR := Lib.hid (right_any A c M w _ h hl hll)
  by_cases hr : rightB M = true
  case neg =>
    rw [Bool.not_eq_true] at hr
    obtain ⟨e1, e2⟩ := rows_bad (M := M) (ns := ns) (by unfold rowsB; rw [hr]; rfl)
    rw [e1, e2]
    rw [hr] at HR
    refine tellsO_bad (code := 1) ?_
    generalize M.length = N at *
    generalize ns.length = K at *
    clear h hl hll h2 hl2 hr e1 e2
    go_enter Try.func35, Try.ntmps35
    go_wp2_with fail
    refine HR.out.mono ?_
    rintro e w1 ⟨rfl, rfl⟩
    go_wp2_with fail
    go_ret2
    exact ⟨rfl, Below.refl _ _⟩
  rw [hr] at HR
  by_cases hk : 1 ≤ ns.length ∧ ns.length ≤ 255
  case neg =>
    obtain ⟨e1, e2⟩ := rows_bad (M := M) (ns := ns) (by unfold rowsB; rw [hr, decide_eq_false (fun q => hk ⟨q.1, q.2.1⟩)]; rfl)
    rw [e1, e2]
    refine tellsO_bad (code := 1) ?_
    have Hf := Lib.hid (fits_no (ns.length : Int) w (by omega))
    generalize M.length = N at *
    generalize ns.length = K at *
    clear h hl hll h2 hl2 hr e1 e2 hk
    go_enter Try.func35, Try.ntmps35
    go_wp2_with fail
    refine HR.out.mono ?_
    rintro e w1 ⟨rfl, rfl⟩
    go_wp2_with fail
    refine Hf.out.mono ?_
    rintro e w1 ⟨rfl, rfl⟩
    go_wp2_with fail
    go_ret2
    exact ⟨rfl, Below.refl _ _⟩
  obtain ⟨k1, k2⟩ := hk
  have Hf := Lib.hid (fits_yes (ns.length : Int) w (by omega) (by omega))
  obtain ⟨n, m1, m2, m3, m4, m5, m6, m7⟩ := right_facts hr
  obtain ⟨cs, Hcs, hmk⟩ := make_rows ns.length (by omega)
  have Hst := Lib.hid (EachAt.start w ns.length (pick M ns) k2 Hcs.out)
  have Hp := Lib.hid (show (pick M ns).length = ns.length by unfold pick; rw [List.length_map])
  have Hh := Lib.hid h
  have H2 := Lib.hid h2
  obtain ⟨bn, on, rfl, hbn⟩ := h2.flat (by omega)
  obtain ⟨bm', om, rfl, hbm⟩ := h.at_ (by omega)
  have Hbn := Lib.hid hbn
  have Hbm := Lib.hid hbm
  obtain ⟨N, hN⟩ : ∃ N, N = M.length := ⟨_, rfl⟩
  obtain ⟨K, hK⟩ : ∃ K, K = ns.length := ⟨_, rfl⟩
  have HN : Hid (N = M.length ∧ K = ns.length) := ⟨hN, hK⟩
  have Hm : Hid (1 ≤ n ∧ n ≤ 255 ∧ ∀ (k : Nat) (l : List UInt8), M[k]? = some l → l.length = n) := ⟨m3, m4, m7⟩
  have Hr := Lib.hid hr
  rw [← hK] at Hf hmk Hst k1 k2 ⊢
  rw [← hN] at HR ⊢
  have hN1 : (N : Int) ≤ 255 := by omega
  have hK1 : (K : Int) ≤ 255 := by omega
  have Hk1 := Lib.hid k1
  have Hst2 : Hid (EachAt w K (pick M ns) 0 (w.alloc (.cells cs 46)) ∧ ∀ (j : Nat) (x : Int), j < 0 → ns[j]? = some x → 0 ≤ x ∧ x < (N : Int)) := ⟨Hst.out, fun j x hj => by omega⟩
  clear h hl hll h2 hl2 hr m1 m2 m3 m4 m5 m6 m7 hbn hbm hN hK k1 Hst
  go_enter Try.func35, Try.ntmps35
  go_wp2_with fail
  refine HR.out.mono ?_
  rintro e w1 ⟨rfl, rfl⟩
  go_wp2_with fail
  refine Hf.out.mono ?_
  rintro e w1 ⟨rfl, rfl⟩
  clear HR Hf
  go_wp2_with fail
  go_loopw [7, 8, 23] (fun _ _ iv wr => ∃ i : Nat, iv = .int .i64 (i : Int) ∧ i ≤ K ∧ Hid (EachAt w K (pick M ns) i wr ∧ ∀ (j : Nat) (x : Int), j < i → ns[j]? = some x → 0 ≤ x ∧ x < (N : Int))) (fun _ _ iv _ => K - (intOf iv).toNat)
  case atStart => exact ⟨0, rfl, Nat.zero_le _, Hst2.out⟩
  case round =>
    obtain ⟨k, rfl, hk, hrel⟩ := hrel
    by_cases hlt : k < K
    · have hlt' : (k : Int) < (K : Int) := by omega
      obtain ⟨x, hx⟩ : ∃ x, ns[k]? = some x := ⟨_, List.getElem?_eq_getElem (by rw [← HN.out.2]; exact hlt)⟩
      have kx : wr.cell? ⟨bn, on + k, none⟩ = some (.int .i64 x) := by
        obtain ⟨ad, e, _, hc⟩ := H2.out k x hx
        cases e
        rw [add_flat] at hc
        exact (hrel.out.1.bel.cell (p := ⟨bn, on + k, none⟩) Hbn.out).trans hc
      by_cases hgood : 0 ≤ x ∧ x < (N : Int)
      case neg =>
        have Hno : Hid (rowsL M ns = [] ∧ rowsE M ns = 1) := rows_bad (by
          unfold rowsB
          rw [decide_eq_false (fun q => hgood (by rw [HN.out.1]; exact q.2.2 x (List.mem_of_getElem? hx)))]
          exact Bool.and_false _)
        have Hbel := Lib.hid hrel.out.1.bel
        clear hrel hx hlt
        by_cases hneg : x < 0
        · clear hgood
          go_wp2_with fail
          go_ret2
          exact ⟨none, 0, by rw [Hno.out.1, Hno.out.2]; rfl, by rw [Hno.out.1]; exact MatO.none _ _ _, Hbel.out⟩
        · have hge : (N : Int) ≤ x := by omega
          clear hgood
          go_wp2_with fail
          go_ret2
          exact ⟨none, 0, by rw [Hno.out.1, Hno.out.2]; rfl, by rw [Hno.out.1]; exact MatO.none _ _ _, Hbel.out⟩
      obtain ⟨r, rfl⟩ : ∃ r : Nat, x = (r : Int) := ⟨x.toNat, by omega⟩
      have hrN : r < N := by omega
      have hrN' : (r : Int) < (N : Int) := hgood.2
      have hr0 : ¬ (r : Int) < 0 := by omega
      have hrge : ¬ (N : Int) ≤ (r : Int) := by omega
      obtain ⟨l, hl⟩ : ∃ l, M[r]? = some l := ⟨_, List.getElem?_eq_getElem (by rw [← HN.out.1]; exact hrN)⟩
      obtain ⟨A', c', hc, hrb, _⟩ := Hh.out.row hl
      have kl : wr.cell? ⟨bm', om + r, none⟩ = some (.slice A' l.length c') := (hrel.out.1.bel.cell (p := ⟨bm', om + r, none⟩) Hbm.out).trans hc
      have hln := Hm.out.2.2 r l hl
      have HC : Hid (Calls Try.prog 46 #[.slice A' l.length c'] wr fun e w1 => ∃ A9 c9, e = .returned (.slice A9 l.length c9) ∧ Own w1 wr.heap.size (.slice A9 l.length c9) l ∧ Below wr.heap.size wr w1) :=
        (clone_any A' c' l wr _ ((hrb.below hrel.out.1.bel).wide hrel.out.1.bel.size) (Nat.le_refl _) (by have := Hm.out.2.1; omega)).mono fun e w1 ⟨v, he, ho, hb⟩ => by
          obtain ⟨A9, c9, rfl, _⟩ := ho.rb
          exact ⟨A9, c9, he, ho, hb⟩
      have hpk : (pick M ns)[k]? = some l := by
        unfold pick
        rw [List.getElem?_map, hx]
        show some (M.getD (Int.toNat (r : Int)) []) = _
        rw [Int.toNat_natCast, List.getD_eq_getElem?_getD, hl]; rfl
      have HS : Hid (∀ v w1, Own w1 wr.heap.size v l → Below wr.heap.size wr w1 → (∃ u, w1.cell? ⟨w.heap.size, k, none⟩ = some u) ∧ w1.frozen? ⟨w.heap.size, k, none⟩ = false ∧ EachAt w K (pick M ns) (k + 1) (w1.setCell ⟨w.heap.size, k, none⟩ v)) := fun v w1 ho hb => hrel.out.1.step hlt hpk (by have := Hm.out.1; omega) ho hb
      have Hall : Hid (∀ (j : Nat) (x : Int), j < k + 1 → ns[j]? = some x → 0 ≤ x ∧ x < (N : Int)) := fun j x hj hjx => by
        by_cases hjk : j < k
        · exact hrel.out.2 j x hjk hjx
        · obtain rfl : j = k := by omega
          rw [hx] at hjx
          cases hjx
          exact hgood
      generalize l.length = m at *
      clear hx hl hc hrb hrel hlt hln hgood hpk
      obtain ⟨g, hg⟩ : ∃ g, g = w.heap.size := ⟨_, rfl⟩
      have HG := Lib.hid hg
      rw [← hg] at HS ⊢
      clear hg
      go_wp2_with fail
      refine HC.out.mono ?_
      rintro e w1 ⟨A9, c9, rfl, ho, hb1⟩
      obtain ⟨⟨u, q2⟩, q3, q4⟩ := HS.out _ w1 ho hb1
      have Hn := Lib.hid q4
      clear ho hb1 q4
      go_wp2_with fail
      go_roundw
      case rel => exact ⟨k + 1, by go_num, by omega, Hn.out, Hall.out⟩
      case measure => simp [intOf]; omega
    · obtain rfl : k = K := by omega
      have Hyes : Hid (rowsL M ns = pick M ns ∧ rowsE M ns = 0) := by
        have hb : rowsB M ns = true := by
          unfold rowsB
          rw [Hr.out, Bool.true_and]
          refine decide_eq_true ⟨by rw [← HN.out.2]; exact Hk1.out, by rw [← HN.out.2]; exact k2, fun x hx => ?_⟩
          obtain ⟨j, hj⟩ := List.getElem?_of_mem hx
          have := hrel.out.2 j x (by rw [HN.out.2]; exact (List.getElem?_eq_some_iff.1 hj).1) hj
          rw [← HN.out.1]
          exact this
        unfold rowsL rowsE
        rw [if_pos hb, if_pos hb]
        exact ⟨rfl, rfl⟩
      have Hd : Hid (MatO wr w.heap.size wr.heap.size (.slice (some ⟨w.heap.size, 0, none⟩) k k) (pick M ns) ∧ Below w.heap.size w wr) := ⟨hrel.out.1.done (by rw [Hp.out]; exact HN.out.2), hrel.out.1.bel⟩
      have Hp2 : Hid ((pick M ns).length = k) := by rw [Hp.out]; exact HN.out.2.symm
      clear hlt hrel
      go_wp2_with fail
      go_ret2
      exact ⟨some ⟨w.heap.size, 0, none⟩, k, by rw [Hyes.out.1, Hyes.out.2, Hp2.out]; rfl, by rw [Hyes.out.1, Hp2.out]; exact Hd.out.1, Hd.out.2⟩
end Go.Proofs.Ytbfbjmngcojaoaa
