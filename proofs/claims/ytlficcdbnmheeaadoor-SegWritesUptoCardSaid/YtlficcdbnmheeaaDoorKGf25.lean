/-
  Times that is refused; the program's Rows.
-/
import Derived.Test.YtlficcdbnmheeaaDoorKGf13
import Derived.Test.YtlficcdbnmheeaaDoorKGf8
namespace Go.Proofs.YtlficcdbnmheeaaDoor
open Go.RowKit

set_option maxRecDepth 20000
/-- a matrix that was told, the caller's own -/
def TellsO (w : World) (L : Mtx) (code : Int) (e : Ending) (w' : World) : Prop :=
  ∃ A c, e = .returned (.tuple #[.slice A L.length c, .int .i64 code]) ∧ MatO w' w.heap.size w'.heap.size (.slice A L.length c) L ∧ Below w.heap.size w w'
theorem tellsO_bad {w : World} {f : FuncId} {args : Array Value} {code : Int} (h : Calls Tryd.prog f args w fun e w' => e = .returned (.tuple #[.slice none 0 0, .int .i64 code]) ∧ Below w.heap.size w w') : Calls Tryd.prog f args w (TellsO w [] code) :=
  h.mono fun e w' ⟨he, hw⟩ => ⟨none, 0, he, MatO.nought _ _ _, hw⟩
theorem TellsO.rm {w w' : World} {L : Mtx} {code : Int} {e : Ending} (h : TellsO w L code e w') : ∃ A c, e = .returned (.tuple #[.slice A L.length c, .int .i64 code]) ∧ RM w' w'.heap.size A L ∧ MatO w' w.heap.size w'.heap.size (.slice A L.length c) L ∧ Below w.heap.size w w' := by
  obtain ⟨A, c, h1, h2, h3⟩ := h
  obtain ⟨A2, c2, e2, _, r⟩ := h2.rm
  cases e2
  exact ⟨A, c, h1, r, h2, h3⟩
set_option maxHeartbeats 1600000 in
theorem times_no (A : Option Addr) (c : Nat) (M : Mtx) (A2 : Option Addr) (c2 : Nat) (O : Mtx) (w : World) (h : RM w w.heap.size A M) (hl : M.length ≤ 1048576) (hll : ∀ (k : Nat) (l : List UInt8), M[k]? = some l → l.length ≤ 1048576)
    (h2 : RM w w.heap.size A2 O) (hl2 : O.length ≤ 1048576) (hll2 : ∀ (k : Nat) (l : List UInt8), O[k]? = some l → l.length ≤ 1048576) (hs : timesB M O = false) :
    Calls Tryd.prog 122 #[.slice A M.length c, .slice A2 O.length c2] w fun e w' => e = .returned (.tuple #[.slice none 0 0, .int .i64 1]) ∧ w = w' := by
  have HR := Lib.hid (right_any A c M w _ h hl hll)
  have HR2 := Lib.hid (right_any A2 c2 O w _ h2 hl2 hll2)
  by_cases hr : rightB M = true
  · rw [hr] at HR
    by_cases hr2 : rightB O = true
    · rw [hr2] at HR2
      obtain ⟨n, m1, m2, m3, m4, m5, m6, m7⟩ := right_facts hr
      have hne : n ≠ O.length := fun e => by
        unfold timesB at hs
        rw [hr, hr2, m6, decide_eq_true e] at hs
        cases hs
      obtain ⟨b, o, rfl, hb⟩ := h.at_ (by omega)
      obtain ⟨A0, c0, q0, _, _⟩ := h.row m5
      rw [m6, Nat.add_zero] at q0
      have hbb : ((n : Int) != ((O.length : Nat) : Int)) = true := by simp; omega
      have h1' : (0 : Int) < ((M.length : Nat) : Int) := by omega
      generalize M.length = N at *
      generalize O.length = K at *
      clear h hl hll h2 hl2 hll2 hs hr hr2 m1 m2 m3 m4 m5 m6 m7 hne hb
      go_enter Tryd.func122, Tryd.ntmps122
      go_wp2_with fail
      refine HR.out.mono ?_
      rintro e w1 ⟨rfl, rfl⟩
      go_wp2_with fail
      refine HR2.out.mono ?_
      rintro e w1 ⟨rfl, rfl⟩
      go_wp2_with fail
      go_ret2
      exact ⟨rfl, rfl⟩
    · rw [Bool.not_eq_true] at hr2
      rw [hr2] at HR2
      generalize M.length = N at *
      generalize O.length = K at *
      clear h hl hll h2 hl2 hll2 hs hr hr2
      go_enter Tryd.func122, Tryd.ntmps122
      go_wp2_with fail
      refine HR.out.mono ?_
      rintro e w1 ⟨rfl, rfl⟩
      go_wp2_with fail
      refine HR2.out.mono ?_
      rintro e w1 ⟨rfl, rfl⟩
      go_wp2_with fail
      go_ret2
      exact ⟨rfl, rfl⟩
  · rw [Bool.not_eq_true] at hr
    rw [hr] at HR
    generalize M.length = N at *
    generalize O.length = K at *
    clear h hl hll h2 hl2 hll2 hs hr HR2
    go_enter Tryd.func122, Tryd.ntmps122
    go_wp2_with fail
    refine HR.out.mono ?_
    rintro e w1 ⟨rfl, rfl⟩
    go_wp2_with fail
    go_ret2
    exact ⟨rfl, rfl⟩
def timesL (M O : Mtx) : Mtx := if timesB M O then timesM M O else []
def timesE (M O : Mtx) : Int := if timesB M O then 0 else 1
theorem times_any (A : Option Addr) (c : Nat) (M : Mtx) (A2 : Option Addr) (c2 : Nat) (O : Mtx) (w : World) (h : RM w w.heap.size A M) (hl : M.length ≤ 1048576) (hll : ∀ (k : Nat) (l : List UInt8), M[k]? = some l → l.length ≤ 1048576)
    (h2 : RM w w.heap.size A2 O) (hl2 : O.length ≤ 1048576) (hll2 : ∀ (k : Nat) (l : List UInt8), O[k]? = some l → l.length ≤ 1048576) :
    Calls Tryd.prog 122 #[.slice A M.length c, .slice A2 O.length c2] w (TellsO w (timesL M O) (timesE M O)) := by
  unfold timesL timesE
  by_cases hs : timesB M O = true
  · rw [if_pos hs, if_pos hs]
    unfold timesB at hs
    rw [Bool.and_eq_true, Bool.and_eq_true, decide_eq_true_eq] at hs
    refine (times_ok A c M A2 c2 O w h h2 hs.1.1 hs.1.2 hs.2).mono fun e w' ⟨g, he, _, ⟨lo, h1, h2⟩, h3⟩ => ?_
    have hlen : (timesM M O).length = M.length := by unfold timesM; exact turned_length _ _
    exact ⟨_, _, by rw [hlen]; exact he, by rw [hlen]; exact h2.wide h1 (Nat.le_refl _), h3⟩
  · rw [if_neg hs, if_neg hs]
    rw [Bool.not_eq_true] at hs
    exact tellsO_bad ((times_no A c M A2 c2 O w h hl hll h2 hl2 hll2 hs).mono fun e w' ⟨he, hw⟩ => ⟨he, by rw [← hw]; exact Below.refl _ _⟩)
theorem inverse_any (A : Option Addr) (c : Nat) (M : Mtx) (w : World) (h : RM w w.heap.size A M) (hl : M.length ≤ 1048576) (hll : ∀ (k : Nat) (l : List UInt8), M[k]? = some l → l.length ≤ 1048576) :
    Calls Tryd.prog 121 #[.slice A M.length c] w (TellsO w (invL M) (invC M)) := by
  by_cases hs : sqB M = true
  · obtain ⟨n, hn1, hn2, hd, _⟩ := inv_sq hs
    have hr : rightB M = true := by
      unfold sqB at hs
      rw [Bool.and_eq_true] at hs
      exact hs.1
    have := inverse_sq A c n M w h hn1 hn2 hd hr
    rw [← hd.1] at this
    refine this.mono fun e w' hx => ?_
    unfold invL invC
    rw [if_pos hs, if_pos hs]
    rcases hx with ⟨S, e1, g, lo, hi, e2, e3, e4, e5, e6, e7⟩ | ⟨e1, e2, e3⟩
    · rw [e1]
      have hl2 : S.2.length = M.length := e6.1
      exact ⟨_, _, by rw [hl2]; exact e2, by rw [hl2]; exact e3.wide e4 e5, e7⟩
    · rw [e1]
      exact ⟨none, 0, e2, MatO.nought _ _ _, e3⟩
  · rw [Bool.not_eq_true] at hs
    have e1 : invL M = [] := by unfold invL; rw [hs]; rfl
    have e2 : ((invC M : Nat) : Int) = 1 := by unfold invC; rw [hs]; rfl
    rw [e1, e2]
    exact tellsO_bad ((inverse_no A c M w h hl hll hs).mono fun e w' ⟨he, hw⟩ => ⟨he, by rw [← hw]; exact Below.refl _ _⟩)
/-- rows by their numbers -/
def pick (M : Mtx) (ns : List Int) : Mtx := ns.map fun x => M.getD x.toNat []
def rowsB (M : Mtx) (ns : List Int) : Bool := rightB M && decide (1 ≤ ns.length ∧ ns.length ≤ 255 ∧ ∀ x ∈ ns, 0 ≤ x ∧ x < M.length)
def rowsL (M : Mtx) (ns : List Int) : Mtx := if rowsB M ns then pick M ns else []
def rowsE (M : Mtx) (ns : List Int) : Int := if rowsB M ns then 0 else 1
theorem rows_bad {M : Mtx} {ns : List Int} (h : rowsB M ns = false) : rowsL M ns = [] ∧ rowsE M ns = 1 := by
  unfold rowsL rowsE
  rw [h]
  exact ⟨rfl, rfl⟩
set_option maxHeartbeats 1600000 in
theorem rows_any (A : Option Addr) (c : Nat) (M : Mtx) (A2 : Option Addr) (c2 : Nat) (ns : List Int) (w : World) (h : RM w w.heap.size A M) (hl : M.length ≤ 1048576) (hll : ∀ (k : Nat) (l : List UInt8), M[k]? = some l → l.length ≤ 1048576)
    (h2 : RI w w.heap.size A2 ns) (hl2 : ns.length ≤ 1048576) :
    Calls Tryd.prog 120 #[.slice A M.length c, .slice A2 ns.length c2] w (TellsO w (rowsL M ns) (rowsE M ns)) := by
  have HR := Lib.hid (right_any A c M w _ h hl hll)
  by_cases hr : rightB M = true
  case neg =>
    rw [Bool.not_eq_true] at hr
    obtain ⟨e1, e2⟩ := rows_bad (M := M) (ns := ns) (by unfold rowsB; rw [hr]; rfl)
    rw [e1, e2]
    rw [hr] at HR
    refine tellsO_bad (code := 1) ?_
    generalize M.length = N at *
    generalize ns.length = K at *
    clear h hl hll h2 hl2 hr e1 e2
    go_enter Tryd.func120, Tryd.ntmps120
    go_wp2_with fail
    refine HR.out.mono ?_
    rintro e w1 ⟨rfl, rfl⟩
    go_wp2_with fail
    go_ret2
    exact ⟨rfl, Below.refl _ _⟩
  rw [hr] at HR
  by_cases hk : 1 ≤ ns.length ∧ ns.length ≤ 255
  case neg =>
    obtain ⟨e1, e2⟩ := rows_bad (M := M) (ns := ns) (by unfold rowsB; rw [hr, decide_eq_false (fun q => hk ⟨q.1, q.2.1⟩)]; rfl)
    rw [e1, e2]
    refine tellsO_bad (code := 1) ?_
    have Hf := Lib.hid (fits_no (ns.length : Int) w (by omega))
    generalize M.length = N at *
    generalize ns.length = K at *
    clear h hl hll h2 hl2 hr e1 e2 hk
    go_enter Tryd.func120, Tryd.ntmps120
    go_wp2_with fail
    refine HR.out.mono ?_
    rintro e w1 ⟨rfl, rfl⟩
    go_wp2_with fail
    refine Hf.out.mono ?_
    rintro e w1 ⟨rfl, rfl⟩
    go_wp2_with fail
    go_ret2
    exact ⟨rfl, Below.refl _ _⟩
  obtain ⟨k1, k2⟩ := hk
  have Hf := Lib.hid (fits_yes (ns.length : Int) w (by omega) (by omega))
  obtain ⟨n, m1, m2, m3, m4, m5, m6, m7⟩ := right_facts hr
  obtain ⟨cs, Hcs, hmk⟩ := make_rows ns.length (by omega)
  have Hst := Lib.hid (EachAt.start w ns.length (pick M ns) k2 Hcs.out)
  have Hp := Lib.hid (show (pick M ns).length = ns.length by unfold pick; rw [List.length_map])
  have Hh := Lib.hid h
  have H2 := Lib.hid h2
  obtain ⟨bn, on, rfl, hbn⟩ := h2.flat (by omega)
  obtain ⟨bm', om, rfl, hbm⟩ := h.at_ (by omega)
  have Hbn := Lib.hid hbn
  have Hbm := Lib.hid hbm
  obtain ⟨N, hN⟩ : ∃ N, N = M.length := ⟨_, rfl⟩
  obtain ⟨K, hK⟩ : ∃ K, K = ns.length := ⟨_, rfl⟩
  have HN : Hid (N = M.length ∧ K = ns.length) := ⟨hN, hK⟩
  have Hm : Hid (1 ≤ n ∧ n ≤ 255 ∧ ∀ (k : Nat) (l : List UInt8), M[k]? = some l → l.length = n) := ⟨m3, m4, m7⟩
  have Hr := Lib.hid hr
  rw [← hK] at Hf hmk Hst k1 k2 ⊢
  rw [← hN] at HR ⊢
  have hN1 : (N : Int) ≤ 255 := by omega
  have hK1 : (K : Int) ≤ 255 := by omega
  have Hk1 := Lib.hid k1
  have Hst2 : Hid (EachAt w K (pick M ns) 0 (w.alloc (.cells cs 25)) ∧ ∀ (j : Nat) (x : Int), j < 0 → ns[j]? = some x → 0 ≤ x ∧ x < (N : Int)) := ⟨Hst.out, fun j x hj => by omega⟩
  clear h hl hll h2 hl2 hr m1 m2 m3 m4 m5 m6 m7 hbn hbm hN hK k1 Hst
  go_enter Tryd.func120, Tryd.ntmps120
  go_wp2_with fail
  refine HR.out.mono ?_
  rintro e w1 ⟨rfl, rfl⟩
  go_wp2_with fail
  refine Hf.out.mono ?_
  rintro e w1 ⟨rfl, rfl⟩
  clear HR Hf
  go_wp2_with fail
  go_loopw [7, 8, 23] (fun _ _ iv wr => ∃ i : Nat, iv = .int .i64 (i : Int) ∧ i ≤ K ∧ Hid (EachAt w K (pick M ns) i wr ∧ ∀ (j : Nat) (x : Int), j < i → ns[j]? = some x → 0 ≤ x ∧ x < (N : Int))) (fun _ _ iv _ => K - (intOf iv).toNat)
  case atStart => exact ⟨0, rfl, Nat.zero_le _, Hst2.out⟩
  case round =>
    obtain ⟨k, rfl, hk, hrel⟩ := hrel
    by_cases hlt : k < K
    · have hlt' : (k : Int) < (K : Int) := by omega
      obtain ⟨x, hx⟩ : ∃ x, ns[k]? = some x := ⟨_, List.getElem?_eq_getElem (by rw [← HN.out.2]; exact hlt)⟩
      have kx : wr.cell? ⟨bn, on + k, none⟩ = some (.int .i64 x) := by
        obtain ⟨ad, e, _, hc⟩ := H2.out k x hx
        cases e
        rw [add_flat] at hc
        exact (hrel.out.1.bel.cell (p := ⟨bn, on + k, none⟩) Hbn.out).trans hc
      by_cases hgood : 0 ≤ x ∧ x < (N : Int)
      case neg =>
        have Hno : Hid (rowsL M ns = [] ∧ rowsE M ns = 1) := rows_bad (by
          unfold rowsB
          rw [decide_eq_false (fun q => hgood (by rw [HN.out.1]; exact q.2.2 x (List.mem_of_getElem? hx)))]
          exact Bool.and_false _)
        have Hbel := Lib.hid hrel.out.1.bel
        clear hrel hx hlt
        by_cases hneg : x < 0
        · clear hgood
          go_wp2_with fail
          go_ret2
          exact ⟨none, 0, by rw [Hno.out.1, Hno.out.2]; rfl, by rw [Hno.out.1]; exact MatO.nought _ _ _, Hbel.out⟩
        · have hge : (N : Int) ≤ x := by omega
          clear hgood
          go_wp2_with fail
          go_ret2
          exact ⟨none, 0, by rw [Hno.out.1, Hno.out.2]; rfl, by rw [Hno.out.1]; exact MatO.nought _ _ _, Hbel.out⟩
      obtain ⟨r, rfl⟩ : ∃ r : Nat, x = (r : Int) := ⟨x.toNat, by omega⟩
      have hrN : r < N := by omega
      have hrN' : (r : Int) < (N : Int) := hgood.2
      have hr0 : ¬ (r : Int) < 0 := by omega
      have hrge : ¬ (N : Int) ≤ (r : Int) := by omega
      obtain ⟨l, hl⟩ : ∃ l, M[r]? = some l := ⟨_, List.getElem?_eq_getElem (by rw [← HN.out.1]; exact hrN)⟩
      obtain ⟨A', c', hc, hrb, _⟩ := Hh.out.row hl
      have kl : wr.cell? ⟨bm', om + r, none⟩ = some (.slice A' l.length c') := (hrel.out.1.bel.cell (p := ⟨bm', om + r, none⟩) Hbm.out).trans hc
      have hln := Hm.out.2.2 r l hl
      have HC : Hid (Calls Tryd.prog 82 #[.slice A' l.length c'] wr fun e w1 => ∃ A9 c9, e = .returned (.slice A9 l.length c9) ∧ Own w1 wr.heap.size (.slice A9 l.length c9) l ∧ Below wr.heap.size wr w1) :=
        (clone_any A' c' l wr _ ((hrb.below hrel.out.1.bel).wide hrel.out.1.bel.size) (Nat.le_refl _) (by have := Hm.out.2.1; omega)).mono fun e w1 ⟨v, he, ho, hb⟩ => by
          obtain ⟨A9, c9, rfl, _⟩ := ho.rb
          exact ⟨A9, c9, he, ho, hb⟩
      have hpk : (pick M ns)[k]? = some l := by
        unfold pick
        rw [List.getElem?_map, hx]
        show some (M.getD (Int.toNat (r : Int)) []) = _
        rw [Int.toNat_natCast, List.getD_eq_getElem?_getD, hl]; rfl
      have HS : Hid (∀ v w1, Own w1 wr.heap.size v l → Below wr.heap.size wr w1 → (∃ u, w1.cell? ⟨w.heap.size, k, none⟩ = some u) ∧ w1.frozen? ⟨w.heap.size, k, none⟩ = false ∧ EachAt w K (pick M ns) (k + 1) (w1.setCell ⟨w.heap.size, k, none⟩ v)) := fun v w1 ho hb => hrel.out.1.step hlt hpk (by have := Hm.out.1; omega) ho hb
      have Hall : Hid (∀ (j : Nat) (x : Int), j < k + 1 → ns[j]? = some x → 0 ≤ x ∧ x < (N : Int)) := fun j x hj hjx => by
        by_cases hjk : j < k
        · exact hrel.out.2 j x hjk hjx
        · obtain rfl : j = k := by omega
          rw [hx] at hjx
          cases hjx
          exact hgood
      generalize l.length = m at *
      clear hx hl hc hrb hrel hlt hln hgood hpk
      obtain ⟨g, hg⟩ : ∃ g, g = w.heap.size := ⟨_, rfl⟩
      have HG := Lib.hid hg
      rw [← hg] at HS ⊢
      clear hg
      go_wp2_with fail
      refine HC.out.mono ?_
      rintro e w1 ⟨A9, c9, rfl, ho, hb1⟩
      obtain ⟨⟨u, q2⟩, q3, q4⟩ := HS.out _ w1 ho hb1
      have Hn := Lib.hid q4
      clear ho hb1 q4
      go_wp2_with fail
      go_roundw
      case rel => exact ⟨k + 1, by go_num, by omega, Hn.out, Hall.out⟩
      case measure => simp [intOf]; omega
    · obtain rfl : k = K := by omega
      have Hyes : Hid (rowsL M ns = pick M ns ∧ rowsE M ns = 0) := by
        have hb : rowsB M ns = true := by
          unfold rowsB
          rw [Hr.out, Bool.true_and]
          refine decide_eq_true ⟨by rw [← HN.out.2]; exact Hk1.out, by rw [← HN.out.2]; exact k2, fun x hx => ?_⟩
          obtain ⟨j, hj⟩ := List.getElem?_of_mem hx
          have := hrel.out.2 j x (by rw [HN.out.2]; exact (List.getElem?_eq_some_iff.1 hj).1) hj
          rw [← HN.out.1]
          exact this
        unfold rowsL rowsE
        rw [if_pos hb, if_pos hb]
        exact ⟨rfl, rfl⟩
      have Hd : Hid (MatO wr w.heap.size wr.heap.size (.slice (some ⟨w.heap.size, 0, none⟩) k k) (pick M ns) ∧ Below w.heap.size w wr) := ⟨hrel.out.1.done (by rw [Hp.out]; exact HN.out.2), hrel.out.1.bel⟩
      have Hp2 : Hid ((pick M ns).length = k) := by rw [Hp.out]; exact HN.out.2.symm
      clear hlt hrel
      go_wp2_with fail
      go_ret2
      exact ⟨some ⟨w.heap.size, 0, none⟩, k, by rw [Hyes.out.1, Hyes.out.2, Hp2.out]; rfl, by rw [Hyes.out.1, Hp2.out]; exact Hd.out.1, Hd.out.2⟩
end Go.Proofs.YtlficcdbnmheeaaDoor

/-
  Rows copied one by one, empty ones too; the second saying's Rows.
-/
namespace Go.Proofs.YtlficcdbnmheeaaDoor
open Go.RowKit

set_option maxRecDepth 20000
/-- an owned matrix whose rows may be empty: to be read -/
def MatE (w : World) (lo : Nat) (v : Value) (M : Mtx) : Prop :=
  ∃ rows : List Value, OwnV w lo 25 v rows ∧ rows.length = M.length ∧ ∀ (i : Nat) (r : Value) (l : List UInt8), rows[i]? = some r → M[i]? = some l → Own w lo r l
theorem MatE.nought (w : World) (lo : Nat) : MatE w lo (.slice none 0 0) [] := ⟨[], OwnV.nil _ _ _, rfl, fun i r l hr => by simp at hr⟩
theorem MatE.below {w w' : World} {lo : Nat} {v : Value} {M : Mtx} (h : MatE w lo v M) (hb : Below w.heap.size w w') : MatE w' lo v M := by
  obtain ⟨rows, a, b, c⟩ := h
  exact ⟨rows, a.move fun g hg => hb.block g (a.ge g hg).2, b, fun i r l hr hl => (c i r l hr hl).move fun g hg => hb.block g ((c i r l hr hl).lt g hg).2⟩
theorem MatE.rm {w : World} {lo : Nat} {v : Value} {M : Mtx} (h : MatE w lo v M) : ∃ A c, v = .slice A M.length c ∧ M.length ≤ c ∧ RM w w.heap.size A M := by
  obtain ⟨rows, a, b, c⟩ := h
  obtain ⟨A, cc, rfl, hc, _, hrd⟩ := a.rd
  refine ⟨A, cc, by rw [b], by rw [← b]; exact hc, fun k l hl => ?_⟩
  obtain ⟨r, hr⟩ : ∃ r, rows[k]? = some r := ⟨_, List.getElem?_eq_getElem (by rw [b]; exact (List.getElem?_eq_some_iff.1 hl).1)⟩
  obtain ⟨bb, rfl, hlt, hcell⟩ := hrd k r hr
  obtain ⟨A', c', rfl, hcc, hrb, _⟩ := (c k r l hr hl).rb
  exact ⟨bb, 0, A', c', rfl, hlt, by rw [Nat.zero_add]; exact hcell, hrb, hcc⟩
theorem MatE.push {W : World} {lo : Nat} {v rv : Value} {M : Mtx} {l : List UInt8} (h : MatE W lo v M) (hr : Own W lo rv l) :
    ∃ rows : List Value, OwnV W lo 25 v rows ∧ rows.length = M.length ∧ ∀ v' w', OwnV w' lo 25 v' (rows ++ [rv]) → W.grownBy w' v.ownBlock → MatE w' lo v' (M ++ [l]) := by
  obtain ⟨rows, a, c, d⟩ := h
  refine ⟨rows, a, c, fun v' w' hown hg => ⟨rows ++ [rv], hown, by simp [c], fun i r l' hr' hl' => ?_⟩⟩
  have hty : ∀ (r : Value) (x : List UInt8), Own W lo r x → ∀ g, r.ownBlock = some g → v.ownBlock ≠ some g := by
    intro r x hx g hgr hgv
    rcases a.form with ⟨hv, _⟩ | ⟨g', cap', cur, hv, _, hc, _⟩
    · rw [hv] at hgv; cases hgv
    · rw [hv] at hgv
      cases hgv
      rcases hx.toV.form with ⟨hv2, _⟩ | ⟨g2, cap2, cur2, hv2, _, hc2, _⟩
      · rw [hv2] at hgr; cases hgr
      · rw [hv2] at hgr
        cases hgr
        exact absurd (hc.type hc2).1 (by decide)
  have moved : ∀ (r : Value) (x : List UInt8), Own W lo r x → Own w' lo r x := fun r x hx => hx.move fun g hgr => hg.block g (hx.lt g hgr).2 (fun e' => hty r x hx g hgr e'.symm)
  by_cases hi : i < rows.length
  · rw [List.getElem?_append_left hi] at hr'
    rw [List.getElem?_append_left (by omega)] at hl'
    exact moved r l' (d i r l' hr' hl')
  · rw [List.getElem?_append_right (by omega)] at hr'
    rw [List.getElem?_append_right (by omega)] at hl'
    have hi0 : i - rows.length = 0 := by
      have := (List.getElem?_eq_some_iff.1 hr').1
      simp at this
      omega
    rw [hi0] at hr'
    rw [show i - M.length = 0 by omega] at hl'
    cases hr'
    cases hl'
    exact moved _ _ hr
/-- one more copied row -/
theorem matE_step {w wr w1 : World} {v rv : Value} {L : Mtx} {l : List UInt8} (h : MatE wr w.heap.size v L ∧ Below w.heap.size w wr) (ho : Own w1 wr.heap.size rv l) (hb : Below wr.heap.size wr w1) :
    ∃ rows : List Value, OwnV (w1.alloc (.cells #[rv] 25)) w.heap.size 25 v rows ∧ rows.length = L.length ∧
      ∀ v' w', OwnV w' w.heap.size 25 v' (rows ++ [rv]) → (w1.alloc (.cells #[rv] 25)).grownBy w' v.ownBlock → MatE w' w.heap.size v' (L ++ [l]) ∧ Below w.heap.size w w' := by
  obtain ⟨h1, h2⟩ := h
  have hs := h2.size
  have hb1 : Below wr.heap.size wr (w1.alloc (.cells #[rv] 25)) := hb.alloc hb.size _
  have ho' : Own (w1.alloc (.cells #[rv] 25)) w.heap.size rv l := (ho.wide hs).move fun g hg => Below.heap_alloc _ _ _ (ho.lt g hg).2
  obtain ⟨rows, r1, r2, r3⟩ := (h1.below hb1).push ho'
  refine ⟨rows, r1, r2, fun v' w' q1 q2 => ⟨r3 v' w' q1 q2, ?_⟩⟩
  exact (h2.trans (hb1.mono hs)).grown q2 (by have := hb1.size; omega) fun g hg => (r1.ge g hg).1
def TellsR (w : World) (L : Mtx) (code : Int) (e : Ending) (w' : World) : Prop :=
  ∃ A c, e = .returned (.tuple #[.slice A L.length c, .int .i64 code]) ∧ RM w' w'.heap.size A L ∧ Below w.heap.size w w'
end Go.Proofs.YtlficcdbnmheeaaDoor

/-
  The law's spoil: rows are written over, and nothing else.
-/
namespace Go.Proofs.YtlficcdbnmheeaaDoor
open Go.RowKit

set_option maxRecDepth 20000
/-- some rows of the same lengths lie there; all else is as it was -/
def Sp (w : World) (lo hi g n c : Nat) (M : Mtx) (wr : World) : Prop :=
  ∃ M' : Mtx, MatO wr lo hi (.slice (some ⟨g, 0, none⟩) n c) M' ∧ M'.length = M.length ∧ (∀ (k : Nat) (l : List UInt8), M[k]? = some l → ∃ l', M'[k]? = some l' ∧ l'.length = l.length) ∧ Out lo hi w wr
theorem u8_of (z : Int) (h0 : 0 ≤ z) (h1 : z < 256) : ∃ x : UInt8, (x.toNat : Int) = z := ⟨UInt8.ofNat z.toNat, by
  rw [UInt8.toNat_ofNat', Nat.mod_eq_of_lt (by omega)]
  omega⟩
theorem Sp.set {w wr : World} {lo hi g n c : Nat} {M : Mtx} (h : Sp w lo hi g n c M wr) {i j : Nat} {l : List UInt8} (hl : M[i]? = some l) (hj : j < l.length) :
    ∃ b c' x, wr.cell? ⟨g, i, none⟩ = some (.slice (some ⟨b, 0, none⟩) l.length c') ∧ l.length ≤ c' ∧ wr.cell? ⟨b, j, none⟩ = some (.int .u8 ((x : Nat) : Int)) ∧ x < 256 ∧ wr.frozen? ⟨b, j, none⟩ = false ∧
      ∀ z : Int, 0 ≤ z → z < 256 → Sp w lo hi g n c M (wr.setCell ⟨b, j, none⟩ (.int .u8 z)) := by
  obtain ⟨M', h1, h2, h3, h4⟩ := h
  obtain ⟨l', hl', hll⟩ := h3 i l hl
  obtain ⟨b, c', hra, hset⟩ := h1.row hl'
  obtain ⟨x, hx⟩ : ∃ x, l'[j]? = some x := ⟨_, List.getElem?_eq_getElem (by omega)⟩
  refine ⟨b, c', x.toNat, by rw [← hll]; exact hra.head, by rw [← hll]; exact hra.cap, hra.cells j x hx, u8_lt x, hra.free j, fun z z0 z1 => ?_⟩
  obtain ⟨y, hy⟩ := u8_of z z0 z1
  rw [← hy]
  refine ⟨_, hset j y, by rw [List.length_set, h2], fun k lk hk => ?_, h4.set hra.low hra.high _⟩
  obtain ⟨lk', e1, e2⟩ := h3 k lk hk
  by_cases hik : i = k
  · subst hik
    rw [hl'] at e1
    cases e1
    exact ⟨_, by rw [List.getElem?_set, if_pos rfl, if_pos (List.getElem?_eq_some_iff.1 hl').1], by rw [List.length_set]; exact e2⟩
  · exact ⟨lk', by rw [List.getElem?_set, if_neg hik]; exact e1, e2⟩
end Go.Proofs.YtlficcdbnmheeaaDoor

/-
  GfOwn, walked.
-/
namespace Go.Proofs.YtlficcdbnmheeaaDoor
open Go.RowKit

set_option maxRecDepth 20000
def Small (M : Mtx) : Prop := M.length ≤ 1048576 ∧ ∀ (k : Nat) (l : List UInt8), M[k]? = some l → l.length ≤ 1048576
def Few (M : Mtx) : Prop := M.length ≤ 255 ∧ ∀ (k : Nat) (l : List UInt8), M[k]? = some l → l.length ≤ 255
theorem few_nil : Few [] := ⟨by simp, fun k l h => by simp at h⟩
theorem few_dim {M : Mtx} {n : Nat} (h : Dim M n) (hn : n ≤ 255) : Few M := ⟨by rw [h.1]; exact hn, fun k l hk => by rw [h.2 k l hk]; exact hn⟩
theorem few_inv (M : Mtx) : Few (invL M) := by
  unfold invL
  by_cases hs : sqB M = true
  · rw [if_pos hs]
    obtain ⟨n, hn1, hn2, hd, _⟩ := inv_sq hs
    rcases hk : invK M.length M M.length with _ | S
    · exact few_nil
    · rw [hd.1] at hk
      exact few_dim (invK_good hd n S (Nat.le_refl _) hk).d2 hn2
  · rw [if_neg hs]
    exact few_nil
theorem few_right {M : Mtx} (h : rightB M = true) : Few M := by
  obtain ⟨n, h1, h2, h3, h4, h5, h6, h7⟩ := right_facts h
  exact ⟨h2, fun k l hk => by rw [h7 k l hk]; exact h4⟩
theorem few_rows (M : Mtx) (ns : List Int) : Few (rowsL M ns) := by
  unfold rowsL
  by_cases hb : rowsB M ns = true
  · rw [if_pos hb]
    unfold rowsB at hb
    rw [Bool.and_eq_true, decide_eq_true_eq] at hb
    have hf := few_right hb.1
    refine ⟨by unfold pick; rw [List.length_map]; exact hb.2.2.1, fun k l hk => ?_⟩
    unfold pick at hk
    rw [List.getElem?_map] at hk
    obtain ⟨x, _, rfl⟩ := Option.map_eq_some_iff.1 hk
    rw [List.getD_eq_getElem?_getD]
    rcases hx : M[x.toNat]? with _ | r
    · simp
    · exact hf.2 _ r hx
  · rw [if_neg hb]
    exact few_nil
theorem few_times (M O : Mtx) : Few (timesL M O) := by
  unfold timesL
  by_cases hb : timesB M O = true
  · rw [if_pos hb]
    unfold timesB at hb
    rw [Bool.and_eq_true, Bool.and_eq_true] at hb
    obtain ⟨n, o1, o2, o3, o4, o5, o6, o7⟩ := right_facts hb.1.2
    have hf := few_right hb.1.1
    refine ⟨by unfold timesM; rw [turned_length]; exact hf.1, fun k l hk => ?_⟩
    unfold timesM at hk
    rw [turned_row _ _ k l hk, List.length_map, turned_length, o6]
    exact o4
  · rw [if_neg hb]
    exact few_nil
theorem Few.small {M : Mtx} (h : Few M) : Small M := ⟨by have := h.1; omega, fun k l hk => by have := h.2 k l hk; omega⟩
theorem Out.lowest {lo hi B : Nat} {w w' : World} (h : Out lo hi w w') (hB : B ≤ lo) (hs : B ≤ w.heap.size) : Below B w w' :=
  h.to_below (fun b hb => .inl (by omega)) hs
theorem MatO.out {w w' : World} {lo hi lo2 hi2 : Nat} {v : Value} {M : Mtx} (h : MatO w lo2 hi2 v M) (ho : Out lo hi w w') (hd : hi ≤ lo2 ∨ hi2 ≤ lo) : MatO w' lo2 hi2 v M :=
  h.move fun b h1 h2 h3 => ho.block b h3 (by omega)
end Go.Proofs.YtlficcdbnmheeaaDoor

/-
  A matrix times a vector: the second saying's; both as told.
-/
namespace Go.Proofs.YtlficcdbnmheeaaDoor
open Go.RowKit

set_option maxRecDepth 20000
def applyB (M : Mtx) (v : List UInt8) : Bool := rightB M && decide ((M.headD []).length = v.length)
def applyLL (M : Mtx) (v : List UInt8) : List UInt8 := if applyB M v then applyL M v else []
def applyE (M : Mtx) (v : List UInt8) : Int := if applyB M v then 0 else 1
/-- bytes that were told -/
def TellsB (w : World) (l : List UInt8) (code : Int) (e : Ending) (w' : World) : Prop :=
  ∃ A c, e = .returned (.tuple #[.slice A l.length c, .int .i64 code]) ∧ RB w' w'.heap.size A l ∧ Below w.heap.size w w'
theorem tellsB_blk {w w' : World} {g N : Nat} {l : List UInt8} (hN : N = l.length) (hb : Blk w' g l) (hbe : Below w.heap.size w w') : TellsB w l 0 (.returned (.tuple #[.slice (some ⟨g, 0, none⟩) N N, .int .i64 0])) w' :=
  ⟨some ⟨g, 0, none⟩, N, by rw [hN], (hb.rb 0).wide hb.lt, hbe⟩
theorem apply_len (M : Mtx) (v : List UInt8) : (applyL M v).length = M.length := by unfold applyL; rw [List.length_map]
theorem applyB_no {M : Mtx} {v : List UInt8} (h : applyB M v = false) : applyLL M v = [] ∧ applyE M v = 1 := by
  unfold applyLL applyE
  rw [h]
  exact ⟨rfl, rfl⟩
theorem applyB_yes {M : Mtx} {v : List UInt8} (h : applyB M v = true) : applyLL M v = applyL M v ∧ applyE M v = 0 := by
  unfold applyLL applyE
  rw [h]
  exact ⟨rfl, rfl⟩
end Go.Proofs.YtlficcdbnmheeaaDoor

/-
  The second saying's Times.
-/
namespace Go.Proofs.YtlficcdbnmheeaaDoor
open Go.RowKit

set_option maxRecDepth 20000
def colO (O : Mtx) (b : Nat) : List UInt8 := O.map fun r => r.getD b 0
/-- row a of the product, i rows done, j elements of the next, k summands of the next -/
def prodR (M O : Mtx) (P i j k a : Nat) : List UInt8 := (List.range P).map fun b => if a < i ∨ (a = i ∧ b < j) then dot (M.getD a []) (colO O b) else if a = i ∧ b = j then dotK (M.getD a []) (colO O b) k else 0
def prodK (M O : Mtx) (P i j k : Nat) : Mtx := (List.range M.length).map (prodR M O P i j k)
theorem prodR_length (M O : Mtx) (P i j k a : Nat) : (prodR M O P i j k a).length = P := by simp [prodR]
theorem prodK_length (M O : Mtx) (P i j k : Nat) : (prodK M O P i j k).length = M.length := by simp [prodK]
theorem prodR_get (M O : Mtx) (P i j k a b : Nat) (h : b < P) : (prodR M O P i j k a)[b]? = some (if a < i ∨ (a = i ∧ b < j) then dot (M.getD a []) (colO O b) else if a = i ∧ b = j then dotK (M.getD a []) (colO O b) k else 0) := by
  unfold prodR
  rw [List.getElem?_map, List.getElem?_range h]; rfl
theorem prodK_get (M O : Mtx) (P i j k a : Nat) (h : a < M.length) : (prodK M O P i j k)[a]? = some (prodR M O P i j k a) := by
  unfold prodK
  rw [List.getElem?_map, List.getElem?_range h]; rfl
theorem prodR_ext {M O : Mtx} {P i j k i' j' k' a a' : Nat} (h : ∀ b, b < P → (if a < i ∨ (a = i ∧ b < j) then dot (M.getD a []) (colO O b) else if a = i ∧ b = j then dotK (M.getD a []) (colO O b) k else 0) = (if a' < i' ∨ (a' = i' ∧ b < j') then dot (M.getD a' []) (colO O b) else if a' = i' ∧ b = j' then dotK (M.getD a' []) (colO O b) k' else 0)) : prodR M O P i j k a = prodR M O P i' j' k' a' := by
  unfold prodR
  exact List.map_congr_left fun b hb => h b (List.mem_range.1 hb)
theorem prodK_ext {M O : Mtx} {P i j k i' j' k' : Nat} (h : ∀ a, a < M.length → prodR M O P i j k a = prodR M O P i' j' k' a) : prodK M O P i j k = prodK M O P i' j' k' := by
  unfold prodK
  exact List.map_congr_left fun a ha => h a (List.mem_range.1 ha)
theorem prodK_zero (M O : Mtx) (P : Nat) : blankM M.length P = prodK M O P 0 0 0 := by
  apply List.ext_getElem?
  intro a
  by_cases h : a < M.length
  · unfold blankM
    rw [prodK_get M O P 0 0 0 a h, List.getElem?_replicate, if_pos h]
    congr 1
    apply List.ext_getElem?
    intro b
    by_cases hb : b < P
    · rw [prodR_get M O P 0 0 0 a b hb, List.getElem?_replicate, if_pos hb, if_neg (by omega)]
      split <;> rfl
    · rw [List.getElem?_eq_none (by simp; omega), List.getElem?_eq_none (by rw [prodR_length]; omega)]
  · rw [List.getElem?_eq_none (by simp [blankM]; omega), List.getElem?_eq_none (by rw [prodK_length]; omega)]
theorem prodK_step (M O : Mtx) (P i j k : Nat) (x y : UInt8) (hi : i < M.length) (hj : j < P) (hx : (M.getD i []).getD k 0 = x) (hy : (colO O j).getD k 0 = y) :
    (prodK M O P i j k).set i ((prodR M O P i j k i).set j (dotK (M.getD i []) (colO O j) k ^^^ bm x y)) = prodK M O P i j (k + 1) := by
  apply List.ext_getElem?
  intro a
  by_cases h : a < M.length
  · rw [List.getElem?_set, prodK_length, prodK_get M O P i j k a h, prodK_get M O P i j (k + 1) a h]
    by_cases e : i = a
    · subst e
      rw [if_pos rfl, if_pos hi]
      congr 1
      apply List.ext_getElem?
      intro b
      by_cases hb : b < P
      · rw [List.getElem?_set, prodR_length, prodR_get M O P i j k i b hb, prodR_get M O P i j (k + 1) i b hb]
        by_cases e2 : j = b
        · subst e2
          rw [if_pos rfl, if_pos hj, if_neg (by omega), if_pos ⟨rfl, rfl⟩]
          show _ = some (dotK _ _ k ^^^ bm _ _)
          rw [hx, hy]
        · rw [if_neg e2]
          by_cases h1 : b < j
          · rw [if_pos (.inr ⟨rfl, h1⟩), if_pos (.inr ⟨rfl, h1⟩)]
          · rw [if_neg (by omega), if_neg (by omega), if_neg (by omega), if_neg (by omega)]
      · rw [List.getElem?_eq_none (by rw [List.length_set, prodR_length]; omega), List.getElem?_eq_none (by rw [prodR_length]; omega)]
    · rw [if_neg e]
      congr 1
      refine prodR_ext fun b _ => ?_
      by_cases h1 : a < i ∨ (a = i ∧ b < j)
      · rw [if_pos h1, if_pos h1]
      · rw [if_neg h1, if_neg h1, if_neg (by omega), if_neg (by omega)]
  · rw [List.getElem?_eq_none (by rw [List.length_set, prodK_length]; omega), List.getElem?_eq_none (by rw [prodK_length]; omega)]
theorem prodK_col (M O : Mtx) (P i j K : Nat) (hK : (M.getD i []).length = K) : prodK M O P i j K = prodK M O P i (j + 1) 0 := by
  refine prodK_ext fun a _ => prodR_ext fun b _ => ?_
  by_cases h1 : a < i ∨ (a = i ∧ b < j)
  · rw [if_pos h1, if_pos (by omega)]
  · rw [if_neg h1]
    by_cases h2 : a = i ∧ b = j
    · rw [if_pos h2, if_pos (by omega), h2.1, ← hK]; rfl
    · rw [if_neg h2, if_neg (by omega)]
      by_cases h3 : a = i ∧ b = j + 1
      · rw [if_pos h3]; rfl
      · rw [if_neg h3]
theorem prodK_row (M O : Mtx) (P i : Nat) : prodK M O P i P 0 = prodK M O P (i + 1) 0 0 := by
  refine prodK_ext fun a _ => prodR_ext fun b hb => ?_
  by_cases h1 : a < i ∨ (a = i ∧ b < P)
  · rw [if_pos h1, if_pos (by omega)]
  · rw [if_neg h1, if_neg (by omega), if_neg (by omega)]
    by_cases h3 : a = i + 1 ∧ b = 0
    · rw [if_pos h3]; rfl
    · rw [if_neg h3]
theorem prodK_done (M O : Mtx) : prodK M O (O.headD []).length M.length 0 0 = timesM M O := by
  unfold prodK timesM turnedM
  apply List.map_congr_left
  intro a ha
  have ha' := List.mem_range.1 ha
  rw [List.map_map]
  unfold prodR
  rw [List.map_map]
  apply List.map_congr_left
  intro b _
  rw [if_pos (.inl ha')]
  show dot (M.getD a []) (colO O b) = (applyL M (colO O b)).getD a 0
  rw [List.getD_eq_getElem?_getD (l := applyL M _), apply_get M _ a ha']
  rfl
def PR (w1 : World) (M O : Mtx) (P lo hi g c i j k : Nat) (wr : World) : Prop := MatO wr lo hi (.slice (some ⟨g, 0, none⟩) M.length c) (prodK M O P i j k) ∧ Below w1.heap.size w1 wr ∧ wr.heap.size = hi ∧ w1.heap.size ≤ lo
theorem PR.drewN {w1 wr : World} {M O : Mtx} {P lo hi g c i j k : Nat} (h : PR w1 M O P lo hi g c i j k wr) (q : Nat) : PR w1 M O P lo hi g c i j k (wr.drewN q) := ⟨h.1.drewN q, drewN_below h.2.1 q, h.2.2.1, h.2.2.2⟩
theorem timesB_no {M O : Mtx} (h : timesB M O = false) : timesL M O = [] ∧ timesE M O = 1 := by
  unfold timesL timesE
  rw [h]
  exact ⟨rfl, rfl⟩
theorem timesB_yes {M O : Mtx} (h : timesB M O = true) : timesL M O = timesM M O ∧ timesE M O = 0 := by
  unfold timesL timesE
  rw [h]
  exact ⟨rfl, rfl⟩
end Go.Proofs.YtlficcdbnmheeaaDoor

/-
  Linear algebra for GfInverts: what has no kernel has an inverse, from both sides.
-/
namespace Go.Proofs.YtlficcdbnmheeaaDoor
open Go.RowKit

set_option maxRecDepth 20000
def zeros (n : Nat) : List UInt8 := List.replicate n 0
theorem zeros_ext {n : Nat} {u : List UInt8} (hl : u.length = n) (h : ∀ k, k < n → u.getD k 0 = 0) : u = zeros n := by
  apply List.ext_getElem?
  intro k
  unfold zeros
  by_cases hk : k < n
  · have := h k hk
    rw [List.getD_eq_getElem?_getD, List.getElem?_eq_getElem (by omega)] at this
    rw [List.getElem?_eq_getElem (by omega), List.getElem?_replicate, if_pos hk]
    congr 1
  · rw [List.getElem?_eq_none (by omega), List.getElem?_eq_none (by simp; omega)]
theorem bm_cancel {x y : UInt8} (h : bm x y = 0) (hx : x ≠ 0) : y = 0 := by
  have h1 : bm (gib x) (bm x y) = 0 := by rw [h]; exact bm_zero' _
  rw [bm_assoc, bm_comm (gib x) x, bm_gib hx, bm_one] at h1
  exact h1
theorem gib_ne {x : UInt8} (h : x ≠ 0) : gib x ≠ 0 := fun e => by
  have := bm_gib h
  rw [e, bm_zero'] at this
  exact absurd this (by decide)
theorem bx_eq {x y : UInt8} (h : x ^^^ y = 0) : x = y := by
  have : x ^^^ y ^^^ y = y := by rw [h, zero_bx]
  rw [bx_assoc, bx_self, bx_zero] at this
  exact this
/-- all rows' products with u are 0 -/
def Ker (n : Nat) (R : Mtx) (u : List UInt8) : Prop := ∀ k, k < n → dot (R.getD k []) u = 0
theorem ker_swap {n i p : Nat} {R : Mtx} {u : List UInt8} (hd : Dim R n) (hi : i < n) (hp : p < n) (h : Ker n (swapM R i p) u) : Ker n R u := fun k hk => by
  have h1 := h (if k = p then i else if k = i then p else k) (by split; exact hi; split; exact hp; exact hk)
  rw [swap_getD (by rw [hd.1]; exact hi) (by rw [hd.1]; exact hp)] at h1
  by_cases e : k = p
  · rw [if_pos e] at h1
    by_cases e2 : i = p
    · rw [if_pos e2] at h1
      rw [e, ← e2]; exact h1
    · rw [if_neg e2, if_pos rfl] at h1
      rw [e]; exact h1
  · rw [if_neg e] at h1
    by_cases e2 : k = i
    · rw [if_pos e2, if_pos rfl] at h1
      rw [e2]; exact h1
    · rw [if_neg e2, if_neg e, if_neg e2] at h1
      exact h1
theorem ker_scale {n i : Nat} {R : Mtx} {u : List UInt8} {x : UInt8} (hd : Dim R n) (hi : i < n) (hx : x ≠ 0) (h : Ker n (scaleM R i x) u) : Ker n R u := fun k hk => by
  have h1 := h k hk
  unfold scaleM at h1
  rw [set_getD (by rw [hd.1]; exact hi)] at h1
  by_cases e : k = i
  · rw [if_pos e, dot_scale, bm_comm] at h1
    rw [e]
    exact bm_cancel h1 hx
  · rw [if_neg e] at h1
    exact h1
theorem ker_add {n p i : Nat} {R : Mtx} {u : List UInt8} {x : UInt8} (hd : Dim R n) (hp : p < n) (hi : i < n) (hpi : p ≠ i) (h : Ker n (addM R p i x) u) : Ker n R u := fun k hk => by
  have get : ∀ j, (addM R p i x).getD j [] = if j = p then addR (R.getD p []) (R.getD i []) x else R.getD j [] := fun j => by
    unfold addM
    exact set_getD (by rw [hd.1]; exact hp)
  have h0 := h i hi
  rw [get, if_neg (fun e => hpi e.symm)] at h0
  have h1 := h k hk
  rw [get] at h1
  by_cases e : k = p
  · rw [if_pos e, dot_add _ _ _ _ (by rw [(hd.get hp).2, (hd.get hi).2]), h0, bm_zero, bx_zero] at h1
    rw [e]; exact h1
  · rw [if_neg e] at h1
    exact h1
theorem ker_row {n i k : Nat} {S : Mtx × Mtx} {u : List UInt8} (hd : Dim S.2 n) (hi : i < n) (hk : k < n) (h : Ker n (stepRow i k S).2 u) : Ker n S.2 u := by
  unfold stepRow at h
  by_cases e : k = i
  · rw [if_pos e] at h; exact h
  · rw [if_neg e] at h
    exact ker_add hd hk hi e h
theorem dim_row {n i k : Nat} {S : Mtx × Mtx} (hd : Dim S.2 n) (hi : i < n) (hk : k < n) : Dim (stepRow i k S).2 n := by
  unfold stepRow
  by_cases e : k = i
  · rw [if_pos e]; exact hd
  · rw [if_neg e]; exact hd.add hk hi _
theorem ker_elim {n i : Nat} {S : Mtx × Mtx} {u : List UInt8} (hd : Dim S.2 n) (hi : i < n) : ∀ k, k ≤ n → Dim (elimK i k S).2 n ∧ (Ker n (elimK i k S).2 u → Ker n S.2 u)
  | 0, _ => ⟨hd, fun h => h⟩
  | k + 1, hk => by
    obtain ⟨d, f⟩ := ker_elim hd hi k (by omega)
    exact ⟨dim_row d hi (by omega), fun h => f (ker_row d hi (by omega) h)⟩
theorem ker_step {n i : Nat} {L R : Mtx} {S : Mtx × Mtx} {u : List UInt8} (hdL : Dim L n) (hd : Dim R n) (hi : i < n) (hs : stepM n i (L, R) = some S) (h : Ker n S.2 u) : Ker n R u := by
  unfold stepM at hs
  rcases hp : pivot L i with _ | p
  · rw [show pivot (L, R).1 i = none from hp] at hs
    cases hs
  · rw [show pivot (L, R).1 i = some p from hp] at hs
    have hs' := Option.some.inj hs
    obtain ⟨h1, h2, h3⟩ := pivot_some hp hdL.1 hi
    rw [← hs'] at h
    have hx : at2 (swapM L i p) i i ≠ 0 := by rw [at2_swap hdL.1 hi h2]; exact h3
    have dt : Dim (turnM i p (L, R)).2 n := (hd.swap hi h2).scale hi _
    have k1 := (ker_elim dt hi n (Nat.le_refl _)).2 h
    exact ker_swap hd hi h2 (ker_scale (hd.swap hi h2) hi (gib_ne hx) k1)
theorem ker_unit {n : Nat} {u : List UInt8} (hl : u.length = n) (h : Ker n (unitM n) u) : u = zeros n := by
  refine zeros_ext hl fun k hk => ?_
  have := h k hk
  rw [unit_getD n k hk] at this
  unfold dot at this
  rw [dot_unit n k u hk, List.length_set, List.length_replicate, if_pos hk] at this
  exact this
theorem invK_ker {n : Nat} {M : Mtx} {u : List UInt8} (hd : Dim M n) : ∀ (k : Nat) (S : Mtx × Mtx), k ≤ n → invK n M k = some S → Ker n S.2 u → Ker n (unitM n) u
  | 0, S, _, h, hk => by
    cases h
    exact hk
  | k + 1, S, hkn, h, hk => by
    change (invK n M k).bind (stepM n k) = some S at h
    rcases h0 : invK n M k with _ | ⟨L, R⟩
    · rw [h0] at h; cases h
    · rw [h0] at h
      have g := invK_good hd k (L, R) (by omega) h0
      exact invK_ker hd k (L, R) (by omega) h0 (ker_step g.d1 g.d2 (by omega) h hk)
theorem inv_inj {n : Nat} {M : Mtx} {S : Mtx × Mtx} {u : List UInt8} (hd : Dim M n) (k : Nat) (hk : k ≤ n) (h : invK n M k = some S) (hl : u.length = n) (hu : Ker n S.2 u) : u = zeros n := ker_unit hl (invK_ker hd k S hk h hu)
theorem pivFrom_none (M : Mtx) (n : Nat) : ∀ (f k : Nat), pivFrom M n f k = none → ∀ r, k ≤ r → r < k + f → at2 M r n = 0
  | 0, k, _, r, h1, h2 => by omega
  | f + 1, k, h, r, h1, h2 => by
    unfold pivFrom at h
    by_cases e : at2 M k n ≠ 0
    · rw [if_pos e] at h; cases h
    · rw [if_neg e] at h
      by_cases er : r = k
      · rw [er]; simpa using e
      · exact pivFrom_none M n f (k + 1) h r (by omega) (by omega)
theorem invK_stuck {n : Nat} {M : Mtx} : ∀ k, invK n M k = none → ∃ i L R, i < k ∧ invK n M i = some (L, R) ∧ pivot L i = none
  | 0, h => by cases h
  | k + 1, h => by
    change (invK n M k).bind (stepM n k) = none at h
    rcases h0 : invK n M k with _ | ⟨L, R⟩
    · obtain ⟨i, L, R, a, b, c⟩ := invK_stuck k h0
      exact ⟨i, L, R, by omega, b, c⟩
    · rw [h0] at h
      refine ⟨k, L, R, by omega, h0, ?_⟩
      change stepM n k (L, R) = none at h
      unfold stepM at h
      rcases hp : pivot L k with _ | p
      · rfl
      · rw [show pivot (L, R).1 k = some p from hp] at h; cases h
/-- the vector that a missing pivot shows -/
def kvec (n i : Nat) (L : Mtx) : List UInt8 := (List.range n).map fun j => if j < i then at2 L j i else if j = i then 1 else 0
theorem kvec_get (n i : Nat) (L : Mtx) (j : Nat) (h : j < n) : (kvec n i L).getD j 0 = if j < i then at2 L j i else if j = i then 1 else 0 := by
  unfold kvec
  rw [List.getD_eq_getElem?_getD, List.getElem?_map, List.getElem?_range h]; rfl
theorem kvec_ker {n i : Nat} {L : Mtx} (hd : Dim L n) (hc : Col n i L) (hi : i < n) (hp : pivot L i = none) : Ker n L (kvec n i L) := fun r hr => by
  have hz : ∀ r, i ≤ r → r < n → at2 L r i = 0 := fun r h1 h2 => pivFrom_none L i _ _ hp r h1 (by rw [hd.1]; omega)
  have key : ∀ k, k ≤ n → dotK (L.getD r []) (kvec n i L) k = if k ≤ i then (if r < k then at2 L r i else 0) else 0 := by
    intro k
    induction k with
    | zero => intro _; rw [if_pos (by omega), if_neg (by omega)]; rfl
    | succ k ih =>
      intro hk
      show dotK _ _ k ^^^ bm _ _ = _
      rw [ih (by omega), kvec_get n i L k (by omega)]
      have ha : (L.getD r []).getD k 0 = at2 L r k := rfl
      rw [ha]
      by_cases h1 : k < i
      · rw [if_pos (show k ≤ i by omega), if_pos h1, if_pos (show k + 1 ≤ i by omega), hc k h1 r hr]
        by_cases h2 : r = k
        · rw [if_pos h2, bm_one, if_neg (show ¬ r < k by omega), if_pos (show r < k + 1 by omega), zero_bx, h2]
        · rw [if_neg h2, bm_zero, bx_zero]
          by_cases h3 : r < k
          · rw [if_pos h3, if_pos (show r < k + 1 by omega)]
          · rw [if_neg h3, if_neg (show ¬ r < k + 1 by omega)]
      · rw [if_neg h1, if_neg (show ¬ k + 1 ≤ i by omega)]
        by_cases h2 : k = i
        · rw [if_pos h2, if_pos (show k ≤ i by omega), bm_comm, bm_one, h2]
          by_cases h3 : r < i
          · rw [if_pos h3]; exact bx_self _
          · rw [if_neg h3, hz r (by omega) hr]; rfl
        · rw [if_neg h2, bm_zero', if_neg (show ¬ k ≤ i by omega)]; rfl
  unfold dot
  rw [(hd.get hr).2, key n (Nat.le_refl _), if_neg (show ¬ n ≤ i by omega)]
theorem apply_zeros {n : Nat} {M : Mtx} {u : List UInt8} (hd : Dim M n) (h : applyL M u = zeros n) : Ker n M u := fun k hk => by
  have := apply_get M u k (by rw [hd.1]; exact hk)
  rw [h] at this
  unfold zeros at this
  rw [List.getElem?_replicate, if_pos hk] at this
  exact (Option.some.inj this).symm
/-- no kernel: an inverse -/
theorem inv_some {n : Nat} {M : Mtx} (hd : Dim M n) (hk : ∀ u : List UInt8, u.length = n → Ker n M u → u = zeros n) : ∃ S, invK n M n = some S := by
  rcases h : invK n M n with _ | S
  · obtain ⟨i, L, R, hi, h1, h2⟩ := invK_stuck n h
    have g := invK_good hd i (L, R) (by omega) h1
    have hl : (kvec n i L).length = n := by simp [kvec]
    have kz := kvec_ker g.d1 g.col hi h2
    have e := g.ak (kvec n i L) hl
    have kr : Ker n R (applyL M (kvec n i L)) := fun k hk => by
      rw [← apply_inj e k (by rw [g.d1.1]; exact hk) (by rw [g.d1.1, g.d2.1])]
      exact kz k hk
    have e1 := inv_inj hd i (by omega) h1 (by rw [apply_len]; exact hd.1) kr
    have e2 := hk _ hl (apply_zeros hd e1)
    have e3 := kvec_get n i L i hi
    rw [if_neg (by omega), if_pos rfl, e2] at e3
    unfold zeros at e3
    rw [List.getD_eq_getElem?_getD, List.getElem?_replicate, if_pos hi] at e3
    exact absurd e3 (by decide)
  · exact ⟨S, rfl⟩
def addV (u v : List UInt8) : List UInt8 := List.zipWith (fun a b => a ^^^ b) u v
theorem addV_get (u v : List UInt8) (k : Nat) (h : u.length = v.length) : (addV u v).getD k 0 = u.getD k 0 ^^^ v.getD k 0 := by
  unfold addV
  simp only [List.getD_eq_getElem?_getD, List.getElem?_zipWith]
  by_cases hk : k < u.length
  · rw [List.getElem?_eq_getElem hk, List.getElem?_eq_getElem (by omega)]; rfl
  · rw [List.getElem?_eq_none (by omega), List.getElem?_eq_none (by omega)]; rfl
theorem dotK_addV (r u v : List UInt8) (h : u.length = v.length) : ∀ k, dotK r (addV u v) k = dotK r u k ^^^ dotK r v k
  | 0 => (bx_self 0).symm
  | k + 1 => by
    show dotK r (addV u v) k ^^^ bm _ _ = (dotK r u k ^^^ bm _ _) ^^^ (dotK r v k ^^^ bm _ _)
    rw [dotK_addV r u v h k, addV_get u v k h, bm_comm, bm_add, bm_comm, bm_comm (v.getD k 0), bx_swap]
theorem inv_right {n : Nat} {M : Mtx} {S : Mtx × Mtx} (hd : Dim M n) (h : invK n M n = some S) (u : List UInt8) (hu : u.length = n) : applyL M (applyL S.2 u) = u := by
  have g := invK_good hd n S (Nat.le_refl _) h
  have hl2 : (applyL S.2 u).length = n := by rw [apply_len]; exact g.d2.1
  have hl3 : (applyL M (applyL S.2 u)).length = n := by rw [apply_len]; exact hd.1
  have e1 := inv_undoes hd h (applyL S.2 u) hl2
  have hk : Ker n S.2 (addV (applyL M (applyL S.2 u)) u) := fun k hk => by
    unfold dot
    rw [dotK_addV _ _ _ (by rw [hl3, hu])]
    have := apply_inj e1 k (by rw [g.d2.1]; exact hk) rfl
    unfold dot at this
    rw [this]
    exact bx_self _
  have e2 := inv_inj hd n (Nat.le_refl _) h (by unfold addV; rw [List.length_zipWith, hl3, hu, Nat.min_self]) hk
  apply List.ext_getElem?
  intro j
  by_cases hj : j < n
  · have e3 := addV_get (applyL M (applyL S.2 u)) u j (by rw [hl3, hu])
    rw [e2] at e3
    unfold zeros at e3
    rw [List.getD_eq_getElem?_getD, List.getElem?_replicate, if_pos hj] at e3
    have e4 := bx_eq e3.symm
    rw [List.getD_eq_getElem?_getD, List.getElem?_eq_getElem (by omega), List.getD_eq_getElem?_getD, List.getElem?_eq_getElem (by omega)] at e4
    rw [List.getElem?_eq_getElem (by omega), List.getElem?_eq_getElem (by omega)]
    congr 1
  · rw [List.getElem?_eq_none (by omega), List.getElem?_eq_none (by omega)]
def eV (n j : Nat) : List UInt8 := (List.replicate n 0).set j 1
theorem dotK_comm (r v : List UInt8) : ∀ k, dotK r v k = dotK v r k
  | 0 => rfl
  | k + 1 => by
    show dotK r v k ^^^ bm _ _ = dotK v r k ^^^ bm _ _
    rw [dotK_comm r v k, bm_comm]
theorem col_eV {n j : Nat} {B : Mtx} (hd : Dim B n) (hj : j < n) : colO B j = applyL B (eV n j) := by
  unfold colO applyL
  apply List.map_congr_left
  intro r hr
  obtain ⟨i, hi⟩ := List.getElem?_of_mem hr
  have hl := hd.2 i r hi
  unfold dot eV
  rw [dotK_comm, dot_unit n j r hj, if_pos (by omega)]
theorem times_unit {n : Nat} {A B : Mtx} (hA : Dim A n) (hB : Dim B n) (hn : 1 ≤ n) (h : ∀ u : List UInt8, u.length = n → applyL A (applyL B u) = u) : timesM A B = unitM n := by
  have hh : (B.headD []).length = n := hB.2 0 _ (head_get (by rw [hB.1]; omega))
  unfold timesM
  rw [hh, hA.1]
  have e1 : (turnedM B n).map (applyL A) = (List.range n).map (eV n) := by
    unfold turnedM
    rw [List.map_map]
    apply List.map_congr_left
    intro j hj
    have hj' := List.mem_range.1 hj
    show applyL A (colO B j) = _
    rw [col_eV hB hj']
    exact h _ (by simp [eV])
  rw [e1]
  unfold turnedM unitM
  apply List.map_congr_left
  intro i hi
  have hi' := List.mem_range.1 hi
  rw [List.map_map]
  apply List.ext_getElem?
  intro j
  by_cases hj : j < n
  · rw [List.getElem?_map, List.getElem?_range hj]
    show some ((eV n j).getD i 0) = _
    unfold eV
    rw [unitrow_get n j i hj]
    have := unitrow_get n i j hi'
    rw [List.getD_eq_getElem?_getD] at this
    rw [List.getElem?_eq_getElem (by simpa using hj)] at this ⊢
    congr 1
    rw [show ∀ x : UInt8, (some x).getD 0 = x from fun _ => rfl] at this
    rw [this]
    by_cases e : i = j
    · rw [if_pos e, if_pos e.symm]
    · rw [if_neg e, if_neg (fun q => e q.symm)]
  · rw [List.getElem?_eq_none (by simp; omega), List.getElem?_eq_none (by simp; omega)]
end Go.Proofs.YtlficcdbnmheeaaDoor

/-
  Mathematics of GfInverts: unit's rows and the pairs' two below, any two left out.
-/
namespace Go.Proofs.YtlficcdbnmheeaaDoor
open Go.RowKit

set_option maxRecDepth 20000
def allM (k : Nat) : Mtx := unitM k ++ pairsM k
theorem allM_length (k : Nat) : (allM k).length = k + 2 := by simp [allM, unitM, pairsM]
theorem allM_unit (k i : Nat) (h : i < k) : (allM k).getD i [] = (List.replicate k 0).set i 1 := by
  unfold allM
  rw [List.getD_eq_getElem?_getD, List.getElem?_append_left (by simp [unitM]; exact h), ← List.getD_eq_getElem?_getD]
  exact unit_getD k i h
theorem allM_ones (k : Nat) : (allM k).getD k [] = List.replicate k 1 := by
  unfold allM
  rw [List.getD_eq_getElem?_getD, List.getElem?_append_right (by simp [unitM])]
  simp [unitM, pairsM]
theorem allM_pows (k : Nat) : (allM k).getD (k + 1) [] = (List.range k).map pwr := by
  unfold allM
  rw [List.getD_eq_getElem?_getD, List.getElem?_append_right (by simp [unitM])]
  simp [unitM, pairsM]
theorem allM_row (k : Nat) (i : Nat) (l : List UInt8) (h : (allM k)[i]? = some l) : l.length = k := by
  have hi := (List.getElem?_eq_some_iff.1 h).1
  rw [allM_length] at hi
  have e := getD_of h
  by_cases h1 : i < k
  · rw [allM_unit k i h1] at e
    rw [← e]; simp
  · by_cases h2 : i = k
    · rw [h2, allM_ones] at e
      rw [← e]; simp
    · rw [show i = k + 1 by omega, allM_pows] at e
      rw [← e]; simp
theorem pwr_ne (j : Nat) (h : j < 255) : pwr j ≠ 0 := fun e => by
  have h1 := congrArg UInt8.toNat e
  rw [pwr_nat] at h1
  have h2 := lg_ex (i := j) h
  have h3 := (lg_ex' ⟨j, h⟩).2
  rw [← ex_tab j h] at h3
  exact h3 h1
theorem pwr_inj {a b : Nat} (ha : a < 255) (hb : b < 255) (h : pwr a = pwr b) : a = b := by
  have h1 := congrArg UInt8.toNat h
  rw [pwr_nat, pwr_nat] at h1
  rw [← lg_ex ha, ← lg_ex hb, h1]
/-- a product with a vector that has something in two places alone -/
theorem dotK_two (r u : List UInt8) (a b : Nat) (hab : a ≠ b) (h : ∀ j, j ≠ a → j ≠ b → u.getD j 0 = 0) : ∀ m, dotK r u m = (if a < m then bm (r.getD a 0) (u.getD a 0) else 0) ^^^ (if b < m then bm (r.getD b 0) (u.getD b 0) else 0)
  | 0 => by rw [if_neg (by omega), if_neg (by omega)]; rfl
  | m + 1 => by
    show dotK r u m ^^^ bm _ _ = _
    rw [dotK_two r u a b hab h m]
    by_cases e1 : m = a
    · subst e1
      rw [if_neg (show ¬ m < m by omega), if_pos (show m < m + 1 by omega), zero_bx]
      by_cases e2 : b < m
      · rw [if_pos e2, if_pos (show b < m + 1 by omega)]; exact bx_comm _ _
      · rw [if_neg e2, if_neg (show ¬ b < m + 1 by omega)]; exact bx_comm _ _
    · by_cases e2 : m = b
      · subst e2
        rw [if_neg (show ¬ m < m by omega), if_pos (show m < m + 1 by omega), bx_zero]
        by_cases e3 : a < m
        · rw [if_pos e3, if_pos (show a < m + 1 by omega)]
        · rw [if_neg e3, if_neg (show ¬ a < m + 1 by omega)]
      · rw [h m e1 e2, bm_zero', bx_zero]
        by_cases e3 : a < m
        · rw [if_pos e3, if_pos (show a < m + 1 by omega)]
          by_cases e4 : b < m
          · rw [if_pos e4, if_pos (show b < m + 1 by omega)]
          · rw [if_neg e4, if_neg (show ¬ b < m + 1 by omega)]
        · rw [if_neg e3, if_neg (show ¬ a < m + 1 by omega)]
          by_cases e4 : b < m
          · rw [if_pos e4, if_pos (show b < m + 1 by omega)]
          · rw [if_neg e4, if_neg (show ¬ b < m + 1 by omega)]
theorem ones_get (k a : Nat) (h : a < k) : (List.replicate k (1 : UInt8)).getD a 0 = 1 := by
  rw [List.getD_eq_getElem?_getD, List.getElem?_replicate, if_pos h]; rfl
theorem pows_get (k a : Nat) (h : a < k) : ((List.range k).map pwr).getD a 0 = pwr a := by
  rw [List.getD_eq_getElem?_getD, List.getElem?_map, List.getElem?_range h]; rfl
/-- what k of the rows hold to 0 is 0 -/
theorem all_kern {k a b : Nat} {u : List UInt8} (hk : k ≤ 253) (hab : a ≠ b) (_ha : a < k + 2) (_hb : b < k + 2) (hl : u.length = k) (h : ∀ i, i < k + 2 → i ≠ a → i ≠ b → dot ((allM k).getD i []) u = 0) : u = zeros k := by
  have hsup : ∀ j, j ≠ a → j ≠ b → u.getD j 0 = 0 := fun j h1 h2 => by
    by_cases hj : j < k
    · have := h j (by omega) h1 h2
      rw [allM_unit k j hj] at this
      unfold dot at this
      rw [dot_unit k j u hj, List.length_set, List.length_replicate, if_pos hj] at this
      exact this
    · rw [List.getD_eq_getElem?_getD, List.getElem?_eq_none (by omega)]; rfl
  have ones : k ≠ a → k ≠ b → (if a < k then u.getD a 0 else 0) ^^^ (if b < k then u.getD b 0 else 0) = 0 := fun h1 h2 => by
    have := h k (by omega) h1 h2
    rw [allM_ones] at this
    unfold dot at this
    rw [List.length_replicate, dotK_two _ u a b hab hsup k] at this
    by_cases e1 : a < k
    · rw [if_pos e1, ones_get k a e1, bm_one] at this
      rw [if_pos e1]
      by_cases e2 : b < k
      · rw [if_pos e2, ones_get k b e2, bm_one] at this
        rw [if_pos e2]; exact this
      · rw [if_neg e2] at this ⊢
        exact this
    · rw [if_neg e1] at this ⊢
      by_cases e2 : b < k
      · rw [if_pos e2, ones_get k b e2, bm_one] at this
        rw [if_pos e2]; exact this
      · rw [if_neg e2]; exact bx_self _
  have pows : k + 1 ≠ a → k + 1 ≠ b → (if a < k then bm (pwr a) (u.getD a 0) else 0) ^^^ (if b < k then bm (pwr b) (u.getD b 0) else 0) = 0 := fun h1 h2 => by
    have := h (k + 1) (by omega) h1 h2
    rw [allM_pows] at this
    unfold dot at this
    rw [List.length_map, List.length_range, dotK_two _ u a b hab hsup k] at this
    by_cases e1 : a < k
    · rw [if_pos e1, pows_get k a e1] at this
      rw [if_pos e1]
      by_cases e2 : b < k
      · rw [if_pos e2, pows_get k b e2] at this
        rw [if_pos e2]; exact this
      · rw [if_neg e2] at this ⊢
        exact this
    · rw [if_neg e1] at this ⊢
      by_cases e2 : b < k
      · rw [if_pos e2, pows_get k b e2] at this
        rw [if_pos e2]; exact this
      · rw [if_neg e2]; exact bx_self _
  have main : (a < k → u.getD a 0 = 0) ∧ (b < k → u.getD b 0 = 0) := by
    by_cases e1 : a < k
    · by_cases e2 : b < k
      · have o := ones (by omega) (by omega)
        have p := pows (by omega) (by omega)
        rw [if_pos e1, if_pos e2] at o p
        have ho := bx_eq o
        rw [← ho, ← bm_add, bm_comm] at p
        have hne : pwr a ^^^ pwr b ≠ 0 := fun e => hab (pwr_inj (by omega) (by omega) (bx_eq e))
        rw [bm_comm] at p
        have hz := bm_cancel p hne
        exact ⟨fun _ => hz, fun _ => by rw [← ho]; exact hz⟩
      · refine ⟨fun _ => ?_, fun q => absurd q e2⟩
        by_cases e3 : b = k
        · have p := pows (by omega) (by omega)
          rw [if_pos e1, if_neg e2, bx_zero] at p
          exact bm_cancel p (pwr_ne a (by omega))
        · have o := ones (by omega) (fun q => e3 q.symm)
          rw [if_pos e1, if_neg e2, bx_zero] at o
          exact o
    · refine ⟨fun q => absurd q e1, fun e2 => ?_⟩
      by_cases e3 : a = k
      · have p := pows (by omega) (by omega)
        rw [if_neg e1, if_pos e2, zero_bx] at p
        exact bm_cancel p (pwr_ne b (by omega))
      · have o := ones (fun q => e3 q.symm) (by omega)
        rw [if_neg e1, if_pos e2, zero_bx] at o
        exact o
  refine zeros_ext hl fun j hj => ?_
  by_cases h1 : j = a
  · rw [h1]; exact main.1 (by omega)
  · by_cases h2 : j = b
    · rw [h2]; exact main.2 (by omega)
    · exact hsup j h1 h2
/-- the numbers below i that are kept -/
def keep (a b i : Nat) : List Int := List.map (fun x : Nat => (x : Int)) ((List.range i).filter fun x => decide (x ≠ a) && decide (x ≠ b))
theorem keep_yes {a b i : Nat} (h1 : i ≠ a) (h2 : i ≠ b) : keep a b (i + 1) = keep a b i ++ [(i : Int)] := by
  unfold keep
  rw [List.range_succ, List.filter_append, List.map_append]
  congr 1
  simp [h1, h2]
theorem keep_no {a b i : Nat} (h : i = a ∨ i = b) : keep a b (i + 1) = keep a b i := by
  unfold keep
  rw [List.range_succ, List.filter_append, List.map_append]
  rcases h with h | h <;> simp [h]
theorem keep_length {a b : Nat} (hab : a ≠ b) : ∀ i, (keep a b i).length + (if a < i then 1 else 0) + (if b < i then 1 else 0) = i
  | 0 => rfl
  | i + 1 => by
    have ih := keep_length hab i
    by_cases h1 : i = a
    · rw [keep_no (.inl h1), if_pos (by omega)]
      rw [if_neg (by omega)] at ih
      by_cases h2 : b < i
      · rw [if_pos h2] at ih; rw [if_pos (by omega)]; omega
      · rw [if_neg h2] at ih; rw [if_neg (by omega)]; omega
    · by_cases h2 : i = b
      · rw [keep_no (.inr h2), if_pos (show b < i + 1 by omega)]
        rw [if_neg (show ¬ b < i by omega)] at ih
        by_cases h3 : a < i
        · rw [if_pos h3] at ih; rw [if_pos (by omega)]; omega
        · rw [if_neg h3] at ih; rw [if_neg (by omega)]; omega
      · rw [keep_yes h1 h2, List.length_append]
        have e1 : (if a < i + 1 then 1 else 0) = (if a < i then 1 else 0) := by
          by_cases h3 : a < i
          · rw [if_pos h3, if_pos (by omega)]
          · rw [if_neg h3, if_neg (by omega)]
        have e2 : (if b < i + 1 then 1 else 0) = (if b < i then 1 else 0) := by
          by_cases h3 : b < i
          · rw [if_pos h3, if_pos (by omega)]
          · rw [if_neg h3, if_neg (by omega)]
        rw [e1, e2, List.length_singleton]
        omega
theorem keep_mem {a b i : Nat} {x : Int} (h : x ∈ keep a b i) : ∃ n : Nat, x = (n : Int) ∧ n < i ∧ n ≠ a ∧ n ≠ b := by
  unfold keep at h
  obtain ⟨n, hn, rfl⟩ := List.mem_map.1 h
  obtain ⟨h1, h2⟩ := List.mem_filter.1 hn
  simp at h2
  exact ⟨n, rfl, List.mem_range.1 h1, h2.1, h2.2⟩
theorem mem_keep {a b i n : Nat} (hn : n < i) (h1 : n ≠ a) (h2 : n ≠ b) : (n : Int) ∈ keep a b i := by
  unfold keep
  refine List.mem_map.2 ⟨n, List.mem_filter.2 ⟨List.mem_range.2 hn, by simp [h1, h2]⟩, rfl⟩
/-- the rows that are kept: a square matrix, which has an inverse from both sides -/
theorem kept_dim {k a b : Nat} (hab : a ≠ b) (ha : a < k + 2) (hb : b < k + 2) : Dim (pick (allM k) (keep a b (k + 2))) k := by
  have hl := keep_length hab (k + 2)
  rw [if_pos ha, if_pos hb] at hl
  refine ⟨by unfold pick; rw [List.length_map]; omega, fun t l ht => ?_⟩
  unfold pick at ht
  rw [List.getElem?_map] at ht
  obtain ⟨x, hx, rfl⟩ := Option.map_eq_some_iff.1 ht
  obtain ⟨n, rfl, hn, _⟩ := keep_mem (List.mem_of_getElem? hx)
  rw [Int.toNat_natCast]
  obtain ⟨r, hr⟩ : ∃ r, (allM k)[n]? = some r := ⟨_, List.getElem?_eq_getElem (by rw [allM_length]; exact hn)⟩
  rw [getD_of hr]
  exact allM_row k n r hr
theorem kept_inv {k a b : Nat} (hk : k ≤ 253) (hab : a ≠ b) (ha : a < k + 2) (hb : b < k + 2) : ∃ S, invK k (pick (allM k) (keep a b (k + 2))) k = some S := by
  have hd := kept_dim (k := k) hab ha hb
  refine inv_some hd fun u hl hker => all_kern hk hab ha hb hl fun i hi h1 h2 => ?_
  obtain ⟨t, ht⟩ := List.getElem?_of_mem (mem_keep hi h1 h2)
  have hp : (pick (allM k) (keep a b (k + 2)))[t]? = some ((allM k).getD i []) := by
    unfold pick
    rw [List.getElem?_map, ht]
    show some ((allM k).getD (Int.toNat (i : Int)) []) = _
    rw [Int.toNat_natCast]
  have htk : t < k := by
    have := (List.getElem?_eq_some_iff.1 hp).1
    rw [hd.1] at this
    exact this
  have := hker t htk
  rw [getD_of hp] at this
  exact this
theorem kept_right {k a b : Nat} (hk1 : 1 ≤ k) (hk : k ≤ 253) (hab : a ≠ b) (ha : a < k + 2) (hb : b < k + 2) : rowsB (allM k) (keep a b (k + 2)) = true := by
  have hl := keep_length hab (k + 2)
  rw [if_pos ha, if_pos hb] at hl
  have h0 : (allM k).headD [] = (allM k).getD 0 [] := by
    have := head_get (M := allM k) (by rw [allM_length]; omega)
    exact (getD_of this).symm
  have hh : ((allM k).headD []).length = k := allM_row k 0 _ (head_get (by rw [allM_length]; omega))
  unfold rowsB rightB
  rw [Bool.and_eq_true]
  refine ⟨decide_eq_true ⟨by rw [allM_length]; omega, by rw [allM_length]; omega, by rw [hh]; exact hk1, by rw [hh]; omega, fun l hl' => ?_⟩, decide_eq_true ⟨by omega, by omega, fun x hx => ?_⟩⟩
  · obtain ⟨i, hi⟩ := List.getElem?_of_mem hl'
    rw [hh]
    exact allM_row k i l hi
  · obtain ⟨n, rfl, hn, _⟩ := keep_mem hx
    rw [allM_length]
    omega
end Go.Proofs.YtlficcdbnmheeaaDoor

/-
  Rows appended by their headers alone.
-/
namespace Go.Proofs.YtlficcdbnmheeaaDoor
open Go.RowKit

set_option maxRecDepth 20000
/-- append(v, xs...): cells -/
theorem app_many {w : World} {ops : Array Oper} {rest : List Oper} {o : Oper} {a : Act} {Q : Exit → Act → World → Prop} (hgd : o.guard = none) (s x : Operand) (t e : TypeId)
    (ho : o.op = .call { callee := .builtin .append, args := #[s, x], argTypes := #[t, t] })
    (hu : Tryd.prog.underlying t = some (.slice e)) (z : Value) (bytes : Nat) (hi : (Tryd.prog.info? e).map (fun i => (i.zero, i.size, i.bytes)) = some (some z, 1, bytes)) (hzc : z.cells.size = 1)
    (base : Nat) (v : Value) (xs : List Value) (hs : a.eval s = v) (hown : OwnV w base e v xs)
    (ad : Addr) (m c : Nat) (us : List Value) (hx : a.eval x = .slice (some ad) m c) (hm : m = us.length) (hc : ∀ j u, us[j]? = some u → w.cell? (ad.add j) = some u) (h1 : ∀ u ∈ us, u.oneCell' = true)
    (hlen : xs.length + us.length ≤ 140737488355327) (hbytes : (xs.length + us.length) * bytes ≤ 140737488355328) (hbase : base ≤ w.heap.size)
    (h : ∀ v' w', OwnV w' base e v' (xs ++ us) → w.grownBy w' v.ownBlock → (v'.ownBlock = v.ownBlock ∨ v'.ownBlock = some w.heap.size) → wpList Tryd.prog ops Q rest (a.put o.dst v') w') :
    wpList Tryd.prog ops Q (o :: rest) a w := by
  subst hm
  refine wpList_plain hgd fun K hK => ?_
  obtain ⟨v', w', hrun, h2, h3, h5⟩ := app_cells_run (w := w) t o.type e hu z bytes hi hzc base v xs hown ad c us hc h1 hlen hbytes hbase
  unfold Oper.wp execOp
  simp only [ho, resolve, invoke, builtin, Sem.run_bind, Sem.run_pure, Result.andThen_ok, List.map_toArray, List.map_cons, List.map_nil, hs, hx]
  rw [show (Builtin.append_ #[t, t] o.type #[v, .slice (some ad) us.length c]).run Tryd.prog w = .ok v' w' from hrun]
  exact hK _ _ (h v' w' h2 h3 h5)
/-- header cells that read as the rows of M -/
def RowsV (W : World) (rows : List Value) (M : Mtx) : Prop :=
  rows.length = M.length ∧ ∀ (i : Nat) (r : Value) (l : List UInt8), rows[i]? = some r → M[i]? = some l → ∃ A' c', r = .slice A' l.length c' ∧ RB W W.heap.size A' l ∧ l.length ≤ c'
theorem RowsV.below {W W' : World} {rows : List Value} {M : Mtx} (h : RowsV W rows M) (hb : Below W.heap.size W W') : RowsV W' rows M :=
  ⟨h.1, fun i r l hr hl => by
    obtain ⟨A', c', e, h1, h2⟩ := h.2 i r l hr hl
    exact ⟨A', c', e, (h1.below hb).wide hb.size, h2⟩⟩
theorem RowsV.append {W : World} {r1 r2 : List Value} {M1 M2 : Mtx} (h : RowsV W r1 M1) (k : RowsV W r2 M2) : RowsV W (r1 ++ r2) (M1 ++ M2) :=
  ⟨by rw [List.length_append, List.length_append, h.1, k.1], fun i r l hr hl => by
    by_cases hi : i < r1.length
    · rw [List.getElem?_append_left hi] at hr
      rw [List.getElem?_append_left (by rw [← h.1]; exact hi)] at hl
      exact h.2 i r l hr hl
    · rw [List.getElem?_append_right (by omega)] at hr
      rw [List.getElem?_append_right (by rw [← h.1]; omega), ← h.1] at hl
      exact k.2 _ r l hr hl⟩
theorem RowsV.one {W : World} {rows : List Value} {M : Mtx} (h : RowsV W rows M) : ∀ u ∈ rows, u.oneCell' = true := fun u hu => by
  obtain ⟨i, hi⟩ := List.getElem?_of_mem hu
  obtain ⟨l, hl⟩ : ∃ l, M[i]? = some l := ⟨_, List.getElem?_eq_getElem (by rw [← h.1]; exact (List.getElem?_eq_some_iff.1 hi).1)⟩
  obtain ⟨A', c', rfl, _⟩ := h.2 i u l hi hl
  rfl
theorem mat_rowsV {w : World} {lo hi : Nat} {v : Value} {M : Mtx} (h : MatO w lo hi v M) : ∃ rows A c, v = .slice A M.length c ∧ RowsV w rows M ∧ ∀ (i : Nat) (r : Value), rows[i]? = some r → ∃ b, A = some ⟨b, 0, none⟩ ∧ b < w.heap.size ∧ w.cell? ⟨b, i, none⟩ = some r := by
  obtain ⟨rows, a, _, b, d, _⟩ := h
  obtain ⟨A, c, rfl, _, _, hrd⟩ := a.rd
  refine ⟨rows, A, c, by rw [b], ⟨b, fun i r l hr hl => ?_⟩, fun i r hr => hrd i r hr⟩
  obtain ⟨A', c', rfl, h1, h2, _⟩ := (d i r l hr hl).2.1.rb
  exact ⟨A', c', rfl, h2, h1⟩
theorem rm_of {W : World} {lo : Nat} {v : Value} {rows : List Value} {M : Mtx} (h : OwnV W lo 25 v rows) (hr : RowsV W rows M) : ∃ A c, v = .slice A M.length c ∧ RM W W.heap.size A M := by
  obtain ⟨A, c, rfl, _, _, hrd⟩ := h.rd
  refine ⟨A, c, by rw [hr.1], fun k l hl => ?_⟩
  obtain ⟨r, hk⟩ : ∃ r, rows[k]? = some r := ⟨_, List.getElem?_eq_getElem (by rw [hr.1]; exact (List.getElem?_eq_some_iff.1 hl).1)⟩
  obtain ⟨b, rfl, hb, hc⟩ := hrd k r hk
  obtain ⟨A', c', rfl, h1, h2⟩ := hr.2 k r l hk hl
  exact ⟨b, 0, A', c', rfl, hb, by rw [Nat.zero_add]; exact hc, h1, h2⟩
theorem own_made (w : World) (base : Nat) (h : base ≤ w.heap.size) : OwnV (w.alloc (.cells #[] 25)) base 25 (.slice (some ⟨w.heap.size, 0, none⟩) 0 0) [] :=
  World.ownsRow_made w #[] 0 h (by simp [maxLen]) (by simp)
/-- what Go's remainder by a small positive number gives -/
theorem rem_small (x : Int) (m : Nat) (hm : 0 < m) : x.tmod (m : Int) < m ∧ -(m : Int) < x.tmod (m : Int) := by
  have h1 := Int.tmod_lt_of_pos x (show (0 : Int) < m by omega)
  have h2 := Int.lt_tmod_of_pos x (show (0 : Int) < m by omega)
  exact ⟨h1, h2⟩
end Go.Proofs.YtlficcdbnmheeaaDoor
