/-
  Rows copied one by one, empty ones too; the second saying's Rows.
-/
import Derived.Test.YtbfbjmngcojaoaaGf25
namespace Go.Proofs.Ytbfbjmngcojaoaa
open Go.RowKit

set_option maxRecDepth 20000
/-- an owned matrix whose rows may be empty: to be read -/
def MatE (w : World) (lo : Nat) (v : Value) (M : Mtx) : Prop :=
  ∃ rows : List Value, OwnV w lo 46 v rows ∧ rows.length = M.length ∧ ∀ (i : Nat) (r : Value) (l : List UInt8), rows[i]? = some r → M[i]? = some l → Own w lo r l
theorem MatE.none (w : World) (lo : Nat) : MatE w lo (.slice none 0 0) [] := ⟨[], OwnV.nil _ _ _, rfl, fun i r l hr => by simp at hr⟩
theorem MatE.below {w w' : World} {lo : Nat} {v : Value} {M : Mtx} (h : MatE w lo v M) (hb : Below w.heap.size w w') : MatE w' lo v M := by
  obtain ⟨rows, a, b, c⟩ := h
  exact ⟨rows, a.move fun g hg => hb.block g (a.ge g hg).2, b, fun i r l hr hl => (c i r l hr hl).move fun g hg => hb.block g ((c i r l hr hl).lt g hg).2⟩
theorem MatE.rm {w : World} {lo : Nat} {v : Value} {M : Mtx} (h : MatE w lo v M) : ∃ A c, v = .slice A M.length c ∧ M.length ≤ c ∧ RM w w.heap.size A M := by
  obtain ⟨rows, a, b, c⟩ := h
  obtain ⟨A, cc, rfl, hc, _, hrd⟩ := a.rd
  refine ⟨A, cc, by rw [b], by rw [← b]; exact hc, fun k l hl => ?_⟩
  obtain ⟨r, hr⟩ : ∃ r, rows[k]? = some r := ⟨_, List.getElem?_eq_getElem (by rw [b]; exact (List.getElem?_eq_some_iff.1 hl).1)⟩
  obtain ⟨bb, rfl, hlt, hcell⟩ := hrd k r hr
  obtain ⟨A', c', rfl, hcc, hrb, _⟩ := (c k r l hr hl).rb
  exact ⟨bb, 0, A', c', rfl, hlt, by rw [Nat.zero_add]; exact hcell, hrb, hcc⟩
theorem MatE.push {W : World} {lo : Nat} {v rv : Value} {M : Mtx} {l : List UInt8} (h : MatE W lo v M) (hr : Own W lo rv l) :
    ∃ rows : List Value, OwnV W lo 46 v rows ∧ rows.length = M.length ∧ ∀ v' w', OwnV w' lo 46 v' (rows ++ [rv]) → W.grownBy w' v.ownBlock → MatE w' lo v' (M ++ [l]) := by
  obtain ⟨rows, a, c, d⟩ := h
  refine ⟨rows, a, c, fun v' w' hown hg => ⟨rows ++ [rv], hown, by simp [c], fun i r l' hr' hl' => ?_⟩⟩
  have hty : ∀ (r : Value) (x : List UInt8), Own W lo r x → ∀ g, r.ownBlock = some g → v.ownBlock ≠ some g := by
    intro r x hx g hgr hgv
    rcases a.form with ⟨hv, _⟩ | ⟨g', cap', cur, hv, _, hc, _⟩
    · rw [hv] at hgv; cases hgv
    · rw [hv] at hgv
      cases hgv
      rcases hx.toV.form with ⟨hv2, _⟩ | ⟨g2, cap2, cur2, hv2, _, hc2, _⟩
      · rw [hv2] at hgr; cases hgr
      · rw [hv2] at hgr
        cases hgr
        exact absurd (hc.type hc2).1 (by decide)
  have moved : ∀ (r : Value) (x : List UInt8), Own W lo r x → Own w' lo r x := fun r x hx => hx.move fun g hgr => hg.block g (hx.lt g hgr).2 (fun e' => hty r x hx g hgr e'.symm)
  by_cases hi : i < rows.length
  · rw [List.getElem?_append_left hi] at hr'
    rw [List.getElem?_append_left (by omega)] at hl'
    exact moved r l' (d i r l' hr' hl')
  · rw [List.getElem?_append_right (by omega)] at hr'
    rw [List.getElem?_append_right (by omega)] at hl'
    have hi0 : i - rows.length = 0 := by
      have := (List.getElem?_eq_some_iff.1 hr').1
      simp at this
      omega
    rw [hi0] at hr'
    rw [show i - M.length = 0 by omega] at hl'
    cases hr'
    cases hl'
    exact moved _ _ hr
/-- one more copied row -/
theorem matE_step {w wr w1 : World} {v rv : Value} {L : Mtx} {l : List UInt8} (h : MatE wr w.heap.size v L ∧ Below w.heap.size w wr) (ho : Own w1 wr.heap.size rv l) (hb : Below wr.heap.size wr w1) :
    ∃ rows : List Value, OwnV (w1.alloc (.cells #[rv] 46)) w.heap.size 46 v rows ∧ rows.length = L.length ∧
      ∀ v' w', OwnV w' w.heap.size 46 v' (rows ++ [rv]) → (w1.alloc (.cells #[rv] 46)).grownBy w' v.ownBlock → MatE w' w.heap.size v' (L ++ [l]) ∧ Below w.heap.size w w' := by
  obtain ⟨h1, h2⟩ := h
  have hs := h2.size
  have hb1 : Below wr.heap.size wr (w1.alloc (.cells #[rv] 46)) := hb.alloc hb.size _
  have ho' : Own (w1.alloc (.cells #[rv] 46)) w.heap.size rv l := (ho.wide hs).move fun g hg => Below.heap_alloc _ _ _ (ho.lt g hg).2
  obtain ⟨rows, r1, r2, r3⟩ := (h1.below hb1).push ho'
  refine ⟨rows, r1, r2, fun v' w' q1 q2 => ⟨r3 v' w' q1 q2, ?_⟩⟩
  exact (h2.trans (hb1.mono hs)).grown q2 (by have := hb1.size; omega) fun g hg => (r1.ge g hg).1
def TellsR (w : World) (L : Mtx) (code : Int) (e : Ending) (w' : World) : Prop :=
  ∃ A c, e = .returned (.tuple #[.slice A L.length c, .int .i64 code]) ∧ RM w' w'.heap.size A L ∧ Below w.heap.size w w'
set_option maxHeartbeats 1600000 in
theorem rrows_any (A : Option Addr) (c : Nat) (M : Mtx) (A2 : Option Addr) (c2 : Nat) (ns : List Int) (w : World) (h : RM w w.heap.size A M) (hl : M.length ≤ 1048576) (hll : ∀ (k : Nat) (l : List UInt8), M[k]? = some l → l.length ≤ 1048576)
    (h2 : RI w w.heap.size A2 ns) (hl2 : ns.length ≤ 1048576) :
    Calls Try.prog 36 #[.slice A M.length c, .slice A2 ns.length c2] w (TellsR w (rowsL M ns) (rowsE M ns)) := by
  have HR := Lib.hid (rright_any A c M w _ h hl hll)
  have hl2' : ((ns.length : Nat) : Int) ≤ 1048576 := by omega
  by_cases hr : rightB M = true
  case neg =>
    rw [Bool.not_eq_true] at hr
    obtain ⟨e1, e2⟩ := rows_bad (M := M) (ns := ns) (by unfold rowsB; rw [hr]; rfl)
    rw [e1, e2]
    rw [hr] at HR
    generalize M.length = N at *
    generalize ns.length = K at *
    clear h hl hll h2 hl2 hr e1 e2
    go_enter Try.func36, Try.ntmps36
    go_wp2_with fail
    refine HR.out.mono ?_
    rintro e w1 ⟨rfl, q, hw⟩
    have Hb : Hid (Below w.heap.size w w1) := by rw [hw]; exact drewN_below (Below.refl _ _) q
    clear hw
    go_wp2_with fail
    go_ret2
    exact ⟨none, 0, rfl, RM.nil _ _ _, Hb.out⟩
  rw [hr] at HR
  by_cases hk : 1 ≤ ns.length
  case neg =>
    obtain ⟨e1, e2⟩ := rows_bad (M := M) (ns := ns) (by unfold rowsB; rw [hr, decide_eq_false (fun q => hk q.1)]; rfl)
    rw [e1, e2]
    obtain hk0 : ns.length = 0 := by omega
    rw [hk0]
    generalize M.length = N at *
    clear h hl hll h2 hl2 hr e1 e2 hk hk0 hl2'
    go_enter Try.func36, Try.ntmps36
    go_wp2_with fail
    refine HR.out.mono ?_
    rintro e w1 ⟨rfl, q, hw⟩
    have Hb : Hid (Below w.heap.size w w1) := by rw [hw]; exact drewN_below (Below.refl _ _) q
    clear hw
    go_wp2_with fail
    go_ret2
    exact ⟨none, 0, rfl, RM.nil _ _ _, Hb.out⟩
  have hk1 : ¬ ((ns.length : Nat) : Int) < 1 := by omega
  by_cases hk2 : ns.length ≤ 255
  case neg =>
    obtain ⟨e1, e2⟩ := rows_bad (M := M) (ns := ns) (by unfold rowsB; rw [hr, decide_eq_false (fun q => hk2 q.2.1)]; rfl)
    rw [e1, e2]
    have hk2' : (255 : Int) < ((ns.length : Nat) : Int) := by omega
    generalize M.length = N at *
    generalize ns.length = K at *
    clear h hl hll h2 hl2 hr e1 e2 hk hk2
    go_enter Try.func36, Try.ntmps36
    go_wp2_with fail
    refine HR.out.mono ?_
    rintro e w1 ⟨rfl, q, hw⟩
    have Hb : Hid (Below w.heap.size w w1) := by rw [hw]; exact drewN_below (Below.refl _ _) q
    clear hw
    go_wp2_with fail
    go_ret2
    exact ⟨none, 0, rfl, RM.nil _ _ _, Hb.out⟩
  obtain ⟨n, m1, m2, m3, m4, m5, m6, m7⟩ := right_facts hr
  have Hh := Lib.hid h
  have H2 := Lib.hid h2
  obtain ⟨bn, on, rfl, hbn⟩ := h2.flat (by omega)
  obtain ⟨bm', om, rfl, hbm⟩ := h.at_ (by omega)
  have Hbn := Lib.hid hbn
  have Hbm := Lib.hid hbm
  obtain ⟨N, hN⟩ : ∃ N, N = M.length := ⟨_, rfl⟩
  obtain ⟨K, hK⟩ : ∃ K, K = ns.length := ⟨_, rfl⟩
  have HN : Hid (N = M.length ∧ K = ns.length) := ⟨hN, hK⟩
  have Hm : Hid (1 ≤ n ∧ n ≤ 255 ∧ ∀ (k : Nat) (l : List UInt8), M[k]? = some l → l.length = n) := ⟨m3, m4, m7⟩
  have Hr := Lib.hid hr
  rw [← hK] at hk hk1 hk2 hl2' ⊢
  rw [← hN] at HR ⊢
  have hN1 : (N : Int) ≤ 255 := by omega
  have hK1 : (K : Int) ≤ 255 := by omega
  have hK2 : ¬ (255 : Int) < (K : Int) := by omega
  have Hk1 := Lib.hid hk
  clear h hl hll h2 hl2 hr m1 m2 m3 m4 m5 m6 m7 hbn hbm hN hK hk
  go_enter Try.func36, Try.ntmps36
  go_wp2_with fail
  refine HR.out.mono ?_
  rintro e w1 ⟨rfl, q, hw⟩
  have Hst : Hid ((MatE w1 w.heap.size (.slice none 0 0) ((pick M ns).take 0) ∧ Below w.heap.size w w1) ∧ ∀ (j : Nat) (x : Int), j < 0 → ns[j]? = some x → 0 ≤ x ∧ x < (N : Int)) := ⟨⟨MatE.none _ _, by rw [hw]; exact drewN_below (Below.refl _ _) q⟩, fun j x hj => by omega⟩
  clear HR hw
  go_wp2_with fail
  go_loopw [6, 7] (fun vv iv wr => ∃ (v : Value) (i : Nat), vv = v ∧ iv = .int .i64 (i : Int) ∧ i ≤ K ∧ Hid ((MatE wr w.heap.size v ((pick M ns).take i) ∧ Below w.heap.size w wr) ∧ ∀ (j : Nat) (x : Int), j < i → ns[j]? = some x → 0 ≤ x ∧ x < (N : Int))) (fun _ iv _ => K - (intOf iv).toNat)
  case atStart => exact ⟨_, 0, rfl, rfl, Nat.zero_le _, Hst.out⟩
  case round =>
    obtain ⟨v, k, rfl, rfl, hk, hrel⟩ := hrel
    by_cases hlt : k < K
    · have hlt' : (k : Int) < (K : Int) := by omega
      obtain ⟨x, hx⟩ : ∃ x, ns[k]? = some x := ⟨_, List.getElem?_eq_getElem (by rw [← HN.out.2]; exact hlt)⟩
      have kx : wr.cell? ⟨bn, on + k, none⟩ = some (.int .i64 x) := by
        obtain ⟨ad, e, _, hc⟩ := H2.out k x hx
        cases e
        rw [add_flat] at hc
        exact (hrel.out.1.2.cell (p := ⟨bn, on + k, none⟩) Hbn.out).trans hc
      by_cases hgood : 0 ≤ x ∧ x < (N : Int)
      case neg =>
        have Hno : Hid (rowsL M ns = [] ∧ rowsE M ns = 1) := rows_bad (by
          unfold rowsB
          rw [decide_eq_false (fun q => hgood (by rw [HN.out.1]; exact q.2.2 x (List.mem_of_getElem? hx)))]
          exact Bool.and_false _)
        have Hbel := Lib.hid hrel.out.1.2
        clear hrel hx hlt
        by_cases hneg : x < 0
        · clear hgood
          go_wp2_with fail
          go_ret2
          exact ⟨none, 0, by rw [Hno.out.1, Hno.out.2]; rfl, by rw [Hno.out.1]; exact RM.nil _ _ _, Hbel.out⟩
        · have hge : (N : Int) ≤ x := by omega
          clear hgood
          go_wp2_with fail
          go_ret2
          exact ⟨none, 0, by rw [Hno.out.1, Hno.out.2]; rfl, by rw [Hno.out.1]; exact RM.nil _ _ _, Hbel.out⟩
      obtain ⟨r, rfl⟩ : ∃ r : Nat, x = (r : Int) := ⟨x.toNat, by omega⟩
      have hrN : r < N := by omega
      have hrN' : (r : Int) < (N : Int) := hgood.2
      have hr0 : ¬ (r : Int) < 0 := by omega
      have hrge : ¬ (N : Int) ≤ (r : Int) := by omega
      obtain ⟨l, hl⟩ : ∃ l, M[r]? = some l := ⟨_, List.getElem?_eq_getElem (by rw [← HN.out.1]; exact hrN)⟩
      obtain ⟨A', c', hc, hrb, _⟩ := Hh.out.row hl
      have kl : wr.cell? ⟨bm', om + r, none⟩ = some (.slice A' l.length c') := (hrel.out.1.2.cell (p := ⟨bm', om + r, none⟩) Hbm.out).trans hc
      have kx2 : (wr.alloc (.cells #[] 5)).cell? ⟨bn, on + k, none⟩ = some (.int .i64 (r : Int)) := (World.cell?_alloc_lt wr _ ⟨bn, on + k, none⟩ (Nat.lt_of_lt_of_le Hbn.out hrel.out.1.2.size)).trans kx
      have kl2 : (wr.alloc (.cells #[] 5)).cell? ⟨bm', om + r, none⟩ = some (.slice A' l.length c') := (World.cell?_alloc_lt wr _ ⟨bm', om + r, none⟩ (Nat.lt_of_lt_of_le Hbm.out hrel.out.1.2.size)).trans kl
      have hln := Hm.out.2.2 r l hl
      have hpk : (pick M ns)[k]? = some l := by
        unfold pick
        rw [List.getElem?_map, hx]
        show some (M.getD (Int.toNat (r : Int)) []) = _
        rw [Int.toNat_natCast, List.getD_eq_getElem?_getD, hl]; rfl
      have Hrb : Hid (RB wr wr.heap.size A' l ∧ l.length ≤ 255) := ⟨(hrb.below hrel.out.1.2).wide hrel.out.1.2.size, by rw [hln]; exact Hm.out.2.1⟩
      have HS : Hid (∀ rv w1, Own w1 wr.heap.size rv l → Below wr.heap.size wr w1 → ∃ rows : List Value, OwnV (w1.alloc (.cells #[rv] 46)) w.heap.size 46 u6 rows ∧ rows.length = k ∧ w.heap.size ≤ w1.heap.size ∧
          ∀ v' w', OwnV w' w.heap.size 46 v' (rows ++ [rv]) → (w1.alloc (.cells #[rv] 46)).grownBy w' u6.ownBlock → MatE w' w.heap.size v' ((pick M ns).take (k + 1)) ∧ Below w.heap.size w w') := fun rv w1 ho hb => by
        obtain ⟨rows, r1, r2, r3⟩ := matE_step hrel.out.1 ho hb
        refine ⟨rows, r1, ?_, Nat.le_trans hrel.out.1.2.size hb.size, ?_⟩
        · rw [r2, List.length_take]
          have := (List.getElem?_eq_some_iff.1 hpk).1
          omega
        · rw [List.take_add_one, hpk]
          exact r3
      have Hall : Hid (∀ (j : Nat) (x : Int), j < k + 1 → ns[j]? = some x → 0 ≤ x ∧ x < (N : Int)) := fun j x hj hjx => by
        by_cases hjk : j < k
        · exact hrel.out.2 j x hjk hjx
        · obtain rfl : j = k := by omega
          rw [hx] at hjx
          cases hjx
          exact hgood
      have Hmm := Lib.hid (rfl : l.length = l.length)
      clear hx hl hc hrb hrel hlt hln hgood hpk
      go_wp2_with (first
        | (at_builtin; (refine app_bytes rfl (.tmp 42) (.tmp 49) rfl wr.heap.size _ [] rfl (Own.made wr _ (Nat.le_refl _)) _ A' l.length c' l rfl rfl (Hrb.out.1.alloc (Nat.le_refl _) _) (by have := Hrb.out.2; simp; omega) (by simp) ?_); intro rv w1 hown hbel _; obtain ⟨A9, c9, rfl, _⟩ := hown.rb; obtain ⟨rows, r1, r2, r3, r4⟩ := HS.out _ w1 (by simpa using hown) (((Below.refl _ _).alloc (Nat.le_refl _) _).trans hbel); have Hr1 := Lib.hid r1; have Hr2 := Lib.hid r2; have Hr3 := Lib.hid r3; have Hr4 := Lib.hid r4; clear r1 r2 r3 r4 hown hbel HS kx kl kx2 kl2)
        | (at_builtin; go_must (refine app_one rfl (.tmp 41) (.tmp 51) 36 46 rfl Try.underlying36 (.slice none 0 0) 24 info_row rfl w.heap.size _ rows rfl Hr1.out ⟨w1.heap.size, 0, none⟩ 1 _ rfl (cell_new _ _ _) rfl (by have := Hr2.out; omega) (by have := Hr2.out; omega) (by have := Hr3.out; simp; omega) ?_); intro v9 W9 hown9 hg9 hb9; have Hn := Lib.hid (Hr4.out v9 W9 hown9 hg9); clear hown9 hg9 hb9))
      go_roundw
      case rel => exact ⟨v9, k + 1, rfl, by go_num, by omega, Hn.out, Hall.out⟩
      case measure => simp [intOf]; omega
    · obtain rfl : k = K := by omega
      have Hyes : Hid (rowsL M ns = pick M ns ∧ rowsE M ns = 0) := by
        have hb : rowsB M ns = true := by
          unfold rowsB
          rw [Hr.out, Bool.true_and]
          refine decide_eq_true ⟨by rw [← HN.out.2]; exact Hk1.out, by rw [← HN.out.2]; exact hk2, fun x hx => ?_⟩
          obtain ⟨j, hj⟩ := List.getElem?_of_mem hx
          have := hrel.out.2 j x (by rw [HN.out.2]; exact (List.getElem?_eq_some_iff.1 hj).1) hj
          rw [← HN.out.1]
          exact this
        unfold rowsL rowsE
        rw [if_pos hb, if_pos hb]
        exact ⟨rfl, rfl⟩
      have Hd : Hid (∃ A9 c9, u6 = .slice A9 (pick M ns).length c9 ∧ RM wr wr.heap.size A9 (pick M ns) ∧ Below w.heap.size w wr) := by
        obtain ⟨⟨q1, q2⟩, _⟩ := hrel.out
        have hpl : (pick M ns).length = k := by unfold pick; rw [List.length_map]; exact HN.out.2.symm
        rw [List.take_of_length_le (by omega)] at q1
        obtain ⟨A9, c9, e9, _, r9⟩ := q1.rm
        exact ⟨A9, c9, e9, r9, q2⟩
      clear hlt hrel
      go_wp2_with fail
      go_ret2
      obtain ⟨A9, c9, e9, r9, b9⟩ := Hd.out
      exact ⟨A9, c9, by rw [Hyes.out.1, Hyes.out.2, ← e9]; rfl, by rw [Hyes.out.1]; exact r9, b9⟩
end Go.Proofs.Ytbfbjmngcojaoaa
