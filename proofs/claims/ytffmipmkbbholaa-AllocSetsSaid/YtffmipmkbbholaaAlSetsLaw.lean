/-
  AllocSets, walked.
-/
import Derived.Test.YtffmipmkbbholaaAlState
namespace Go.Proofs.Ytffmipmkbbholaa
open Go.RowKit Go.Maps Go.Shelf Go.Lib Go.Sort

/-- block b is as it was -/
def SameB (w w' : World) (b : Nat) : Prop := w'.heap[b]? = w.heap[b]?
section
set_option maxRecDepth 100000
set_option maxHeartbeats 8000000
theorem allocSets_any (x y n : Int) (A : Option Addr) (c m : Nat) (us : List (Int × Int)) (hm : m = us.length) (w : World) (hr : RU w w.heap.size A us) :
    Calls Try.prog 4 #[.int .i64 x, .int .i64 y, .int .i64 n, .slice A m c] w fun e w' => e = .returned (.bool true) ∧ Below w.heap.size w w' := by
  have mixed : Try.prog.follows Departure.mixedOrders = true := by kernel_rfl
  have Hk := Lib.hid (known_any w)
  by_cases c0 : x < 1
  case pos =>
    clear hr hm
    go_enter Try.func4, Try.ntmps4
    go_wp2_with fail
    refine Hk.out.mono ?_
    rintro e w1 ⟨rfl, hb1⟩
    have Hb1 := Lib.hid hb1
    clear hb1 Hk
    go_wp2_with fail
    go_ret
    exact ⟨rfl, Hb1.out⟩
  by_cases c1 : y < 1
  case pos =>
    clear hr hm
    go_enter Try.func4, Try.ntmps4
    go_wp2_with fail
    refine Hk.out.mono ?_
    rintro e w1 ⟨rfl, hb1⟩
    have Hb1 := Lib.hid hb1
    clear hb1 Hk
    go_wp2_with fail
    go_ret
    exact ⟨rfl, Hb1.out⟩
  by_cases c2 : 32 < x
  case pos =>
    clear hr hm
    go_enter Try.func4, Try.ntmps4
    go_wp2_with fail
    refine Hk.out.mono ?_
    rintro e w1 ⟨rfl, hb1⟩
    have Hb1 := Lib.hid hb1
    clear hb1 Hk
    go_wp2_with fail
    go_ret
    exact ⟨rfl, Hb1.out⟩
  obtain ⟨d, rfl⟩ : ∃ d : Nat, x = (d : Int) := ⟨x.toNat, by omega⟩
  obtain ⟨z, rfl⟩ : ∃ z : Nat, y = (z : Int) := ⟨y.toNat, by omega⟩
  have hd0 : ¬ d = 0 := by omega
  obtain ⟨qd, hqd⟩ : ∃ qd : Nat, qd = 4096 / d := ⟨_, rfl⟩
  have hq : (4096 : Int) / (d : Int) = (qd : Int) := by rw [hqd]; simp
  have hqle : qd ≤ 4096 := by rw [hqd]; exact Nat.div_le_self _ _
  have hqw : IntKind.i64.wrap (qd : Int) = (qd : Int) := by rw [IntKind.wrap_i64]; omega
  have Hqd := Lib.hid hqd
  have Hqle := Lib.hid hqle
  clear hqd hqle
  by_cases c3 : (qd : Int) < (z : Int)
  case pos =>
    clear hr hm
    go_enter Try.func4, Try.ntmps4
    go_wp2_with fail
    refine Hk.out.mono ?_
    rintro e w1 ⟨rfl, hb1⟩
    have Hb1 := Lib.hid hb1
    clear hb1 Hk
    go_wp2_with fail
    go_ret
    exact ⟨rfl, Hb1.out⟩
  by_cases c4 : 300 < (m : Int)
  case pos =>
    clear hr hm
    go_enter Try.func4, Try.ntmps4
    go_wp2_with fail
    refine Hk.out.mono ?_
    rintro e w1 ⟨rfl, hb1⟩
    have Hb1 := Lib.hid hb1
    clear hb1 Hk
    go_wp2_with fail
    go_ret
    exact ⟨rfl, Hb1.out⟩
  by_cases c5 : n < 1
  case pos =>
    clear hr hm
    go_enter Try.func4, Try.ntmps4
    go_wp2_with fail
    refine Hk.out.mono ?_
    rintro e w1 ⟨rfl, hb1⟩
    have Hb1 := Lib.hid hb1
    clear hb1 Hk
    go_wp2_with fail
    go_ret
    exact ⟨rfl, Hb1.out⟩
  by_cases c6 : 32 < n
  case pos =>
    clear hr hm
    go_enter Try.func4, Try.ntmps4
    go_wp2_with fail
    refine Hk.out.mono ?_
    rintro e w1 ⟨rfl, hb1⟩
    have Hb1 := Lib.hid hb1
    clear hb1 Hk
    go_wp2_with fail
    go_ret
    exact ⟨rfl, Hb1.out⟩
  obtain ⟨nn, rfl⟩ : ∃ k : Nat, n = (k : Int) := ⟨n.toNat, by omega⟩
  have hd : 1 ≤ d ∧ d ≤ 32 := by omega
  have hnn : 1 ≤ nn ∧ nn ≤ 32 := by omega
  have hm3 : (m : Int) ≤ 300 := by omega
  have hdz : d * z ≤ 4096 := by
    have h1 : z ≤ 4096 / d := by have := Hqd.out; omega
    exact Nat.le_trans (Nat.mul_le_mul_left d h1) (Nat.mul_div_le 4096 d)
  have hz : 1 ≤ z ∧ z ≤ 4096 := ⟨by omega, by have := Hqle.out; omega⟩
  have Hr := Lib.hid hr
  have Hm := Lib.hid hm
  have Hnew := Lib.hid fun w => new_any d z hd hz w
  have Hnum := Lib.hid (And.intro hd (And.intro hnn (And.intro hdz hz)))
  clear hr hm hd hnn hz Hqd Hqle
  go_enter Try.func4, Try.ntmps4
  go_wp2_with fail
  refine Hk.out.mono ?_
  rintro e w1 ⟨rfl, hb1⟩
  have Hb1 := Lib.hid hb1
  clear hb1 Hk
  go_wp2_with fail
  refine (Hnew.out _).mono ?_
  rintro e w2 ⟨tb, db, mb, cap, rfl, h2, hb2, n0, n1, n2⟩
  have Hn := Lib.hid (And.intro n0 (And.intro n1 (And.intro n2 Hb1.out.size)))
  have H2 : Hid (TabAt w2 tb db mb cap d z (fun _ _ => 0) ∧ Below w.heap.size w w2) := ⟨h2, Hb1.out.trans (hb2.mono Hb1.out.size)⟩
  clear h2 hb2 Hnew Hb1 n0 n1 n2
  have hq0 : ((0 : Int) == 0) = true := rfl
  clear hq hqw c0 c1 c2 c3 hd0
  go_wp2_with fail
  go_loopw [11] (fun iv wr => ∃ (i : Nat), iv = .int .i64 (i : Int) ∧ i ≤ m ∧ Hid (∃ g, TabAt wr tb db mb cap d z g ∧ Below w.heap.size w wr)) (fun iv _ => m - (intOf iv).toNat)
  case atStart => exact ⟨0, rfl, Nat.zero_le _, _, H2.out⟩
  case round =>
    clear H2
    obtain ⟨i, rfl, hi, hS⟩ := hrel
    obtain ⟨g, ht, hbw⟩ := hS.out
    by_cases hlt : i < m
    · as_aux_lemma =>
      have hlt' : (i : Int) < (m : Int) := by omega
      obtain ⟨u, hu⟩ : ∃ u, us[i]? = some u := ⟨_, List.getElem?_eq_getElem (by rw [← Hm.out]; exact hlt)⟩
      obtain ⟨b, o, rfl, hblt, k0, k1⟩ := (Hr.out.below hbw) i u hu
      obtain ⟨p, q⟩ := u
      simp only [] at k0 k1
      have Hset : Hid (Calls Try.prog 15 #[.pointer (some ⟨tb, 0, none⟩), .int .i64 3, .slice (some ⟨wr.heap.size, 0, none⟩) 1 1] (wr.alloc (.cells #[.int .i64 p, .int .i64 q] 24)) fun e w' => (∃ er : Int, e = .returned (.int .i64 er)) ∧ Hid (∃ g, TabAt w' tb db mb cap d z g ∧ Below w.heap.size w w')) := by
        have h3 := set_any (3 : Int) (some ⟨wr.heap.size, 0, none⟩) 1 [(p, q)] (by simp) (w := wr.alloc (.cells #[.int .i64 p, .int .i64 q] 24)) (fun k u hu => by
          cases k with
          | zero =>
            simp at hu; subst hu
            exact ⟨_, _, rfl, by simp, (Cells.new wr _ _).cell rfl, (Cells.new wr _ _).cell rfl⟩
          | succ k => simp at hu) (fun b o e _ => by
            cases e
            have := ht.dc.lt
            have := ht.mc.lt
            exact ⟨by omega, by omega⟩) (ht.alloc _)
        refine h3.mono ?_
        rintro e w' ⟨he, h4, h5⟩
        have hba : Below w.heap.size w (wr.alloc (.cells #[.int .i64 p, .int .i64 q] 24)) := hbw.alloc hbw.size _
        exact ⟨⟨_, he⟩, _, h4, hba.trans (h5.to_below (fun k hk => ⟨by have := Hn.out; omega, by have := Hn.out; omega⟩) hba.size)⟩
      clear hS ht hbw hblt hu hlt
      go_wp2_with fail
      refine Hset.out.mono ?_
      rintro e w3 ⟨⟨er, rfl⟩, h3⟩
      clear Hset k0 k1
      go_wp2_with fail
      go_roundw
      case rel => exact ⟨i + 1, by go_num, by omega, h3.out⟩
      case measure => simp [intOf]; omega
    · as_aux_lemma =>
      obtain rfl : i = m := by omega
      have Hs := Lib.hid (sets_any (nn : Int) ht)
      rw [show setsV g d z nn = setsN g d z nn from by unfold setsV; rw [if_pos (by have := Hnum.out; omega)]; simp] at Hs
      obtain ⟨K, hK⟩ : ∃ K, K = setsN g d z nn := ⟨_, rfl⟩
      rw [← hK] at Hs
      have hKb : (K : Int) ≤ 131072 := by
        have h1 := feas_top (setsN_spec g d z nn Hnum.out.2.1.1).1
        have h2 : sumN (frN g z) d ≤ d * z := sum_le g z 0 d
        have h3 : K ≤ nn * K := Nat.le_mul_of_pos_left _ (by have := Hnum.out; omega)
        rw [← hK] at h1
        omega
      have HK := Lib.hid hK
      have Hg : Hid (TabAt wr tb db mb cap d z g ∧ Below w.heap.size w wr) := ⟨ht, hbw⟩
      have hmul : (d : Int) * (z : Int) = ((d * z : Nat) : Int) := by simp
      have hdz' : ((d * z : Nat) : Int) ≤ 4096 := by omega
      have Hdz : Hid (∀ a b, a < d → b < z → a * z + b < d * z) := fun a b ha hb => by
        have h1 : (a + 1) * z ≤ d * z := Nat.mul_le_mul_right z (by omega)
        rw [Nat.add_mul, Nat.one_mul] at h1
        omega
      obtain ⟨N, hN⟩ : ∃ N, N = d * z := ⟨_, rfl⟩
      rw [← hN] at hmul hdz' Hdz
      obtain ⟨cs, Hcs, hmk⟩ := make_bools N (by omega)
      clear hK hS ht hbw hlt hN hdz Hr Hm
      go_wp2_with fail
      refine Hs.out.mono ?_
      rintro e w3 ⟨rfl, hb3⟩
      have H3 : Hid (∃ g f, TabAt (w3.alloc (.cells cs 4)) tb db mb cap d z g ∧ SeenAt (w3.alloc (.cells cs 4)) w3.heap.size N f ∧ Below w.heap.size w (w3.alloc (.cells cs 4)) ∧ setsN g d z nn + 0 = K ∧ ∀ a b, a < d → b < z → f (a * z + b) = true → g a b ≠ 0) := by
        have h1 := Hg.out.1.below hb3
        have h2 := Hg.out.2.trans (hb3.mono Hg.out.2.size)
        exact ⟨g, _, h1.alloc _, SeenAt.new Hcs.out, h2.alloc h2.size _, HK.out.symm, fun a b _ _ h => by cases h⟩
      have Hsb : Hid (w3.heap.size ≠ db ∧ w3.heap.size ≠ mb ∧ w3.heap.size ≠ tb ∧ w.heap.size ≤ w3.heap.size) := by
        have h1 := Hg.out.1.below hb3
        have h2 := Hg.out.2.trans (hb3.mono Hg.out.2.size)
        exact ⟨by have := h1.dc.lt; omega, by have := h1.mc.lt; omega, by have := h1.tc.lt; omega, h2.size⟩
      clear hb3 Hs Hg HK Hcs
      generalize hsb : w3.heap.size = sb at *
      go_wp2_with fail
      clear hsb hmk
      generalize w3.alloc (.cells cs 4) = w4 at *
      go_loopw [14] (fun iv wr => ∃ (i : Nat), iv = .int .i64 (i : Int) ∧ i ≤ K ∧ Hid (∃ g f, TabAt wr tb db mb cap d z g ∧ SeenAt wr sb N f ∧ Below w.heap.size w wr ∧ setsN g d z nn + i = K ∧ ∀ a b, a < d → b < z → f (a * z + b) = true → g a b ≠ 0)) (fun iv _ => K - (intOf iv).toNat)
      case atStart => exact ⟨0, rfl, Nat.zero_le _, H3.out⟩
      case round =>
        clear H3
        obtain ⟨i, rfl, hi, hS⟩ := hrel
        obtain ⟨g, f, ht, hse, hbw, hcnt, hfg⟩ := hS.out
        have Htk := Lib.hid (take_call none 0 0 (nn : Int) [] rfl (by omega) (RI.nil _ _ _) ht)
        by_cases hlt : i < K
        · as_aux_lemma =>
          have hlt' : (i : Int) < (K : Int) := by omega
          have Hsome : Hid (∀ us er g', Took g d z (nn : Int) [] us er g' → er = 0 ∧ ∃ L : List Nat, L.length = nn ∧ L.Pairwise (· < ·) ∧ (∀ e ∈ L, e < d ∧ 0 < cnt (g e) 0 z) ∧ us = tookU g z L ∧ g' = takeAll g z L ∧ setsN g' d z nn + 1 = setsN g d z nn) := fun us er g' h => took_some Hnum.out.2.1 h (by omega)
          have Hold := Lib.hid (And.intro hse (And.intro hbw (And.intro hcnt hfg)))
          have Hsz := Lib.hid ht
          clear hS ht hse hbw hcnt hfg hlt
          go_wp2_with fail
          refine Htk.out.mono ?_
          rintro e w5 ⟨v, us5, er, g', rfl, hT, h5, hk5, ho5⟩
          obtain ⟨rfl, L, hLn, hasc, hmem, rfl, rfl, hset⟩ := Hsome.out _ _ _ hT
          have hul : (tookU g z L).length = nn := by unfold tookU; simp; exact hLn
          obtain ⟨gb, cb, rfl, hcb, hgb, hgl, hcell⟩ := ho5.flat (by intro q; rw [q] at hul; simp at hul; have := Hnum.out; omega)
          rw [hul] at hcb ⊢
          have hnd : L.Nodup := hasc.imp fun h => by omega
          have HL : Hid (∀ k (hk : k < L.length), L[k] < d ∧ low (g L[k]) z < z ∧ g L[k] (low (g L[k]) z) = 0 ∧ takeAll g z L L[k] (low (g L[k]) z) = 1) := fun k hk => by
            obtain ⟨h1, h2⟩ := hmem L[k] (List.getElem_mem hk)
            have h3 := (low_free (g L[k]) z).2 h2
            exact ⟨h1, h3, low_at _ _ h3, takeAll_took z L g L[k] hnd (List.getElem_mem hk)⟩
          have Hcell : Hid (∀ k (hk : k < L.length), w5.cell? ⟨gb, k * 2, none⟩ = some (.int .i64 (L[k] : Nat)) ∧ w5.cell? ⟨gb, k * 2 + 1, none⟩ = some (.int .i64 (low (g L[k]) z : Nat))) := fun k hk => hcell k (((L[k] : Nat) : Int), ((low (g L[k]) z : Nat) : Int)) (by unfold tookU; rw [List.getElem?_map, List.getElem?_eq_getElem hk]; rfl)
          have Hgb : Hid (gb ≠ db ∧ gb ≠ mb ∧ gb ≠ sb ∧ gb < w5.heap.size ∧ sb < w5.heap.size) := ⟨by have := Hsz.out.dc.lt; omega, by have := Hsz.out.mc.lt; omega, by have := Hold.out.1.lt; omega, hgl, by have := Hold.out.1.lt; have := hk5.size; omega⟩
          have H5 : Hid (∃ f', SeenAt w5 sb N f' ∧ TabAt w5 tb db mb cap d z (takeAll g z L) ∧ Below w.heap.size w w5 ∧ SameB w5 w5 gb ∧ ∀ a b, a < d → b < z → f' (a * z + b) = true → g a b ≠ 0 ∨ ∃ k, ∃ hk : k < L.length, k < 0 ∧ L[k] = a ∧ low (g a) z = b) :=
            ⟨f, Hold.out.1.move (hk5.block sb Hold.out.1.lt ⟨Hsb.out.1, Hsb.out.2.1⟩), h5, Hold.out.2.1.trans (hk5.to_below (fun k hk => ⟨by have := Hn.out; omega, by have := Hn.out; omega⟩) Hold.out.2.1.size), rfl, fun a b ha hb h => .inl (Hold.out.2.2.2 a b ha hb h)⟩
          have Hlen := Lib.hid hLn
          have Hasc := Lib.hid hasc
          have Hset2 : Hid (setsN (takeAll g z L) d z nn + (i + 1) = K) := (show _ = _ from by have := Hold.out.2.2.1; omega)
          have hnn32 : (nn : Int) ≤ 32 := by have := Hnum.out; omega
          clear hT h5 hk5 ho5 Htk Hsome hLn hasc hmem hset hul hgb hgl hcell hnd Hold Hsz
          go_wp2_with fail
          go_loopw [17] (fun iv wr => ∃ (j : Nat), iv = .int .i64 (j : Int) ∧ j ≤ nn ∧ Hid (∃ f', SeenAt wr sb N f' ∧ TabAt wr tb db mb cap d z (takeAll g z L) ∧ Below w.heap.size w wr ∧ SameB w5 wr gb ∧ ∀ a b, a < d → b < z → f' (a * z + b) = true → g a b ≠ 0 ∨ ∃ k, ∃ hk : k < L.length, k < j ∧ L[k] = a ∧ low (g a) z = b)) (fun iv _ => nn - (intOf iv).toNat)
          case atStart => exact ⟨0, rfl, Nat.zero_le _, H5.out⟩
          case round =>
            clear H5
            obtain ⟨j, rfl, hj, hS⟩ := hrel
            obtain ⟨f', hse, ht, hbw, hgb5, hf⟩ := hS.out
            unfold SameB at hgb5
            by_cases hlt : j < nn
            · as_aux_lemma =>
              have hjL : j < L.length := by have := Hlen.out; omega
              have hlt' : (j : Int) < (nn : Int) := by omega
              obtain ⟨q1, q2, q3, q4⟩ := HL.out j hjL
              obtain ⟨dj, hdj⟩ : ∃ dj, dj = L[j] := ⟨_, rfl⟩
              obtain ⟨zj, hzj⟩ : ∃ zj, zj = low (g L[j]) z := ⟨_, rfl⟩
              have e0 := (Hcell.out j hjL).1
              have e1 := (Hcell.out j hjL).2
              rw [← hzj] at q2 q3 q4 e1
              rw [← hdj] at q1 q3 q4 e0
              have hat := Hdz.out dj zj q1 q2
              obtain ⟨p1, hp1⟩ : ∃ p1, p1 = dj * z := ⟨_, rfl⟩
              obtain ⟨at_, hat_⟩ : ∃ at_, at_ = p1 + zj := ⟨_, rfl⟩
              have hatN : at_ < N := by omega
              have m1 : (dj : Int) * (z : Int) = (p1 : Int) := by rw [hp1]; simp
              have m2 : (p1 : Int) + (zj : Int) = (at_ : Int) := by omega
              have hatb : (at_ : Int) < (N : Int) := by omega
              have hp1b : (p1 : Int) ≤ 4096 := by omega
              have hff : f' at_ = false := by
                cases hfa : f' at_ with
                | false => rfl
                | true =>
                  rw [hat_, hp1] at hfa
                  rcases hf dj zj q1 q2 hfa with h | ⟨k, hk, hkj, hkd, _⟩
                  · exact absurd q3 h
                  · have := List.pairwise_iff_getElem.1 Hasc.out k j hk hjL hkj
                    omega
              have cg : ∀ nq os, (grow (wr.drewN nq) os).cell? ⟨gb, j * 2, none⟩ = some (.int .i64 (dj : Int)) ∧ (grow (wr.drewN nq) os).cell? ⟨gb, j * 2 + 1, none⟩ = some (.int .i64 (zj : Int)) := fun nq os => by
                have hb := below_grown_sl wr.heap.size wr nq os (Nat.le_refl _)
                have hgl : gb < wr.heap.size := by
                  rcases Nat.lt_or_ge gb wr.heap.size with h | h
                  · exact h
                  · rw [Array.getElem?_eq_none h] at hgb5
                    rw [Array.getElem?_eq_getElem Hgb.out.2.2.2.1] at hgb5
                    cases hgb5
                exact ⟨(hb.cell (p := ⟨gb, j * 2, none⟩) hgl).trans ((World.cell?_of_block (w := w5) hgb5).trans e0), (hb.cell (p := ⟨gb, j * 2 + 1, none⟩) hgl).trans ((World.cell?_of_block (w := w5) hgb5).trans e1)⟩
              have x0 := fun nq os => (cg nq os).1
              have x1 := fun nq os => (cg nq os).2
              have y0 : wr.cell? ⟨gb, j * 2, none⟩ = some (.int .i64 (dj : Int)) := by have := x0 0 #[]; rwa [grow_empty] at this
              have y1 : wr.cell? ⟨gb, j * 2 + 1, none⟩ = some (.int .i64 (zj : Int)) := by have := x1 0 #[]; rwa [grow_empty] at this
              have xs : ∀ nq os, (grow (wr.drewN nq) os).cell? ⟨sb, at_, none⟩ = some (.bool false) := fun nq os => by
                have hb := below_grown_sl wr.heap.size wr nq os (Nat.le_refl _)
                have := hse.cell hatN
                rw [hff] at this
                exact (hb.cell (p := ⟨sb, at_, none⟩) hse.lt).trans this
              have Hst : Hid (∀ nq os, Calls Try.prog 24 #[.pointer (some ⟨tb, 0, none⟩), .agg #[.int .i64 (dj : Int), .int .i64 (zj : Int)]] (grow (wr.drewN nq) os) fun e w' => e = .returned (.int .i64 1) ∧ ∃ q os', w' = grow ((grow (wr.drewN nq) os).drewN q) os') := fun nq os => by
                have := state_grown dj zj q1 q2 (ht.below (below_grown_sl wr.heap.size wr nq os (Nat.le_refl _)))
                rw [q4] at this
                exact this
              have Hnx : Hid (∀ nq os, (grow (wr.drewN nq) os).cell? ⟨sb, at_, none⟩ = some (.bool false) ∧ (grow (wr.drewN nq) os).frozen? ⟨sb, at_, none⟩ = false ∧ ∃ f', SeenAt ((grow (wr.drewN nq) os).setCell ⟨sb, at_, none⟩ (.bool true)) sb N f' ∧ TabAt ((grow (wr.drewN nq) os).setCell ⟨sb, at_, none⟩ (.bool true)) tb db mb cap d z (takeAll g z L) ∧ Below w.heap.size w ((grow (wr.drewN nq) os).setCell ⟨sb, at_, none⟩ (.bool true)) ∧ SameB w5 ((grow (wr.drewN nq) os).setCell ⟨sb, at_, none⟩ (.bool true)) gb ∧ ∀ a b, a < d → b < z → f' (a * z + b) = true → g a b ≠ 0 ∨ ∃ k, ∃ hk : k < L.length, k < j + 1 ∧ L[k] = a ∧ low (g a) z = b) := fun nq os => by
                have hb := below_grown_sl wr.heap.size wr nq os (Nat.le_refl _)
                have hse2 := hse.move (hb.block sb hse.lt)
                have ht2 := ht.below hb
                refine ⟨xs nq os, hse2.frozen _, _, hse2.set at_, ht2.move (set_other _ _ (fun e => Hsb.out.2.2.1 e.symm)) (set_other _ _ (fun e => Hsb.out.1 e.symm)) (set_other _ _ (fun e => Hsb.out.2.1 e.symm)), (hbw.trans (hb.mono hbw.size)).setCell Hsb.out.2.2.2 _, ?_, fun a b ha hb' h => ?_⟩
                · have hgl : gb < wr.heap.size := by
                    rcases Nat.lt_or_ge gb wr.heap.size with h | h
                    · exact h
                    · rw [Array.getElem?_eq_none h, Array.getElem?_eq_getElem Hgb.out.2.2.2.1] at hgb5
                      cases hgb5
                  show _ = _
                  exact (set_other _ _ Hgb.out.2.2.1).trans ((hb.block gb hgl).trans hgb5)
                · by_cases e : a * z + b = at_
                  · right
                    have hz0 : 0 < z := by omega
                    have e2 : a * z + b = dj * z + zj := by omega
                    have e3 : a = dj := by
                      have h1 : (a * z + b) / z = (dj * z + zj) / z := by rw [e2]
                      rw [Nat.mul_comm a, Nat.mul_comm dj, Nat.mul_add_div hz0, Nat.mul_add_div hz0, Nat.div_eq_of_lt hb', Nat.div_eq_of_lt q2] at h1
                      omega
                    subst e3
                    exact ⟨j, hjL, by omega, hdj.symm, by rw [hdj, ← hzj]; omega⟩
                  · have h : f' (a * z + b) = true := by simpa [e] using h
                    rcases hf a b ha hb' h with h | ⟨k, hk, hkj, h2⟩
                    · exact .inl h
                    · exact .inr ⟨k, hk, by omega, h2⟩
              have hg1 : decide ((dj : Int) < 0) = false := decide_eq_false (by omega)
              have hg2 : decide ((dj : Int) ≥ (d : Int)) = false := decide_eq_false (by omega)
              have hg2' : ¬ (d : Int) ≤ (dj : Int) := by omega
              have hn2 : decide (d ≤ dj) = false := decide_eq_false (by omega)
              have hn4 : decide (z ≤ zj) = false := decide_eq_false (by omega)
              have hg3 : decide ((zj : Int) < 0) = false := decide_eq_false (by omega)
              have hg4 : decide ((zj : Int) ≥ (z : Int)) = false := decide_eq_false (by omega)
              have hg4' : ¬ (z : Int) ≤ (zj : Int) := by omega
              have ej0 : ((j : Int)).toNat = j := by omega
              have ea0 : ((at_ : Int)).toNat = at_ := by omega
              have hjz : (0 : Int) ≤ (j : Int) := by omega
              have haz : (0 : Int) ≤ (at_ : Int) := by omega
              have hj32 : (j : Int) ≤ 32 := by omega
              have hrat : IntKind.i64.wrap (at_ : Int) = (at_ : Int) := by rw [IntKind.wrap_i64]; omega
              have hrp1 : IntKind.i64.wrap (p1 : Int) = (p1 : Int) := by rw [IntKind.wrap_i64]; omega
              by_cases hj0 : j = 0
              · have hg5 : decide ((j : Int) > 0) = false := decide_eq_false (by omega)
                have hg5' : ¬ (0 : Int) < (j : Int) := by omega
                have hn5 : decide (0 < j) = false := decide_eq_false (by omega)
                clear hS ht hse hbw hgb5 hf hlt e0 e1 hdj hzj hp1 hat_ hff q1 q2 q3 q4 cg hat hatN hj0 Hcell HL
                go_wp2_with fail
                go_quiet (fail)
                obtain ⟨n0, hn0⟩ : ∃ n0, n0 = nq := ⟨_, rfl⟩
                rw [← hn0]
                clear hn0 nq
                have eW : ∀ k os, grow ((wr.drewN n0).drewN k) os = grow (wr.drewN (n0 + k)) os := fun k os => by rw [World.drewN_drewN]
                have x0' : ∀ k os, (grow ((wr.drewN n0).drewN k) os).cell? ⟨gb, j * 2, none⟩ = some (.int .i64 (dj : Int)) := fun k os => by rw [eW]; exact x0 _ _
                have x1' : ∀ k os, (grow ((wr.drewN n0).drewN k) os).cell? ⟨gb, j * 2 + 1, none⟩ = some (.int .i64 (zj : Int)) := fun k os => by rw [eW]; exact x1 _ _
                have xs' : ∀ k os, (grow ((wr.drewN n0).drewN k) os).cell? ⟨sb, at_, none⟩ = some (.bool false) := fun k os => by rw [eW]; exact xs _ _
                skip
                have Hst' : Hid (∀ k os, Calls Try.prog 24 #[.pointer (some ⟨tb, 0, none⟩), .agg #[.int .i64 (dj : Int), .int .i64 (zj : Int)]] (grow ((wr.drewN n0).drewN k) os) fun e w' => e = .returned (.int .i64 1) ∧ ∃ q os', w' = grow ((grow ((wr.drewN n0).drewN k) os).drewN q) os') := fun k os => by rw [eW]; exact Hst.out _ _
                have Hnx' := Lib.hid fun k os => eW k os ▸ Hnx.out (n0 + k) os
                clear x0 x1 xs y0 y1 Hst Hnx eW
                generalize wr.drewN n0 = W7 at *
                go_wp2_with fail
                refine wp_region_quiet_grown mixed (by kernel_rfl) ?_
                simp only [List.append]
                repeat (go_big_quiet_step (first | (go_at_call 24; refine Calls.grown_of (Hst'.out _ _))))
                refine wpQuiet_nil ?_
                intro _ hw'
                obtain ⟨⟨nq, osq⟩, hw''⟩ := hw'
                subst hw''
                have Hn2 := Lib.hid (Hnx'.out nq osq)
                clear x0' x1' xs' Hst' Hnx'
                generalize grow (W7.drewN nq) osq = w6 at Hn2 ⊢
                clear nq osq
                have s0 := Hn2.out.1
                have s1 := Hn2.out.2.1
                have H6 := Lib.hid Hn2.out.2.2
                clear Hn2
                go_wp2_with fail
                go_roundw
                case rel => exact ⟨j + 1, by go_num, by omega, H6.out⟩
                case measure => simp [intOf]; omega
              · obtain ⟨jp, hjp⟩ : ∃ jp, jp + 1 = j := ⟨j - 1, by omega⟩
                have hg5 : decide ((j : Int) > 0) = true := decide_eq_true (by omega)
                have hg5' : (0 : Int) < (j : Int) := by omega
                have hn5 : decide (0 < j) = true := decide_eq_true (by omega)
                have ejp : (j : Int) - 1 = (jp : Int) := by omega
                have ejw : IntKind.i64.wrap (jp : Int) = (jp : Int) := by rw [IntKind.wrap_i64]; omega
                have ejn : ((jp : Int)).toNat = jp := by omega
                have hjp0 : (0 : Int) ≤ (jp : Int) := by omega
                have hjpn : (jp : Int) < (nn : Int) := by omega
                have hjpL : jp < L.length := by omega
                obtain ⟨dp, hdp⟩ : ∃ dp, dp = L[jp] := ⟨_, rfl⟩
                have xp : ∀ nq os, (grow (wr.drewN nq) os).cell? ⟨gb, jp * 2, none⟩ = some (.int .i64 (dp : Int)) := fun nq os => by
                  have hb := below_grown_sl wr.heap.size wr nq os (Nat.le_refl _)
                  have hgl : gb < wr.heap.size := by
                    rcases Nat.lt_or_ge gb wr.heap.size with h | h
                    · exact h
                    · rw [Array.getElem?_eq_none h, Array.getElem?_eq_getElem Hgb.out.2.2.2.1] at hgb5
                      cases hgb5
                  rw [hdp]
                  exact (hb.cell (p := ⟨gb, jp * 2, none⟩) hgl).trans ((World.cell?_of_block (w := w5) hgb5).trans (Hcell.out jp hjpL).1)
                have hlt3 : dp < dj := by
                  rw [hdp, hdj]
                  exact List.pairwise_iff_getElem.1 Hasc.out jp j hjpL hjL (by omega)
                have hg6 : decide ((dp : Int) ≥ (dj : Int)) = false := decide_eq_false (by omega)
                have hg6' : ¬ (dj : Int) ≤ (dp : Int) := by omega
                have hn6 : decide (dj ≤ dp) = false := decide_eq_false (by omega)
                clear hdp hjpL hlt3 hjp
                clear hS ht hse hbw hgb5 hf hlt e0 e1 hdj hzj hp1 hat_ hff q1 q2 q3 q4 cg hat hatN hj0 Hcell HL
                go_wp2_with fail
                go_quiet (fail)
                obtain ⟨n0, hn0⟩ : ∃ n0, n0 = nq := ⟨_, rfl⟩
                rw [← hn0]
                clear hn0 nq
                have eW : ∀ k os, grow ((wr.drewN n0).drewN k) os = grow (wr.drewN (n0 + k)) os := fun k os => by rw [World.drewN_drewN]
                have x0' : ∀ k os, (grow ((wr.drewN n0).drewN k) os).cell? ⟨gb, j * 2, none⟩ = some (.int .i64 (dj : Int)) := fun k os => by rw [eW]; exact x0 _ _
                have x1' : ∀ k os, (grow ((wr.drewN n0).drewN k) os).cell? ⟨gb, j * 2 + 1, none⟩ = some (.int .i64 (zj : Int)) := fun k os => by rw [eW]; exact x1 _ _
                have xs' : ∀ k os, (grow ((wr.drewN n0).drewN k) os).cell? ⟨sb, at_, none⟩ = some (.bool false) := fun k os => by rw [eW]; exact xs _ _
                have xp' : ∀ k os, (grow ((wr.drewN n0).drewN k) os).cell? ⟨gb, jp * 2, none⟩ = some (.int .i64 (dp : Int)) := fun k os => by rw [eW]; exact xp _ _
                clear xp
                have Hst' : Hid (∀ k os, Calls Try.prog 24 #[.pointer (some ⟨tb, 0, none⟩), .agg #[.int .i64 (dj : Int), .int .i64 (zj : Int)]] (grow ((wr.drewN n0).drewN k) os) fun e w' => e = .returned (.int .i64 1) ∧ ∃ q os', w' = grow ((grow ((wr.drewN n0).drewN k) os).drewN q) os') := fun k os => by rw [eW]; exact Hst.out _ _
                have Hnx' := Lib.hid fun k os => eW k os ▸ Hnx.out (n0 + k) os
                clear x0 x1 xs y0 y1 Hst Hnx eW
                generalize wr.drewN n0 = W7 at *
                go_wp2_with fail
                refine wp_region_quiet_grown mixed (by kernel_rfl) ?_
                simp only [List.append]
                repeat (go_big_quiet_step (first | (go_at_call 24; refine Calls.grown_of (Hst'.out _ _))))
                refine wpQuiet_nil ?_
                intro _ hw'
                obtain ⟨⟨nq, osq⟩, hw''⟩ := hw'
                subst hw''
                have Hn2 := Lib.hid (Hnx'.out nq osq)
                clear x0' x1' xs' Hst' Hnx'
                generalize grow (W7.drewN nq) osq = w6 at Hn2 ⊢
                clear nq osq
                have s0 := Hn2.out.1
                have s1 := Hn2.out.2.1
                have H6 := Lib.hid Hn2.out.2.2
                clear Hn2
                go_wp2_with fail
                go_roundw
                case rel => exact ⟨j + 1, by go_num, by omega, H6.out⟩
                case measure => simp [intOf]; omega
            · as_aux_lemma =>
              obtain rfl : j = nn := by omega
              have Hnx : Hid (∃ g f, TabAt wr tb db mb cap d z g ∧ SeenAt wr sb N f ∧ Below w.heap.size w wr ∧ setsN g d z j + (i + 1) = K ∧ ∀ a b, a < d → b < z → f (a * z + b) = true → g a b ≠ 0) := by
                refine ⟨_, _, ht, hse, hbw, Hset2.out, fun a b ha hb h => ?_⟩
                rcases hf a b ha hb h with h | ⟨k, hk, _, rfl, rfl⟩
                · exact takeAll_keeps z L g a b h
                · rw [(HL.out k hk).2.2.2]; omega
              clear hS ht hse hbw hgb5 hf hlt
              go_wp2_with fail
              go_roundw
              case rel => exact ⟨i + 1, by go_num, by omega, Hnx.out⟩
              case measure => simp [intOf]; omega
        · as_aux_lemma =>
          obtain rfl : i = K := by omega
          have h0 : setsN g d z nn = 0 := by omega
          have Hend : Hid (∀ us er g', Took g d z (nn : Int) [] us er g' → er = 5 ∧ g' = g) := fun us er g' h => by
            have := took_none Hnum.out.2.1 h h0
            exact ⟨this.1, this.2.2⟩
          have Hs2 : Hid (∀ w', TabAt w' tb db mb cap d z g → Calls Try.prog 26 #[.pointer (some ⟨tb, 0, none⟩), .int .i64 (nn : Int)] w' fun e w'' => e = .returned (.int .i64 0) ∧ Below w'.heap.size w' w'') := fun w' h => by
            have := sets_any (nn : Int) h
            rw [show setsV g d z nn = 0 from by unfold setsV; rw [if_pos (by have := Hnum.out; omega)]; simpa using h0] at this
            exact this
          have Hbw := Lib.hid hbw
          clear hS ht hse hbw hcnt hfg hlt h0
          go_wp2_with fail
          refine Htk.out.mono ?_
          rintro e w5 ⟨v, us5, er, g', rfl, hT, h5, hk5, _⟩
          obtain ⟨rfl, rfl⟩ := Hend.out _ _ _ hT
          have Hs3 := Lib.hid (Hs2.out w5 h5)
          have Hb5 : Hid (Below w.heap.size w w5) := Hbw.out.trans (hk5.to_below (fun k hk => ⟨by have := Hn.out; omega, by have := Hn.out; omega⟩) Hbw.out.size)
          clear hT h5 hk5 Htk Hend Hs2 Hbw
          go_wp2_with fail
          refine Hs3.out.mono ?_
          rintro e w6 ⟨rfl, hb6⟩
          have Hb6 : Hid (Below w.heap.size w w6) := Hb5.out.trans (hb6.mono Hb5.out.size)
          clear hb6 Hs3 Hb5
          go_wp2_with fail
          go_ret
          exact ⟨by simp, Hb6.out⟩
end
end Go.Proofs.Ytffmipmkbbholaa
