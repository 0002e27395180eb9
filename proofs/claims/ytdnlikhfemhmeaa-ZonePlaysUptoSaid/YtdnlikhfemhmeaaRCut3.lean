/-
  The second saying's Cut, walked: the loop.
-/
import Derived.Test.YtdnlikhfemhmeaaRCut2
namespace Go.Proofs.Ytdnlikhfemhmeaa
open Go.RowKit

set_option maxRecDepth 20000 in
set_option maxHeartbeats 2000000 in
theorem rcut_any (i pw d : Nat) (A : Option Addr) (c : Nat) (picks : List Int) (D : Drv) (O : Nat → Option Tag) (w : World) (hok : D.Ok) (hD : RDrvAt w O i pw d D) (hf : ∀ b, O b ≠ none → b < w.heap.size)
    (hR : RI w w.heap.size A picks) (hA : picks ≠ [] → ∀ ad, A = some ad → O ad.block ≠ some (.piles i)) (hc : picks.length ≤ c) (hpl : picks.length ≤ 1099511627776) :
    Calls Try.prog 36 #[.pointer (some ⟨d, 0, none⟩), .slice A picks.length c] w fun e w' => e = .returned (.tuple #[]) ∧ RCutDone w O i pw d D picks w' := by
  obtain ⟨N, hN⟩ : ∃ N, N = D.piles.length := ⟨_, rfl⟩
  have hN1 : (N : Int) ≤ 4096 := by have := hok.zones; omega
  have Hst : Hid (RCutSt w O i pw d D picks 0 0 w) := ⟨O, [], D.piles, rfl, by simp, by simp, hok, hD, Kept.refl _ _, fun _ _ => rfl, hf, fun b t hb ht => by have := hf b (by rw [ht]; simp); omega⟩
  have HN := Lib.hid hN
  have HA := Lib.hid hA
  have HR := Lib.hid hR
  have hpl' : (picks.length : Int) ≤ 1099511627776 := by omega
  clear hok hD hR hN hA hf
  go_enter Try.func36, Try.ntmps36
  go_wp2_with fail
  go_loopw [4, 5] (fun av iv wr => ∃ (k a : Nat), iv = .int .i64 (k : Int) ∧ av = .int .i64 (a : Int) ∧ k ≤ N ∧ a ≤ k ∧ Hid (RCutSt w O i pw d D picks k a wr)) (fun _ iv _ => N - (intOf iv).toNat)
  case atStart => exact ⟨0, 0, rfl, rfl, Nat.zero_le _, Nat.le_refl _, Hst.out⟩
  case round =>
    obtain ⟨k, a, rfl, rfl, hk, hak, hrel⟩ := hrel
    obtain ⟨O', done, rest, e1, e2, e3, e4, e5, e6, e7, e8, e9⟩ := hrel.out
    obtain ⟨g, cs, h1, h2, h3, h4, h5, h6⟩ := e5
    have hlen : (done ++ rest).length = N := by have := HN.out; simp at e2 ⊢; omega
    simp only [hlen] at h1 h5
    have hd1 : wr.cell? ⟨d, 3, none⟩ = some (.slice (some ⟨g, 0, none⟩) N N) := h1.cell rfl
    by_cases hlt : k < N
    case neg =>
      obtain rfl : k = N := by omega
      have Hfin : Hid (RCutDone w O i pw d D picks wr) := by
        have e0 : rest = [] := List.eq_nil_of_length_eq_zero (by have := HN.out; omega)
        subst e0
        have q9 : (D.cut picks) = { D with piles := done ++ [] } := by unfold Drv.cut; rw [e3]; rfl
        refine ⟨O', ?_, e6, e7, e8, e9⟩
        rw [q9]
        exact ⟨g, cs, by simp only [hlen]; exact h1, h2, h3, h4, by simp only [hlen]; exact h5, h6⟩
      clear hlt hk hak e1 e2 e3 e4 e6 e7 e8 e9 h1 h2 h3 h4 h5 h6
      go_wp2_with fail
      go_end0
      exact ⟨rfl, Hfin.out⟩
    obtain ⟨p, rest', rfl⟩ : ∃ p rest', rest = p :: rest' := by
      rcases rest with _ | ⟨p, r⟩
      · have := HN.out
        simp at e2
        omega
      · exact ⟨p, r, rfl⟩
    have hz : (done ++ p :: rest')[k]? = some p := by rw [← e1]; simp
    obtain ⟨v, c0, c1, vs, hrow, hOr, hvl, hpg⟩ := h6 k p hz
    have hp0 : p.pages.length ≤ D.cap := e4.pages p (by simp)
    have hf0 := e4.firm p (by simp)
    have hcc : D.cap ≤ 4096 := e4.cap
    have hk' : (k : Int) < (N : Int) := by omega
    by_cases hnf : p.pages.length = p.firm
    · have Hs : Hid (∀ q, RCutSt w O i pw d D picks (k + 1) a (wr.drewN q)) := fun q => RCutSt.stay e1 e2 e3 e4 ⟨g, cs, by simp only [hlen]; exact h1, h2, h3, h4, by simp only [hlen]; exact h5, h6⟩ e6 e7 e8 e9 hnf q
      obtain ⟨A0, cap0, rfl, hcap0, _, _⟩ := hrow.rd
      have hcell0 := h3.cell c0
      have hcell1 := h3.cell c1
      rw [hvl, hnf] at hcell0
      have hfc : (p.firm : Int) ≤ 4096 := by omega
      generalize p.firm = f at *
      clear hlen hz h1 h2 h3 h4 h5 h6 c0 c1 hrow hOr hvl hpg hp0 hf0 hcc e1 e2 e3 e4 e6 e7 e8 e9 hnf hcap0
      go_wp2_with fail
      go_quiet (fail)
      go_wp2_with fail
      go_roundw
      case rel => exact ⟨k + 1, a, by go_num, rfl, by omega, by omega, Hs.out _⟩
      case measure => simp [intOf]; omega
    obtain ⟨b, A0, cap0, hrow0, hcap0, hrd0⟩ : ∃ b A0 cap0, Value.slice A0 p.pages.length cap0 = v ∧ p.pages.length ≤ cap0 ∧ A0 = some ⟨b, 0, none⟩ ∧ ∀ (j : Nat) u, vs[j]? = some u → wr.cell? ⟨b, j, none⟩ = some u := by
      rcases hrow.form with ⟨_, hnil⟩ | ⟨b, cp, cur, e, _, hcur, hnc, hcm, hlc, htk⟩
      · rw [hnil] at hvl
        simp at hvl
        omega
      · refine ⟨b, some ⟨b, 0, none⟩, cp, by rw [e, hvl], by omega, rfl, fun j u hj => hcur.cell ?_⟩
        have hjl := (List.getElem?_eq_some_iff.1 hj).1
        rw [← htk, List.getElem?_take, if_pos hjl] at hj
        exact hj
    obtain ⟨rfl, hrd0⟩ := hrd0
    subst hrow0
    obtain ⟨x, hx⟩ : ∃ x, x = (picks.drop a).headD 0 := ⟨_, rfl⟩
    obtain ⟨m, hm⟩ : ∃ m, m = p.keep x := ⟨_, rfl⟩
    have hkl := p.keep_le x hf0
    rw [← hm] at hkl
    have Hgo : Hid (∀ (W9 : World) (v9 : Value), OwnV W9 wr.heap.size 46 v9 (vs.take m) → Kept (fun _ => True) wr W9 → ∀ q,
        RCutSt w O i pw d D picks (k + 1) (a + 1) (((W9.setCell ⟨g, k * 2, none⟩ v9).setCell ⟨g, k * 2 + 1, none⟩ (.int .i64 (m : Int))).drewN q)) :=
      fun W9 v9 q1 q2 q => RCutSt.go e1 e2 e3 e4 (by simp only [hlen]; exact h1) h2 h3 h4 (by simp only [hlen]; exact h5) h6 e6 e7 e8 e9 hnf hx hvl hpg hm hkl.2 q1 q2 q
    have HRr : Hid (RI wr w.heap.size A picks) := HR.out.keptN e6 HA.out (Nat.le_refl _)
    have hcell0 := h3.cell c0
    have hcell1 := h3.cell c1
    have hfz0 := h3.frozen (k * 2)
    have hfz1 := h3.frozen (k * 2 + 1)
    have Hcells : Hid (∀ (q : Nat) (ob : Obj) (j : Nat) u, (vs.take m)[j]? = some u → ∃ ad, some (⟨b, 0, none⟩ : Addr) = some ad ∧ ((wr.drewN q).alloc ob).cell? (ad.add j) = some u) := by
      intro q ob j u hj
      rw [List.getElem?_take] at hj
      split at hj
      · refine ⟨_, rfl, ?_⟩
        have h9 := hrd0 j u hj
        rw [show (⟨b, 0, none⟩ : Addr).add j = ⟨b, j, none⟩ by unfold Addr.add; by_cases hj0 : j = 0 <;> simp [hj0]]
        exact (World.cell?_alloc_lt (wr.drewN q) ob ⟨b, j, none⟩ (World.block_lt_of_cell? (wr.drewN q) ⟨b, j, none⟩ h9)).trans h9
      · cases hj
    have Hone : Hid (∀ u ∈ vs.take m, u.oneCell' = true) := by
      intro u hu
      obtain ⟨j, hj⟩ := List.getElem?_of_mem hu
      rw [List.getElem?_take] at hj
      split at hj
      · have hjl := (List.getElem?_eq_some_iff.1 hj).1
        obtain ⟨l, hl⟩ : ∃ l, p.pages[j]? = some l := ⟨_, List.getElem?_eq_getElem (by omega)⟩
        obtain ⟨u', hu', hat⟩ := hpg j l hl
        rw [hj] at hu'
        cases hu'
        obtain ⟨A1, c1, e, _⟩ := hat.1.rb
        rw [e]
        rfl
      · cases hj
    have Hml : Hid ((vs.take m).length = m) := by show _ = _; rw [List.length_take]; omega
    have Hm2 : Hid (m ≤ vs.length) := by show _ ≤ _; omega
    have Hm3 : Hid (m ≤ 4096) := by show _ ≤ _; omega
    have hdg : d ≠ g := by intro e; rw [e, h4] at h2; cases h2
    have hglt := Lib.hid h3.lt
    have hdlt := Lib.hid h1.lt
    have Hset : Hid (∀ (W9 : World) (v9 : Value), W9.heap[g]? = wr.heap[g]? → W9.heap[d]? = wr.heap[d]? →
        (W9.setCell ⟨g, k * 2, none⟩ v9).cell? ⟨d, 3, none⟩ = some (.slice (some ⟨g, 0, none⟩) N N) ∧ (W9.setCell ⟨g, k * 2, none⟩ v9).cell? ⟨g, k * 2 + 1, none⟩ = some (.int .i64 (p.firm : Int)) ∧
          (W9.setCell ⟨g, k * 2, none⟩ v9).cell? ⟨g, k * 2, none⟩ = some v9 ∧ (W9.setCell ⟨g, k * 2, none⟩ v9).frozen? ⟨g, k * 2 + 1, none⟩ = false) := by
      intro W9 v9 bg bd
      have q3 := (h3.move bg).set (k * 2) v9
      refine ⟨(World.cell?_of_block (w := wr) ((Below.heap_setCell W9 ⟨g, k * 2, none⟩ v9 d hdg).trans bd)).trans hd1, q3.cell (by rw [List.getElem?_set_ne (by omega)]; exact c1), q3.cell (by rw [List.getElem?_set_self (by omega)]), q3.frozen _⟩
    have hkeep : m = p.firm + (if 0 ≤ x then (x % ((p.pages.length : Int) - (p.firm : Int) + 1)).toNat else 0) := hm
    have hfn : p.firm < p.pages.length := by omega
    have hn4 : p.pages.length ≤ 4096 := by omega
    have hk1 := hkl.2
    generalize p.pages.length = n at *
    generalize p.firm = f at *
    clear hlen hz h1 h2 h3 h4 h5 h6 c0 c1 hrow hOr hvl hpg hp0 hf0 hcc e1 e2 e3 e4 e6 e7 e8 e9 hnf hm hkl hrd0
    have hw0 : IntKind.i64.wrap ((n : Int) - (f : Int)) = (n : Int) - (f : Int) := IntWalk.i64_in _ (by omega)
    have hw1 : IntKind.i64.wrap ((n : Int) - (f : Int) + 1) = (n : Int) - (f : Int) + 1 := IntWalk.i64_in _ (by omega)
    have hnz : ¬ ((n : Int) - (f : Int) + 1 = 0) := by omega
    have hne : ((n : Int) - (f : Int) == 0) = false := by simp; omega
    obtain ⟨r, hr, hr2⟩ : ∃ r : Nat, m = f + r ∧ r = (if 0 ≤ x then (x % ((n : Int) - (f : Int) + 1)).toNat else 0) := ⟨_, hkeep, rfl⟩
    have hs : IntKind.i64.wrap ((f : Int) + (r : Int)) = (m : Int) := by rw [hr]; exact IntWalk.i64_in _ (by omega)
    have hmc : (m : Int) ≤ (cap0 : Int) := by omega
    clear hkeep
    have key : (picks.length ≤ a ∧ r = 0) ∨ (a < picks.length ∧ ∃ bp op, A = some ⟨bp, op, none⟩ ∧ wr.cell? ⟨bp, op + a, none⟩ = some (.int .i64 x)) := by
      by_cases hal : a < picks.length
      · obtain ⟨bp, op, rfl, _⟩ := HRr.out.flat (by omega)
        refine .inr ⟨hal, bp, op, rfl, ?_⟩
        rw [HRr.out.at_ hal, hx, List.drop_eq_getElem_cons hal]
        rfl
      · refine .inl ⟨by omega, ?_⟩
        rw [hr2, hx, List.drop_eq_nil_of_le (by omega)]
        simp
    have hak' : (a : Int) ≤ 4096 := by omega
    have Hk := Lib.hid hk
    have Hpost : Hid (∀ (q : Nat) (W9 : World) (v9 : Value) (ob : Obj), ob = .cells #[] 46 → OwnV W9 wr.heap.size 46 v9 ([] ++ vs.take m) → ((wr.drewN q).alloc ob).grownBy W9 (some wr.heap.size) →
        ∃ A9 c9, v9 = .slice A9 m c9 ∧ (W9.cell? ⟨d, 3, none⟩ = some (.slice (some ⟨g, 0, none⟩) N N) ∧ W9.cell? ⟨g, k * 2 + 1, none⟩ = some (.int .i64 (f : Int))) ∧ W9.cell? ⟨g, k * 2, none⟩ = some (.slice (some ⟨b, 0, none⟩) n cap0) ∧
          W9.frozen? ⟨g, k * 2, none⟩ = false ∧ ((W9.setCell ⟨g, k * 2, none⟩ v9).cell? ⟨d, 3, none⟩ = some (.slice (some ⟨g, 0, none⟩) N N) ∧ (W9.setCell ⟨g, k * 2, none⟩ v9).cell? ⟨g, k * 2 + 1, none⟩ = some (.int .i64 (f : Int)) ∧
          (W9.setCell ⟨g, k * 2, none⟩ v9).cell? ⟨g, k * 2, none⟩ = some v9 ∧ (W9.setCell ⟨g, k * 2, none⟩ v9).frozen? ⟨g, k * 2 + 1, none⟩ = false) ∧ ∀ q, RCutSt w O i pw d D picks (k + 1) (a + 1) (((W9.setCell ⟨g, k * 2, none⟩ v9).setCell ⟨g, k * 2 + 1, none⟩ (.int .i64 (m : Int))).drewN q)) := by
      intro q W9 v9 ob ho hown9 hg9
      obtain ⟨hk9, ho9, A9, c9, e⟩ := rcut_app ho hown9 hg9 Hm2.out
      have bg := hk9.block g hglt.out trivial
      have bd := hk9.block d hdlt.out trivial
      exact ⟨A9, c9, e, ⟨(World.cell?_of_block (w := wr) bd).trans hd1, (World.cell?_of_block (w := wr) bg).trans hcell1⟩, (World.cell?_of_block (w := wr) bg).trans hcell0, (World.frozen?_of_block (w := wr) bg).trans hfz0, Hset.out W9 v9 bg bd, Hgo.out W9 v9 ho9 hk9⟩
    have Hal : Hid (∀ (q : Nat) (ob : Obj), ((wr.drewN q).alloc ob).cell? ⟨d, 3, none⟩ = some (.slice (some ⟨g, 0, none⟩) N N) ∧ ((wr.drewN q).alloc ob).cell? ⟨g, k * 2 + 1, none⟩ = some (.int .i64 (f : Int)) ∧ ((wr.drewN q).alloc ob).cell? ⟨g, k * 2, none⟩ = some (.slice (some ⟨b, 0, none⟩) n cap0)) :=
      fun q ob => ⟨(World.cell?_alloc_lt (wr.drewN q) ob ⟨d, 3, none⟩ hdlt.out).trans hd1, (World.cell?_alloc_lt (wr.drewN q) ob ⟨g, k * 2 + 1, none⟩ hglt.out).trans hcell1, (World.cell?_alloc_lt (wr.drewN q) ob ⟨g, k * 2, none⟩ hglt.out).trans hcell0⟩
    have Hd := Lib.hid hd1
    have H0 := Lib.hid hcell0
    have H1 := Lib.hid hcell1
    clear Hgo
    rcases key with ⟨hpa, rfl⟩ | ⟨hpa, bp, op, rfl, hcx⟩
    · have hpa' : ((a : Int) < (picks.length : Int)) = False := by simp; omega
      have hs0 : IntKind.i64.wrap ((f : Int) + 0) = (m : Int) := by rw [hr]; exact IntWalk.i64_in _ (by omega)
      have hs1 : IntKind.i64.wrap (f : Int) = (m : Int) := by rw [hr]; exact IntWalk.i64_in _ (by omega)
      clear hr2 hx hs hr
      generalize picks.length = pn at *
      go_wp2_with fail
      go_quiet (fail)
      go_wp2_with fail
      have hal0 := (Hal.out (nq + 1) (.cells #[] 46)).2.2
      refine wp_region_noPanic ?_
      refine wp_region_held_drew (S := (fun W => W.cell? ⟨d, 3, none⟩ = some (.slice (some ⟨g, 0, none⟩) N N) ∧ W.cell? ⟨g, k * 2 + 1, none⟩ = some (.int .i64 (f : Int)))) (by kernel_rfl) ?_ (fun hHeld => ?_)
      · try dsimp only
        (first
          | exact ⟨Hd.out, H1.out⟩
          | exact ⟨(Hal.out (nq + 1) _).1, (Hal.out (nq + 1) _).2.1⟩
          | exact hS9
          | exact hS10)
      refine wpAnyH_take (i := 0) (v := ?_) rfl (by kernel_rfl) (by kernel_rfl) (by kernel_rfl) (fun _ _ _ h => h) (Or.inl ⟨by rfl, ?_⟩) (by assumption) ?_
      rotate_left
      · intro w hSw
        try dsimp only at hSw
        simp only [List.getElem_toArray, List.getElem_cons_succ, List.getElem_cons_zero]
        go_simp
        try with_reducible rfl
      simp only [List.getElem_toArray, List.getElem_cons_succ, List.getElem_cons_zero]
      try simp only [Act.put, List.setIfInBounds_toArray, List.set_cons_zero, List.set_cons_succ]
      refine wpAnyH_take (i := 1) (v := ?_) rfl (by kernel_rfl) (by kernel_rfl) (by kernel_rfl) (fun _ _ _ h => h) (Or.inl ⟨by rfl, ?_⟩) (by assumption) ?_
      rotate_left
      · intro w hSw
        try dsimp only at hSw
        simp only [List.getElem_toArray, List.getElem_cons_succ, List.getElem_cons_zero]
        go_simp
        try with_reducible rfl
      simp only [List.getElem_toArray, List.getElem_cons_succ, List.getElem_cons_zero]
      try simp only [Act.put, List.setIfInBounds_toArray, List.set_cons_zero, List.set_cons_succ]
      refine wpAnyH_take (i := 2) (v := ?_) rfl (by kernel_rfl) (by kernel_rfl) (by kernel_rfl) (fun _ _ _ h => h) (Or.inl ⟨by rfl, ?_⟩) (by assumption) ?_
      rotate_left
      · intro w hSw
        try dsimp only at hSw
        simp only [List.getElem_toArray, List.getElem_cons_succ, List.getElem_cons_zero]
        go_simp
        try with_reducible rfl
      simp only [List.getElem_toArray, List.getElem_cons_succ, List.getElem_cons_zero]
      try simp only [Act.put, List.setIfInBounds_toArray, List.set_cons_zero, List.set_cons_succ]
      refine wpAnyH_take (i := 3) (v := ?_) rfl (by kernel_rfl) (by kernel_rfl) (by kernel_rfl) (fun _ _ _ h => h) (Or.inl ⟨by rfl, ?_⟩) (by assumption) ?_
      rotate_left
      · intro w hSw
        try dsimp only at hSw
        simp only [List.getElem_toArray, List.getElem_cons_succ, List.getElem_cons_zero]
        go_simp
        try with_reducible rfl
      simp only [List.getElem_toArray, List.getElem_cons_succ, List.getElem_cons_zero]
      try simp only [Act.put, List.setIfInBounds_toArray, List.set_cons_zero, List.set_cons_succ]
      refine wpAnyH_take (i := 4) (v := ?_) rfl (by kernel_rfl) (by kernel_rfl) (by kernel_rfl) (fun _ _ _ h => h) (Or.inl ⟨by rfl, ?_⟩) (by assumption) ?_
      rotate_left
      · intro w hSw
        try dsimp only at hSw
        simp only [List.getElem_toArray, List.getElem_cons_succ, List.getElem_cons_zero]
        go_simp
        try with_reducible rfl
      simp only [List.getElem_toArray, List.getElem_cons_succ, List.getElem_cons_zero]
      try simp only [Act.put, List.setIfInBounds_toArray, List.set_cons_zero, List.set_cons_succ]
      refine wpAnyH_take (i := 6) (v := ?_) rfl (by kernel_rfl) (by kernel_rfl) (by kernel_rfl) (fun _ _ _ h => h) (Or.inl ⟨by rfl, ?_⟩) (by assumption) ?_
      rotate_left
      · intro w hSw
        try dsimp only at hSw
        simp only [List.getElem_toArray, List.getElem_cons_succ, List.getElem_cons_zero]
        go_simp
        try with_reducible rfl
      simp only [List.getElem_toArray, List.getElem_cons_succ, List.getElem_cons_zero]
      try simp only [Act.put, List.setIfInBounds_toArray, List.set_cons_zero, List.set_cons_succ]
      refine wpAnyH_take (i := 7) (v := ?_) rfl (by kernel_rfl) (by kernel_rfl) (by kernel_rfl) (fun _ _ _ h => h) (Or.inl ⟨by rfl, ?_⟩) (by assumption) ?_
      rotate_left
      · intro w hSw
        try dsimp only at hSw
        simp only [List.getElem_toArray, List.getElem_cons_succ, List.getElem_cons_zero]
        go_simp
        try with_reducible rfl
      simp only [List.getElem_toArray, List.getElem_cons_succ, List.getElem_cons_zero]
      try simp only [Act.put, List.setIfInBounds_toArray, List.set_cons_zero, List.set_cons_succ]
      refine wpAnyH_take (i := 8) (v := ?_) rfl (by kernel_rfl) (by kernel_rfl) (by kernel_rfl) (fun _ _ _ h => h) (Or.inl ⟨by rfl, ?_⟩) (by assumption) ?_
      rotate_left
      · intro w hSw
        try dsimp only at hSw
        simp only [List.getElem_toArray, List.getElem_cons_succ, List.getElem_cons_zero]
        go_simp
        try with_reducible rfl
      simp only [List.getElem_toArray, List.getElem_cons_succ, List.getElem_cons_zero]
      try simp only [Act.put, List.setIfInBounds_toArray, List.set_cons_zero, List.set_cons_succ]
      refine wpAnyH_take (i := 9) (v := ?_) rfl (by kernel_rfl) (by kernel_rfl) (by kernel_rfl) (fun _ _ _ h => h) (Or.inl ⟨by rfl, ?_⟩) (by assumption) ?_
      rotate_left
      · intro w hSw
        try dsimp only at hSw
        simp only [List.getElem_toArray, List.getElem_cons_succ, List.getElem_cons_zero]
        go_simp
        try with_reducible rfl
      simp only [List.getElem_toArray, List.getElem_cons_succ, List.getElem_cons_zero]
      try simp only [Act.put, List.setIfInBounds_toArray, List.set_cons_zero, List.set_cons_succ]
      refine wpAnyH_take (i := 10) (v := ?_) rfl (by kernel_rfl) (by kernel_rfl) (by kernel_rfl) (fun _ _ _ h => h) (Or.inl ⟨by rfl, ?_⟩) (by assumption) ?_
      rotate_left
      · intro w hSw
        try dsimp only at hSw
        simp only [List.getElem_toArray, List.getElem_cons_succ, List.getElem_cons_zero]
        go_simp
        try with_reducible rfl
      simp only [List.getElem_toArray, List.getElem_cons_succ, List.getElem_cons_zero]
      try simp only [Act.put, List.setIfInBounds_toArray, List.set_cons_zero, List.set_cons_succ]
      refine wpAnyH_take (i := 11) (v := ?_) rfl (by kernel_rfl) (by kernel_rfl) (by kernel_rfl) (fun _ _ _ h => h) (Or.inl ⟨by rfl, ?_⟩) (by assumption) ?_
      rotate_left
      · intro w hSw
        try dsimp only at hSw
        simp only [List.getElem_toArray, List.getElem_cons_succ, List.getElem_cons_zero]
        go_simp
        try with_reducible rfl
      simp only [List.getElem_toArray, List.getElem_cons_succ, List.getElem_cons_zero]
      try simp only [Act.put, List.setIfInBounds_toArray, List.set_cons_zero, List.set_cons_succ]
      refine wpAnyH_take (i := 12) (v := ?_) rfl (by kernel_rfl) (by kernel_rfl) (by kernel_rfl) (fun _ _ _ h => h) (Or.inl ⟨by rfl, ?_⟩) (by assumption) ?_
      rotate_left
      · intro w hSw
        try dsimp only at hSw
        simp only [List.getElem_toArray, List.getElem_cons_succ, List.getElem_cons_zero]
        go_simp
        try with_reducible rfl
      simp only [List.getElem_toArray, List.getElem_cons_succ, List.getElem_cons_zero]
      try simp only [Act.put, List.setIfInBounds_toArray, List.set_cons_zero, List.set_cons_succ]
      refine wpAnyH_take (i := 14) (v := ?_) rfl (by kernel_rfl) (by kernel_rfl) (by kernel_rfl) (fun _ _ _ h => h) (Or.inl ⟨by rfl, ?_⟩) (by assumption) ?_
      rotate_left
      · intro w hSw
        try dsimp only at hSw
        simp only [List.getElem_toArray, List.getElem_cons_succ, List.getElem_cons_zero]
        go_simp
        try with_reducible rfl
      simp only [List.getElem_toArray, List.getElem_cons_succ, List.getElem_cons_zero]
      try simp only [Act.put, List.setIfInBounds_toArray, List.set_cons_zero, List.set_cons_succ]
      refine wpAnyH_take (i := 15) (v := ?_) rfl (by kernel_rfl) (by kernel_rfl) (by kernel_rfl) (fun _ _ _ h => h) (Or.inl ⟨by rfl, ?_⟩) (by assumption) ?_
      rotate_left
      · intro w hSw
        try dsimp only at hSw
        simp only [List.getElem_toArray, List.getElem_cons_succ, List.getElem_cons_zero]
        go_simp
        try with_reducible rfl
      simp only [List.getElem_toArray, List.getElem_cons_succ, List.getElem_cons_zero]
      try simp only [Act.put, List.setIfInBounds_toArray, List.set_cons_zero, List.set_cons_succ]
      refine wpAnyH_take (i := 16) (v := ?_) rfl (by kernel_rfl) (by kernel_rfl) (by kernel_rfl) (fun _ _ _ h => h) (Or.inl ⟨by rfl, ?_⟩) (by assumption) ?_
      rotate_left
      · intro w hSw
        try dsimp only at hSw
        simp only [List.getElem_toArray, List.getElem_cons_succ, List.getElem_cons_zero]
        go_simp
        try with_reducible rfl
      simp only [List.getElem_toArray, List.getElem_cons_succ, List.getElem_cons_zero]
      try simp only [Act.put, List.setIfInBounds_toArray, List.set_cons_zero, List.set_cons_succ]
      refine wpAnyH_take (i := 17) (v := ?_) rfl (by kernel_rfl) (by kernel_rfl) (by kernel_rfl) (fun _ _ _ h => h) (Or.inl ⟨by rfl, ?_⟩) (by assumption) ?_
      rotate_left
      · intro w hSw
        try dsimp only at hSw
        simp only [List.getElem_toArray, List.getElem_cons_succ, List.getElem_cons_zero]
        go_simp
        try with_reducible rfl
      simp only [List.getElem_toArray, List.getElem_cons_succ, List.getElem_cons_zero]
      try simp only [Act.put, List.setIfInBounds_toArray, List.set_cons_zero, List.set_cons_succ]
      refine wpAnyH_take (i := 18) (v := ?_) rfl (by kernel_rfl) (by kernel_rfl) (by kernel_rfl) (fun _ _ _ h => h) (Or.inl ⟨by rfl, ?_⟩) (by assumption) ?_
      rotate_left
      · intro w hSw
        try dsimp only at hSw
        simp only [List.getElem_toArray, List.getElem_cons_succ, List.getElem_cons_zero]
        go_simp
        try with_reducible rfl
      simp only [List.getElem_toArray, List.getElem_cons_succ, List.getElem_cons_zero]
      try simp only [Act.put, List.setIfInBounds_toArray, List.set_cons_zero, List.set_cons_succ]
      refine wpAnyH_take (i := 19) (v := ?_) rfl (by kernel_rfl) (by kernel_rfl) (by kernel_rfl) (fun _ _ _ h => h) (Or.inl ⟨by rfl, ?_⟩) (by assumption) ?_
      rotate_left
      · intro w hSw
        try dsimp only at hSw
        simp only [List.getElem_toArray, List.getElem_cons_succ, List.getElem_cons_zero]
        go_simp
        try with_reducible rfl
      simp only [List.getElem_toArray, List.getElem_cons_succ, List.getElem_cons_zero]
      try simp only [Act.put, List.setIfInBounds_toArray, List.set_cons_zero, List.set_cons_succ]
      refine wpAnyH_take (i := 20) (v := ?_) rfl (by kernel_rfl) (by kernel_rfl) (by kernel_rfl) (fun _ _ _ h => h) (Or.inl ⟨by rfl, ?_⟩) (by assumption) ?_
      rotate_left
      · intro w hSw
        try dsimp only at hSw
        simp only [List.getElem_toArray, List.getElem_cons_succ, List.getElem_cons_zero]
        go_simp
        try with_reducible rfl
      simp only [List.getElem_toArray, List.getElem_cons_succ, List.getElem_cons_zero]
      try simp only [Act.put, List.setIfInBounds_toArray, List.set_cons_zero, List.set_cons_succ]
      refine wpAnyH_take (i := 21) (v := ?_) rfl (by kernel_rfl) (by kernel_rfl) (by kernel_rfl) (fun _ _ _ h => h) (Or.inl ⟨by rfl, ?_⟩) (by assumption) ?_
      rotate_left
      · intro w hSw
        try dsimp only at hSw
        simp only [List.getElem_toArray, List.getElem_cons_succ, List.getElem_cons_zero]
        go_simp
        try with_reducible rfl
      simp only [List.getElem_toArray, List.getElem_cons_succ, List.getElem_cons_zero]
      try simp only [Act.put, List.setIfInBounds_toArray, List.set_cons_zero, List.set_cons_succ]
      refine wpAnyH_take (i := 22) (v := ?_) rfl (by kernel_rfl) (by kernel_rfl) (by kernel_rfl) (fun _ _ _ h => h) (Or.inl ⟨by rfl, ?_⟩) (by assumption) ?_
      rotate_left
      · intro w hSw
        try dsimp only at hSw
        simp only [List.getElem_toArray, List.getElem_cons_succ, List.getElem_cons_zero]
        go_simp
        try with_reducible rfl
      simp only [List.getElem_toArray, List.getElem_cons_succ, List.getElem_cons_zero]
      try simp only [Act.put, List.setIfInBounds_toArray, List.set_cons_zero, List.set_cons_succ]
      refine wpAnyH_take (i := 23) (v := ?_) rfl (by kernel_rfl) (by kernel_rfl) (by kernel_rfl) (fun _ _ _ h => h) (Or.inl ⟨by rfl, ?_⟩) (by assumption) ?_
      rotate_left
      · intro w hSw
        try dsimp only at hSw
        simp only [List.getElem_toArray, List.getElem_cons_succ, List.getElem_cons_zero]
        go_simp
        try with_reducible rfl
      simp only [List.getElem_toArray, List.getElem_cons_succ, List.getElem_cons_zero]
      try simp only [Act.put, List.setIfInBounds_toArray, List.set_cons_zero, List.set_cons_succ]
      refine wpAnyH_ready (rs := [5, 13]) (by kernel_rfl) (by simp) ?_
      refine AllReadyH.cons rfl (fun K hK => ?_) ?_
      · skip
        simp only [List.getElem_toArray, List.getElem_cons_succ, List.getElem_cons_zero]
        go_simp
        refine hK.out _ _ ?_ (fun hHeld => ?_)
        · try dsimp only
          (first
            | exact ⟨Hd.out, H1.out⟩
            | exact ⟨(Hal.out (nq + 1) _).1, (Hal.out (nq + 1) _).2.1⟩
            | exact hS9
            | exact hS10)
        clear hK K
        try simp only [List.getElem_toArray, List.getElem_cons_succ, List.getElem_cons_zero]
        try simp only [Act.put, List.setIfInBounds_toArray, List.set_cons_zero, List.set_cons_succ]
        refine wpAnyH_ready (rs := [13]) (by kernel_rfl) (by simp) ?_
        refine AllReadyH.cons rfl (fun K hK => ?_) ?_
        · skip
          simp only [List.getElem_toArray, List.getElem_cons_succ, List.getElem_cons_zero]
          go_simp
          refine hK.out _ _ ?_ (fun hHeld => ?_)
          · try dsimp only
            (first
              | exact ⟨Hd.out, H1.out⟩
              | exact ⟨(Hal.out (nq + 1) _).1, (Hal.out (nq + 1) _).2.1⟩
              | exact hS9
              | exact hS10)
          clear hK K
          try simp only [List.getElem_toArray, List.getElem_cons_succ, List.getElem_cons_zero]
          try simp only [Act.put, List.setIfInBounds_toArray, List.set_cons_zero, List.set_cons_succ]
          refine wpAnyH_take (i := 24) (v := ?_) rfl (by kernel_rfl) (by kernel_rfl) (by kernel_rfl) (fun _ _ _ h => h) (Or.inl ⟨by rfl, ?_⟩) (by assumption) ?_
          rotate_left
          · intro w hSw
            try dsimp only at hSw
            simp only [List.getElem_toArray, List.getElem_cons_succ, List.getElem_cons_zero]
            go_simp
            try with_reducible rfl
          simp only [List.getElem_toArray, List.getElem_cons_succ, List.getElem_cons_zero]
          try simp only [Act.put, List.setIfInBounds_toArray, List.set_cons_zero, List.set_cons_succ]
          refine wpAnyH_ready (rs := [25]) (by kernel_rfl) (by simp) ?_
          refine AllReadyH.cons rfl (fun K hK => ?_) ?_
          · skip
            (skip; (refine step_app_many (by rfl) (.tmp 62) (.tmp 81) 89 46 (by rfl) Try.underlying89 (.slice none 0 0) 24 info_bytes rfl wr.heap.size (.slice (some ⟨wr.heap.size, 0, none⟩) 0 0) [] (by rfl) (World.ownsRow_made (wr.drewN (nq + 1)) #[] 0 (Nat.le_refl _) (by simp [maxLen]) (by simp)) (some ⟨b, 0, none⟩) m cap0 (vs.take m) (by rfl) Hml.out.symm (Hcells.out (nq + 1) _) Hone.out (by rw [Hml.out]; have := Hm3.out; simp; omega) (by rw [Hml.out]; have := Hm3.out; simp; omega) (by simp [World.drew]) ?_); intro v9 W9 hown9 hg9 _; obtain ⟨A9, c9, rfl, hS9, h09, fz9, hset9, hpost9⟩ := Hpost.out (nq + 1) W9 v9 _ rfl hown9 hg9; have hS10 := And.intro hset9.1 hset9.2.1; have Hset9 := Lib.hid hset9; have Hpost9 := Lib.hid hpost9; clear hown9 hg9 hset9 hpost9)
            refine hK.out _ _ ?_ (fun hHeld => ?_)
            · try dsimp only
              (first
                | exact ⟨Hd.out, H1.out⟩
                | exact ⟨(Hal.out (nq + 1) _).1, (Hal.out (nq + 1) _).2.1⟩
                | exact hS9
                | exact hS10)
            clear hK K
            try simp only [List.getElem_toArray, List.getElem_cons_succ, List.getElem_cons_zero]
            try simp only [Act.put, List.setIfInBounds_toArray, List.set_cons_zero, List.set_cons_succ]
            refine wpAnyH_take (i := 26) (v := ?_) rfl (by kernel_rfl) (by kernel_rfl) (by kernel_rfl) (fun _ _ _ h => h) (Or.inl ⟨by rfl, ?_⟩) (by assumption) ?_
            rotate_left
            · intro w hSw
              try dsimp only at hSw
              simp only [List.getElem_toArray, List.getElem_cons_succ, List.getElem_cons_zero]
              go_simp
              try with_reducible rfl
            simp only [List.getElem_toArray, List.getElem_cons_succ, List.getElem_cons_zero]
            try simp only [Act.put, List.setIfInBounds_toArray, List.set_cons_zero, List.set_cons_succ]
            refine wpAnyH_take (i := 27) (v := ?_) rfl (by kernel_rfl) (by kernel_rfl) (by kernel_rfl) (fun _ _ _ h => h) (Or.inl ⟨by rfl, ?_⟩) (by assumption) ?_
            rotate_left
            · intro w hSw
              try dsimp only at hSw
              simp only [List.getElem_toArray, List.getElem_cons_succ, List.getElem_cons_zero]
              go_simp
              try with_reducible rfl
            simp only [List.getElem_toArray, List.getElem_cons_succ, List.getElem_cons_zero]
            try simp only [Act.put, List.setIfInBounds_toArray, List.set_cons_zero, List.set_cons_succ]
            refine wpAnyH_ready (rs := [28]) (by kernel_rfl) (by simp) ?_
            refine AllReadyH.cons rfl (fun K hK => ?_) ?_
            · skip
              simp only [List.getElem_toArray, List.getElem_cons_succ, List.getElem_cons_zero]
              go_simp
              refine hK.out _ _ ?_ (fun hHeld => ?_)
              · try dsimp only
                (first
                  | exact ⟨Hd.out, H1.out⟩
                  | exact ⟨(Hal.out (nq + 1) _).1, (Hal.out (nq + 1) _).2.1⟩
                  | exact hS9
                  | exact hS10)
              clear hK K
              try simp only [List.getElem_toArray, List.getElem_cons_succ, List.getElem_cons_zero]
              try simp only [Act.put, List.setIfInBounds_toArray, List.set_cons_zero, List.set_cons_succ]
              refine wpAnyH_done (by kernel_rfl) ?_ _
              refine NoPanic.normal ?_
              obtain ⟨W10, hW10⟩ : ∃ W10, W10 = W9.setCell ⟨g, k * 2, none⟩ (.slice A9 m c9) := ⟨_, rfl⟩
              rw [← hW10] at Hset9 Hpost9 ⊢
              obtain ⟨x1, x2, x3, x4⟩ := Hset9.out
              clear hW10 hS9 hS10 h09 fz9 hd1 hcell0 hcell1 hfz0 hfz1 hal0
              go_wp2_with fail
              go_region
              all_goals
                go_wp2_with fail
                go_roundw
                case rel => exact ⟨k + 1, a + 1, by go_num, by go_num, by omega, by omega, Hpost9.out _⟩
                case measure => simp [intOf]; omega
            exact AllReadyH.nil
          exact AllReadyH.nil
        exact AllReadyH.nil
      refine AllReadyH.cons rfl (fun K hK => ?_) ?_
      · skip
        simp only [List.getElem_toArray, List.getElem_cons_succ, List.getElem_cons_zero]
        go_simp
        refine hK.out _ _ ?_ (fun hHeld => ?_)
        · try dsimp only
          (first
            | exact ⟨Hd.out, H1.out⟩
            | exact ⟨(Hal.out (nq + 1) _).1, (Hal.out (nq + 1) _).2.1⟩
            | exact hS9
            | exact hS10)
        clear hK K
        try simp only [List.getElem_toArray, List.getElem_cons_succ, List.getElem_cons_zero]
        try simp only [Act.put, List.setIfInBounds_toArray, List.set_cons_zero, List.set_cons_succ]
        refine wpAnyH_take (i := 24) (v := ?_) rfl (by kernel_rfl) (by kernel_rfl) (by kernel_rfl) (fun _ _ _ h => h) (Or.inl ⟨by rfl, ?_⟩) (by assumption) ?_
        rotate_left
        · intro w hSw
          try dsimp only at hSw
          simp only [List.getElem_toArray, List.getElem_cons_succ, List.getElem_cons_zero]
          go_simp
          try with_reducible rfl
        simp only [List.getElem_toArray, List.getElem_cons_succ, List.getElem_cons_zero]
        try simp only [Act.put, List.setIfInBounds_toArray, List.set_cons_zero, List.set_cons_succ]
        refine wpAnyH_ready (rs := [5]) (by kernel_rfl) (by simp) ?_
        refine AllReadyH.cons rfl (fun K hK => ?_) ?_
        · skip
          simp only [List.getElem_toArray, List.getElem_cons_succ, List.getElem_cons_zero]
          go_simp
          refine hK.out _ _ ?_ (fun hHeld => ?_)
          · try dsimp only
            (first
              | exact ⟨Hd.out, H1.out⟩
              | exact ⟨(Hal.out (nq + 1) _).1, (Hal.out (nq + 1) _).2.1⟩
              | exact hS9
              | exact hS10)
          clear hK K
          try simp only [List.getElem_toArray, List.getElem_cons_succ, List.getElem_cons_zero]
          try simp only [Act.put, List.setIfInBounds_toArray, List.set_cons_zero, List.set_cons_succ]
          refine wpAnyH_ready (rs := [25]) (by kernel_rfl) (by simp) ?_
          refine AllReadyH.cons rfl (fun K hK => ?_) ?_
          · skip
            (skip; (refine step_app_many (by rfl) (.tmp 62) (.tmp 81) 89 46 (by rfl) Try.underlying89 (.slice none 0 0) 24 info_bytes rfl wr.heap.size (.slice (some ⟨wr.heap.size, 0, none⟩) 0 0) [] (by rfl) (World.ownsRow_made (wr.drewN (nq + 1)) #[] 0 (Nat.le_refl _) (by simp [maxLen]) (by simp)) (some ⟨b, 0, none⟩) m cap0 (vs.take m) (by rfl) Hml.out.symm (Hcells.out (nq + 1) _) Hone.out (by rw [Hml.out]; have := Hm3.out; simp; omega) (by rw [Hml.out]; have := Hm3.out; simp; omega) (by simp [World.drew]) ?_); intro v9 W9 hown9 hg9 _; obtain ⟨A9, c9, rfl, hS9, h09, fz9, hset9, hpost9⟩ := Hpost.out (nq + 1) W9 v9 _ rfl hown9 hg9; have hS10 := And.intro hset9.1 hset9.2.1; have Hset9 := Lib.hid hset9; have Hpost9 := Lib.hid hpost9; clear hown9 hg9 hset9 hpost9)
            refine hK.out _ _ ?_ (fun hHeld => ?_)
            · try dsimp only
              (first
                | exact ⟨Hd.out, H1.out⟩
                | exact ⟨(Hal.out (nq + 1) _).1, (Hal.out (nq + 1) _).2.1⟩
                | exact hS9
                | exact hS10)
            clear hK K
            try simp only [List.getElem_toArray, List.getElem_cons_succ, List.getElem_cons_zero]
            try simp only [Act.put, List.setIfInBounds_toArray, List.set_cons_zero, List.set_cons_succ]
            refine wpAnyH_take (i := 26) (v := ?_) rfl (by kernel_rfl) (by kernel_rfl) (by kernel_rfl) (fun _ _ _ h => h) (Or.inl ⟨by rfl, ?_⟩) (by assumption) ?_
            rotate_left
            · intro w hSw
              try dsimp only at hSw
              simp only [List.getElem_toArray, List.getElem_cons_succ, List.getElem_cons_zero]
              go_simp
              try with_reducible rfl
            simp only [List.getElem_toArray, List.getElem_cons_succ, List.getElem_cons_zero]
            try simp only [Act.put, List.setIfInBounds_toArray, List.set_cons_zero, List.set_cons_succ]
            refine wpAnyH_take (i := 27) (v := ?_) rfl (by kernel_rfl) (by kernel_rfl) (by kernel_rfl) (fun _ _ _ h => h) (Or.inl ⟨by rfl, ?_⟩) (by assumption) ?_
            rotate_left
            · intro w hSw
              try dsimp only at hSw
              simp only [List.getElem_toArray, List.getElem_cons_succ, List.getElem_cons_zero]
              go_simp
              try with_reducible rfl
            simp only [List.getElem_toArray, List.getElem_cons_succ, List.getElem_cons_zero]
            try simp only [Act.put, List.setIfInBounds_toArray, List.set_cons_zero, List.set_cons_succ]
            refine wpAnyH_ready (rs := [28]) (by kernel_rfl) (by simp) ?_
            refine AllReadyH.cons rfl (fun K hK => ?_) ?_
            · skip
              simp only [List.getElem_toArray, List.getElem_cons_succ, List.getElem_cons_zero]
              go_simp
              refine hK.out _ _ ?_ (fun hHeld => ?_)
              · try dsimp only
                (first
                  | exact ⟨Hd.out, H1.out⟩
                  | exact ⟨(Hal.out (nq + 1) _).1, (Hal.out (nq + 1) _).2.1⟩
                  | exact hS9
                  | exact hS10)
              clear hK K
              try simp only [List.getElem_toArray, List.getElem_cons_succ, List.getElem_cons_zero]
              try simp only [Act.put, List.setIfInBounds_toArray, List.set_cons_zero, List.set_cons_succ]
              refine wpAnyH_done (by kernel_rfl) ?_ _
              refine NoPanic.normal ?_
              obtain ⟨W10, hW10⟩ : ∃ W10, W10 = W9.setCell ⟨g, k * 2, none⟩ (.slice A9 m c9) := ⟨_, rfl⟩
              rw [← hW10] at Hset9 Hpost9 ⊢
              obtain ⟨x1, x2, x3, x4⟩ := Hset9.out
              clear hW10 hS9 hS10 h09 fz9 hd1 hcell0 hcell1 hfz0 hfz1 hal0
              go_wp2_with fail
              go_region
              all_goals
                go_wp2_with fail
                go_roundw
                case rel => exact ⟨k + 1, a + 1, by go_num, by go_num, by omega, by omega, Hpost9.out _⟩
                case measure => simp [intOf]; omega
            exact AllReadyH.nil
          exact AllReadyH.nil
        exact AllReadyH.nil
      exact AllReadyH.nil
    · have hpa' : (a : Int) < (picks.length : Int) := by omega
      by_cases hx0 : 0 ≤ x
      · have hm0 := Int.emod_nonneg x hnz
        have htm : x.tmod ((n : Int) - (f : Int) + 1) = (r : Int) := by rw [Int.tmod_eq_emod_of_nonneg hx0, hr2, if_pos hx0]; omega
        clear hr2 hx hr hm0
        generalize picks.length = pn at *
        go_wp2_with fail
        go_quiet (fail)
        go_wp2_with fail
        have hal0 := (Hal.out (nq + 1) (.cells #[] 46)).2.2
        refine wp_region_noPanic ?_
        refine wp_region_held_drew (S := (fun W => W.cell? ⟨d, 3, none⟩ = some (.slice (some ⟨g, 0, none⟩) N N) ∧ W.cell? ⟨g, k * 2 + 1, none⟩ = some (.int .i64 (f : Int)))) (by kernel_rfl) ?_ (fun hHeld => ?_)
        · try dsimp only
          (first
            | exact ⟨Hd.out, H1.out⟩
            | exact ⟨(Hal.out (nq + 1) _).1, (Hal.out (nq + 1) _).2.1⟩
            | exact hS9
            | exact hS10)
        refine wpAnyH_take (i := 0) (v := ?_) rfl (by kernel_rfl) (by kernel_rfl) (by kernel_rfl) (fun _ _ _ h => h) (Or.inl ⟨by rfl, ?_⟩) (by assumption) ?_
        rotate_left
        · intro w hSw
          try dsimp only at hSw
          simp only [List.getElem_toArray, List.getElem_cons_succ, List.getElem_cons_zero]
          go_simp
          try with_reducible rfl
        simp only [List.getElem_toArray, List.getElem_cons_succ, List.getElem_cons_zero]
        try simp only [Act.put, List.setIfInBounds_toArray, List.set_cons_zero, List.set_cons_succ]
        refine wpAnyH_take (i := 1) (v := ?_) rfl (by kernel_rfl) (by kernel_rfl) (by kernel_rfl) (fun _ _ _ h => h) (Or.inl ⟨by rfl, ?_⟩) (by assumption) ?_
        rotate_left
        · intro w hSw
          try dsimp only at hSw
          simp only [List.getElem_toArray, List.getElem_cons_succ, List.getElem_cons_zero]
          go_simp
          try with_reducible rfl
        simp only [List.getElem_toArray, List.getElem_cons_succ, List.getElem_cons_zero]
        try simp only [Act.put, List.setIfInBounds_toArray, List.set_cons_zero, List.set_cons_succ]
        refine wpAnyH_take (i := 2) (v := ?_) rfl (by kernel_rfl) (by kernel_rfl) (by kernel_rfl) (fun _ _ _ h => h) (Or.inl ⟨by rfl, ?_⟩) (by assumption) ?_
        rotate_left
        · intro w hSw
          try dsimp only at hSw
          simp only [List.getElem_toArray, List.getElem_cons_succ, List.getElem_cons_zero]
          go_simp
          try with_reducible rfl
        simp only [List.getElem_toArray, List.getElem_cons_succ, List.getElem_cons_zero]
        try simp only [Act.put, List.setIfInBounds_toArray, List.set_cons_zero, List.set_cons_succ]
        refine wpAnyH_take (i := 3) (v := ?_) rfl (by kernel_rfl) (by kernel_rfl) (by kernel_rfl) (fun _ _ _ h => h) (Or.inl ⟨by rfl, ?_⟩) (by assumption) ?_
        rotate_left
        · intro w hSw
          try dsimp only at hSw
          simp only [List.getElem_toArray, List.getElem_cons_succ, List.getElem_cons_zero]
          go_simp
          try with_reducible rfl
        simp only [List.getElem_toArray, List.getElem_cons_succ, List.getElem_cons_zero]
        try simp only [Act.put, List.setIfInBounds_toArray, List.set_cons_zero, List.set_cons_succ]
        refine wpAnyH_take (i := 4) (v := ?_) rfl (by kernel_rfl) (by kernel_rfl) (by kernel_rfl) (fun _ _ _ h => h) (Or.inl ⟨by rfl, ?_⟩) (by assumption) ?_
        rotate_left
        · intro w hSw
          try dsimp only at hSw
          simp only [List.getElem_toArray, List.getElem_cons_succ, List.getElem_cons_zero]
          go_simp
          try with_reducible rfl
        simp only [List.getElem_toArray, List.getElem_cons_succ, List.getElem_cons_zero]
        try simp only [Act.put, List.setIfInBounds_toArray, List.set_cons_zero, List.set_cons_succ]
        refine wpAnyH_take (i := 6) (v := ?_) rfl (by kernel_rfl) (by kernel_rfl) (by kernel_rfl) (fun _ _ _ h => h) (Or.inl ⟨by rfl, ?_⟩) (by assumption) ?_
        rotate_left
        · intro w hSw
          try dsimp only at hSw
          simp only [List.getElem_toArray, List.getElem_cons_succ, List.getElem_cons_zero]
          go_simp
          try with_reducible rfl
        simp only [List.getElem_toArray, List.getElem_cons_succ, List.getElem_cons_zero]
        try simp only [Act.put, List.setIfInBounds_toArray, List.set_cons_zero, List.set_cons_succ]
        refine wpAnyH_take (i := 7) (v := ?_) rfl (by kernel_rfl) (by kernel_rfl) (by kernel_rfl) (fun _ _ _ h => h) (Or.inl ⟨by rfl, ?_⟩) (by assumption) ?_
        rotate_left
        · intro w hSw
          try dsimp only at hSw
          simp only [List.getElem_toArray, List.getElem_cons_succ, List.getElem_cons_zero]
          go_simp
          try with_reducible rfl
        simp only [List.getElem_toArray, List.getElem_cons_succ, List.getElem_cons_zero]
        try simp only [Act.put, List.setIfInBounds_toArray, List.set_cons_zero, List.set_cons_succ]
        refine wpAnyH_take (i := 8) (v := ?_) rfl (by kernel_rfl) (by kernel_rfl) (by kernel_rfl) (fun _ _ _ h => h) (Or.inl ⟨by rfl, ?_⟩) (by assumption) ?_
        rotate_left
        · intro w hSw
          try dsimp only at hSw
          simp only [List.getElem_toArray, List.getElem_cons_succ, List.getElem_cons_zero]
          go_simp
          try with_reducible rfl
        simp only [List.getElem_toArray, List.getElem_cons_succ, List.getElem_cons_zero]
        try simp only [Act.put, List.setIfInBounds_toArray, List.set_cons_zero, List.set_cons_succ]
        refine wpAnyH_take (i := 9) (v := ?_) rfl (by kernel_rfl) (by kernel_rfl) (by kernel_rfl) (fun _ _ _ h => h) (Or.inl ⟨by rfl, ?_⟩) (by assumption) ?_
        rotate_left
        · intro w hSw
          try dsimp only at hSw
          simp only [List.getElem_toArray, List.getElem_cons_succ, List.getElem_cons_zero]
          go_simp
          try with_reducible rfl
        simp only [List.getElem_toArray, List.getElem_cons_succ, List.getElem_cons_zero]
        try simp only [Act.put, List.setIfInBounds_toArray, List.set_cons_zero, List.set_cons_succ]
        refine wpAnyH_take (i := 10) (v := ?_) rfl (by kernel_rfl) (by kernel_rfl) (by kernel_rfl) (fun _ _ _ h => h) (Or.inl ⟨by rfl, ?_⟩) (by assumption) ?_
        rotate_left
        · intro w hSw
          try dsimp only at hSw
          simp only [List.getElem_toArray, List.getElem_cons_succ, List.getElem_cons_zero]
          go_simp
          try with_reducible rfl
        simp only [List.getElem_toArray, List.getElem_cons_succ, List.getElem_cons_zero]
        try simp only [Act.put, List.setIfInBounds_toArray, List.set_cons_zero, List.set_cons_succ]
        refine wpAnyH_take (i := 11) (v := ?_) rfl (by kernel_rfl) (by kernel_rfl) (by kernel_rfl) (fun _ _ _ h => h) (Or.inl ⟨by rfl, ?_⟩) (by assumption) ?_
        rotate_left
        · intro w hSw
          try dsimp only at hSw
          simp only [List.getElem_toArray, List.getElem_cons_succ, List.getElem_cons_zero]
          go_simp
          try with_reducible rfl
        simp only [List.getElem_toArray, List.getElem_cons_succ, List.getElem_cons_zero]
        try simp only [Act.put, List.setIfInBounds_toArray, List.set_cons_zero, List.set_cons_succ]
        refine wpAnyH_take (i := 12) (v := ?_) rfl (by kernel_rfl) (by kernel_rfl) (by kernel_rfl) (fun _ _ _ h => h) (Or.inl ⟨by rfl, ?_⟩) (by assumption) ?_
        rotate_left
        · intro w hSw
          try dsimp only at hSw
          simp only [List.getElem_toArray, List.getElem_cons_succ, List.getElem_cons_zero]
          go_simp
          try with_reducible rfl
        simp only [List.getElem_toArray, List.getElem_cons_succ, List.getElem_cons_zero]
        try simp only [Act.put, List.setIfInBounds_toArray, List.set_cons_zero, List.set_cons_succ]
        refine wpAnyH_take (i := 14) (v := ?_) rfl (by kernel_rfl) (by kernel_rfl) (by kernel_rfl) (fun _ _ _ h => h) (Or.inl ⟨by rfl, ?_⟩) (by assumption) ?_
        rotate_left
        · intro w hSw
          try dsimp only at hSw
          simp only [List.getElem_toArray, List.getElem_cons_succ, List.getElem_cons_zero]
          go_simp
          try with_reducible rfl
        simp only [List.getElem_toArray, List.getElem_cons_succ, List.getElem_cons_zero]
        try simp only [Act.put, List.setIfInBounds_toArray, List.set_cons_zero, List.set_cons_succ]
        refine wpAnyH_take (i := 15) (v := ?_) rfl (by kernel_rfl) (by kernel_rfl) (by kernel_rfl) (fun _ _ _ h => h) (Or.inl ⟨by rfl, ?_⟩) (by assumption) ?_
        rotate_left
        · intro w hSw
          try dsimp only at hSw
          simp only [List.getElem_toArray, List.getElem_cons_succ, List.getElem_cons_zero]
          go_simp
          try with_reducible rfl
        simp only [List.getElem_toArray, List.getElem_cons_succ, List.getElem_cons_zero]
        try simp only [Act.put, List.setIfInBounds_toArray, List.set_cons_zero, List.set_cons_succ]
        refine wpAnyH_take (i := 16) (v := ?_) rfl (by kernel_rfl) (by kernel_rfl) (by kernel_rfl) (fun _ _ _ h => h) (Or.inl ⟨by rfl, ?_⟩) (by assumption) ?_
        rotate_left
        · intro w hSw
          try dsimp only at hSw
          simp only [List.getElem_toArray, List.getElem_cons_succ, List.getElem_cons_zero]
          go_simp
          try with_reducible rfl
        simp only [List.getElem_toArray, List.getElem_cons_succ, List.getElem_cons_zero]
        try simp only [Act.put, List.setIfInBounds_toArray, List.set_cons_zero, List.set_cons_succ]
        refine wpAnyH_take (i := 17) (v := ?_) rfl (by kernel_rfl) (by kernel_rfl) (by kernel_rfl) (fun _ _ _ h => h) (Or.inl ⟨by rfl, ?_⟩) (by assumption) ?_
        rotate_left
        · intro w hSw
          try dsimp only at hSw
          simp only [List.getElem_toArray, List.getElem_cons_succ, List.getElem_cons_zero]
          go_simp
          try with_reducible rfl
        simp only [List.getElem_toArray, List.getElem_cons_succ, List.getElem_cons_zero]
        try simp only [Act.put, List.setIfInBounds_toArray, List.set_cons_zero, List.set_cons_succ]
        refine wpAnyH_take (i := 18) (v := ?_) rfl (by kernel_rfl) (by kernel_rfl) (by kernel_rfl) (fun _ _ _ h => h) (Or.inl ⟨by rfl, ?_⟩) (by assumption) ?_
        rotate_left
        · intro w hSw
          try dsimp only at hSw
          simp only [List.getElem_toArray, List.getElem_cons_succ, List.getElem_cons_zero]
          go_simp
          try with_reducible rfl
        simp only [List.getElem_toArray, List.getElem_cons_succ, List.getElem_cons_zero]
        try simp only [Act.put, List.setIfInBounds_toArray, List.set_cons_zero, List.set_cons_succ]
        refine wpAnyH_take (i := 19) (v := ?_) rfl (by kernel_rfl) (by kernel_rfl) (by kernel_rfl) (fun _ _ _ h => h) (Or.inl ⟨by rfl, ?_⟩) (by assumption) ?_
        rotate_left
        · intro w hSw
          try dsimp only at hSw
          simp only [List.getElem_toArray, List.getElem_cons_succ, List.getElem_cons_zero]
          go_simp
          try with_reducible rfl
        simp only [List.getElem_toArray, List.getElem_cons_succ, List.getElem_cons_zero]
        try simp only [Act.put, List.setIfInBounds_toArray, List.set_cons_zero, List.set_cons_succ]
        refine wpAnyH_take (i := 20) (v := ?_) rfl (by kernel_rfl) (by kernel_rfl) (by kernel_rfl) (fun _ _ _ h => h) (Or.inl ⟨by rfl, ?_⟩) (by assumption) ?_
        rotate_left
        · intro w hSw
          try dsimp only at hSw
          simp only [List.getElem_toArray, List.getElem_cons_succ, List.getElem_cons_zero]
          go_simp
          try with_reducible rfl
        simp only [List.getElem_toArray, List.getElem_cons_succ, List.getElem_cons_zero]
        try simp only [Act.put, List.setIfInBounds_toArray, List.set_cons_zero, List.set_cons_succ]
        refine wpAnyH_take (i := 21) (v := ?_) rfl (by kernel_rfl) (by kernel_rfl) (by kernel_rfl) (fun _ _ _ h => h) (Or.inl ⟨by rfl, ?_⟩) (by assumption) ?_
        rotate_left
        · intro w hSw
          try dsimp only at hSw
          simp only [List.getElem_toArray, List.getElem_cons_succ, List.getElem_cons_zero]
          go_simp
          try with_reducible rfl
        simp only [List.getElem_toArray, List.getElem_cons_succ, List.getElem_cons_zero]
        try simp only [Act.put, List.setIfInBounds_toArray, List.set_cons_zero, List.set_cons_succ]
        refine wpAnyH_take (i := 22) (v := ?_) rfl (by kernel_rfl) (by kernel_rfl) (by kernel_rfl) (fun _ _ _ h => h) (Or.inl ⟨by rfl, ?_⟩) (by assumption) ?_
        rotate_left
        · intro w hSw
          try dsimp only at hSw
          simp only [List.getElem_toArray, List.getElem_cons_succ, List.getElem_cons_zero]
          go_simp
          try with_reducible rfl
        simp only [List.getElem_toArray, List.getElem_cons_succ, List.getElem_cons_zero]
        try simp only [Act.put, List.setIfInBounds_toArray, List.set_cons_zero, List.set_cons_succ]
        refine wpAnyH_take (i := 23) (v := ?_) rfl (by kernel_rfl) (by kernel_rfl) (by kernel_rfl) (fun _ _ _ h => h) (Or.inl ⟨by rfl, ?_⟩) (by assumption) ?_
        rotate_left
        · intro w hSw
          try dsimp only at hSw
          simp only [List.getElem_toArray, List.getElem_cons_succ, List.getElem_cons_zero]
          go_simp
          try with_reducible rfl
        simp only [List.getElem_toArray, List.getElem_cons_succ, List.getElem_cons_zero]
        try simp only [Act.put, List.setIfInBounds_toArray, List.set_cons_zero, List.set_cons_succ]
        refine wpAnyH_ready (rs := [5, 13]) (by kernel_rfl) (by simp) ?_
        refine AllReadyH.cons rfl (fun K hK => ?_) ?_
        · skip
          simp only [List.getElem_toArray, List.getElem_cons_succ, List.getElem_cons_zero]
          go_simp
          refine hK.out _ _ ?_ (fun hHeld => ?_)
          · try dsimp only
            (first
              | exact ⟨Hd.out, H1.out⟩
              | exact ⟨(Hal.out (nq + 1) _).1, (Hal.out (nq + 1) _).2.1⟩
              | exact hS9
              | exact hS10)
          clear hK K
          try simp only [List.getElem_toArray, List.getElem_cons_succ, List.getElem_cons_zero]
          try simp only [Act.put, List.setIfInBounds_toArray, List.set_cons_zero, List.set_cons_succ]
          refine wpAnyH_ready (rs := [13]) (by kernel_rfl) (by simp) ?_
          refine AllReadyH.cons rfl (fun K hK => ?_) ?_
          · skip
            simp only [List.getElem_toArray, List.getElem_cons_succ, List.getElem_cons_zero]
            go_simp
            refine hK.out _ _ ?_ (fun hHeld => ?_)
            · try dsimp only
              (first
                | exact ⟨Hd.out, H1.out⟩
                | exact ⟨(Hal.out (nq + 1) _).1, (Hal.out (nq + 1) _).2.1⟩
                | exact hS9
                | exact hS10)
            clear hK K
            try simp only [List.getElem_toArray, List.getElem_cons_succ, List.getElem_cons_zero]
            try simp only [Act.put, List.setIfInBounds_toArray, List.set_cons_zero, List.set_cons_succ]
            refine wpAnyH_take (i := 24) (v := ?_) rfl (by kernel_rfl) (by kernel_rfl) (by kernel_rfl) (fun _ _ _ h => h) (Or.inl ⟨by rfl, ?_⟩) (by assumption) ?_
            rotate_left
            · intro w hSw
              try dsimp only at hSw
              simp only [List.getElem_toArray, List.getElem_cons_succ, List.getElem_cons_zero]
              go_simp
              try with_reducible rfl
            simp only [List.getElem_toArray, List.getElem_cons_succ, List.getElem_cons_zero]
            try simp only [Act.put, List.setIfInBounds_toArray, List.set_cons_zero, List.set_cons_succ]
            refine wpAnyH_ready (rs := [25]) (by kernel_rfl) (by simp) ?_
            refine AllReadyH.cons rfl (fun K hK => ?_) ?_
            · skip
              (skip; (refine step_app_many (by rfl) (.tmp 62) (.tmp 81) 89 46 (by rfl) Try.underlying89 (.slice none 0 0) 24 info_bytes rfl wr.heap.size (.slice (some ⟨wr.heap.size, 0, none⟩) 0 0) [] (by rfl) (World.ownsRow_made (wr.drewN (nq + 1)) #[] 0 (Nat.le_refl _) (by simp [maxLen]) (by simp)) (some ⟨b, 0, none⟩) m cap0 (vs.take m) (by rfl) Hml.out.symm (Hcells.out (nq + 1) _) Hone.out (by rw [Hml.out]; have := Hm3.out; simp; omega) (by rw [Hml.out]; have := Hm3.out; simp; omega) (by simp [World.drew]) ?_); intro v9 W9 hown9 hg9 _; obtain ⟨A9, c9, rfl, hS9, h09, fz9, hset9, hpost9⟩ := Hpost.out (nq + 1) W9 v9 _ rfl hown9 hg9; have hS10 := And.intro hset9.1 hset9.2.1; have Hset9 := Lib.hid hset9; have Hpost9 := Lib.hid hpost9; clear hown9 hg9 hset9 hpost9)
              refine hK.out _ _ ?_ (fun hHeld => ?_)
              · try dsimp only
                (first
                  | exact ⟨Hd.out, H1.out⟩
                  | exact ⟨(Hal.out (nq + 1) _).1, (Hal.out (nq + 1) _).2.1⟩
                  | exact hS9
                  | exact hS10)
              clear hK K
              try simp only [List.getElem_toArray, List.getElem_cons_succ, List.getElem_cons_zero]
              try simp only [Act.put, List.setIfInBounds_toArray, List.set_cons_zero, List.set_cons_succ]
              refine wpAnyH_take (i := 26) (v := ?_) rfl (by kernel_rfl) (by kernel_rfl) (by kernel_rfl) (fun _ _ _ h => h) (Or.inl ⟨by rfl, ?_⟩) (by assumption) ?_
              rotate_left
              · intro w hSw
                try dsimp only at hSw
                simp only [List.getElem_toArray, List.getElem_cons_succ, List.getElem_cons_zero]
                go_simp
                try with_reducible rfl
              simp only [List.getElem_toArray, List.getElem_cons_succ, List.getElem_cons_zero]
              try simp only [Act.put, List.setIfInBounds_toArray, List.set_cons_zero, List.set_cons_succ]
              refine wpAnyH_take (i := 27) (v := ?_) rfl (by kernel_rfl) (by kernel_rfl) (by kernel_rfl) (fun _ _ _ h => h) (Or.inl ⟨by rfl, ?_⟩) (by assumption) ?_
              rotate_left
              · intro w hSw
                try dsimp only at hSw
                simp only [List.getElem_toArray, List.getElem_cons_succ, List.getElem_cons_zero]
                go_simp
                try with_reducible rfl
              simp only [List.getElem_toArray, List.getElem_cons_succ, List.getElem_cons_zero]
              try simp only [Act.put, List.setIfInBounds_toArray, List.set_cons_zero, List.set_cons_succ]
              refine wpAnyH_ready (rs := [28]) (by kernel_rfl) (by simp) ?_
              refine AllReadyH.cons rfl (fun K hK => ?_) ?_
              · skip
                simp only [List.getElem_toArray, List.getElem_cons_succ, List.getElem_cons_zero]
                go_simp
                refine hK.out _ _ ?_ (fun hHeld => ?_)
                · try dsimp only
                  (first
                    | exact ⟨Hd.out, H1.out⟩
                    | exact ⟨(Hal.out (nq + 1) _).1, (Hal.out (nq + 1) _).2.1⟩
                    | exact hS9
                    | exact hS10)
                clear hK K
                try simp only [List.getElem_toArray, List.getElem_cons_succ, List.getElem_cons_zero]
                try simp only [Act.put, List.setIfInBounds_toArray, List.set_cons_zero, List.set_cons_succ]
                refine wpAnyH_done (by kernel_rfl) ?_ _
                refine NoPanic.normal ?_
                obtain ⟨W10, hW10⟩ : ∃ W10, W10 = W9.setCell ⟨g, k * 2, none⟩ (.slice A9 m c9) := ⟨_, rfl⟩
                rw [← hW10] at Hset9 Hpost9 ⊢
                obtain ⟨x1, x2, x3, x4⟩ := Hset9.out
                clear hW10 hS9 hS10 h09 fz9 hd1 hcell0 hcell1 hfz0 hfz1 hal0
                go_wp2_with fail
                go_region
                all_goals
                  go_wp2_with fail
                  go_roundw
                  case rel => exact ⟨k + 1, a + 1, by go_num, by go_num, by omega, by omega, Hpost9.out _⟩
                  case measure => simp [intOf]; omega
              exact AllReadyH.nil
            exact AllReadyH.nil
          exact AllReadyH.nil
        refine AllReadyH.cons rfl (fun K hK => ?_) ?_
        · skip
          simp only [List.getElem_toArray, List.getElem_cons_succ, List.getElem_cons_zero]
          go_simp
          refine hK.out _ _ ?_ (fun hHeld => ?_)
          · try dsimp only
            (first
              | exact ⟨Hd.out, H1.out⟩
              | exact ⟨(Hal.out (nq + 1) _).1, (Hal.out (nq + 1) _).2.1⟩
              | exact hS9
              | exact hS10)
          clear hK K
          try simp only [List.getElem_toArray, List.getElem_cons_succ, List.getElem_cons_zero]
          try simp only [Act.put, List.setIfInBounds_toArray, List.set_cons_zero, List.set_cons_succ]
          refine wpAnyH_take (i := 24) (v := ?_) rfl (by kernel_rfl) (by kernel_rfl) (by kernel_rfl) (fun _ _ _ h => h) (Or.inl ⟨by rfl, ?_⟩) (by assumption) ?_
          rotate_left
          · intro w hSw
            try dsimp only at hSw
            simp only [List.getElem_toArray, List.getElem_cons_succ, List.getElem_cons_zero]
            go_simp
            try with_reducible rfl
          simp only [List.getElem_toArray, List.getElem_cons_succ, List.getElem_cons_zero]
          try simp only [Act.put, List.setIfInBounds_toArray, List.set_cons_zero, List.set_cons_succ]
          refine wpAnyH_ready (rs := [5]) (by kernel_rfl) (by simp) ?_
          refine AllReadyH.cons rfl (fun K hK => ?_) ?_
          · skip
            simp only [List.getElem_toArray, List.getElem_cons_succ, List.getElem_cons_zero]
            go_simp
            refine hK.out _ _ ?_ (fun hHeld => ?_)
            · try dsimp only
              (first
                | exact ⟨Hd.out, H1.out⟩
                | exact ⟨(Hal.out (nq + 1) _).1, (Hal.out (nq + 1) _).2.1⟩
                | exact hS9
                | exact hS10)
            clear hK K
            try simp only [List.getElem_toArray, List.getElem_cons_succ, List.getElem_cons_zero]
            try simp only [Act.put, List.setIfInBounds_toArray, List.set_cons_zero, List.set_cons_succ]
            refine wpAnyH_ready (rs := [25]) (by kernel_rfl) (by simp) ?_
            refine AllReadyH.cons rfl (fun K hK => ?_) ?_
            · skip
              (skip; (refine step_app_many (by rfl) (.tmp 62) (.tmp 81) 89 46 (by rfl) Try.underlying89 (.slice none 0 0) 24 info_bytes rfl wr.heap.size (.slice (some ⟨wr.heap.size, 0, none⟩) 0 0) [] (by rfl) (World.ownsRow_made (wr.drewN (nq + 1)) #[] 0 (Nat.le_refl _) (by simp [maxLen]) (by simp)) (some ⟨b, 0, none⟩) m cap0 (vs.take m) (by rfl) Hml.out.symm (Hcells.out (nq + 1) _) Hone.out (by rw [Hml.out]; have := Hm3.out; simp; omega) (by rw [Hml.out]; have := Hm3.out; simp; omega) (by simp [World.drew]) ?_); intro v9 W9 hown9 hg9 _; obtain ⟨A9, c9, rfl, hS9, h09, fz9, hset9, hpost9⟩ := Hpost.out (nq + 1) W9 v9 _ rfl hown9 hg9; have hS10 := And.intro hset9.1 hset9.2.1; have Hset9 := Lib.hid hset9; have Hpost9 := Lib.hid hpost9; clear hown9 hg9 hset9 hpost9)
              refine hK.out _ _ ?_ (fun hHeld => ?_)
              · try dsimp only
                (first
                  | exact ⟨Hd.out, H1.out⟩
                  | exact ⟨(Hal.out (nq + 1) _).1, (Hal.out (nq + 1) _).2.1⟩
                  | exact hS9
                  | exact hS10)
              clear hK K
              try simp only [List.getElem_toArray, List.getElem_cons_succ, List.getElem_cons_zero]
              try simp only [Act.put, List.setIfInBounds_toArray, List.set_cons_zero, List.set_cons_succ]
              refine wpAnyH_take (i := 26) (v := ?_) rfl (by kernel_rfl) (by kernel_rfl) (by kernel_rfl) (fun _ _ _ h => h) (Or.inl ⟨by rfl, ?_⟩) (by assumption) ?_
              rotate_left
              · intro w hSw
                try dsimp only at hSw
                simp only [List.getElem_toArray, List.getElem_cons_succ, List.getElem_cons_zero]
                go_simp
                try with_reducible rfl
              simp only [List.getElem_toArray, List.getElem_cons_succ, List.getElem_cons_zero]
              try simp only [Act.put, List.setIfInBounds_toArray, List.set_cons_zero, List.set_cons_succ]
              refine wpAnyH_take (i := 27) (v := ?_) rfl (by kernel_rfl) (by kernel_rfl) (by kernel_rfl) (fun _ _ _ h => h) (Or.inl ⟨by rfl, ?_⟩) (by assumption) ?_
              rotate_left
              · intro w hSw
                try dsimp only at hSw
                simp only [List.getElem_toArray, List.getElem_cons_succ, List.getElem_cons_zero]
                go_simp
                try with_reducible rfl
              simp only [List.getElem_toArray, List.getElem_cons_succ, List.getElem_cons_zero]
              try simp only [Act.put, List.setIfInBounds_toArray, List.set_cons_zero, List.set_cons_succ]
              refine wpAnyH_ready (rs := [28]) (by kernel_rfl) (by simp) ?_
              refine AllReadyH.cons rfl (fun K hK => ?_) ?_
              · skip
                simp only [List.getElem_toArray, List.getElem_cons_succ, List.getElem_cons_zero]
                go_simp
                refine hK.out _ _ ?_ (fun hHeld => ?_)
                · try dsimp only
                  (first
                    | exact ⟨Hd.out, H1.out⟩
                    | exact ⟨(Hal.out (nq + 1) _).1, (Hal.out (nq + 1) _).2.1⟩
                    | exact hS9
                    | exact hS10)
                clear hK K
                try simp only [List.getElem_toArray, List.getElem_cons_succ, List.getElem_cons_zero]
                try simp only [Act.put, List.setIfInBounds_toArray, List.set_cons_zero, List.set_cons_succ]
                refine wpAnyH_done (by kernel_rfl) ?_ _
                refine NoPanic.normal ?_
                obtain ⟨W10, hW10⟩ : ∃ W10, W10 = W9.setCell ⟨g, k * 2, none⟩ (.slice A9 m c9) := ⟨_, rfl⟩
                rw [← hW10] at Hset9 Hpost9 ⊢
                obtain ⟨x1, x2, x3, x4⟩ := Hset9.out
                clear hW10 hS9 hS10 h09 fz9 hd1 hcell0 hcell1 hfz0 hfz1 hal0
                go_wp2_with fail
                go_region
                all_goals
                  go_wp2_with fail
                  go_roundw
                  case rel => exact ⟨k + 1, a + 1, by go_num, by go_num, by omega, by omega, Hpost9.out _⟩
                  case measure => simp [intOf]; omega
              exact AllReadyH.nil
            exact AllReadyH.nil
          exact AllReadyH.nil
        exact AllReadyH.nil
      · obtain rfl : r = 0 := by rw [hr2, if_neg hx0]
        have hs0 : IntKind.i64.wrap ((f : Int) + 0) = (m : Int) := by rw [hr]; exact IntWalk.i64_in _ (by omega)
        have hs1 : IntKind.i64.wrap (f : Int) = (m : Int) := by rw [hr]; exact IntWalk.i64_in _ (by omega)
        have hx1 : x < 0 := by omega
        clear hr2 hx hs hr hx0
        generalize picks.length = pn at *
        go_wp2_with fail
        go_quiet (fail)
        go_wp2_with fail
        have hal0 := (Hal.out (nq + 1) (.cells #[] 46)).2.2
        refine wp_region_noPanic ?_
        refine wp_region_held_drew (S := (fun W => W.cell? ⟨d, 3, none⟩ = some (.slice (some ⟨g, 0, none⟩) N N) ∧ W.cell? ⟨g, k * 2 + 1, none⟩ = some (.int .i64 (f : Int)))) (by kernel_rfl) ?_ (fun hHeld => ?_)
        · try dsimp only
          (first
            | exact ⟨Hd.out, H1.out⟩
            | exact ⟨(Hal.out (nq + 1) _).1, (Hal.out (nq + 1) _).2.1⟩
            | exact hS9
            | exact hS10)
        refine wpAnyH_take (i := 0) (v := ?_) rfl (by kernel_rfl) (by kernel_rfl) (by kernel_rfl) (fun _ _ _ h => h) (Or.inl ⟨by rfl, ?_⟩) (by assumption) ?_
        rotate_left
        · intro w hSw
          try dsimp only at hSw
          simp only [List.getElem_toArray, List.getElem_cons_succ, List.getElem_cons_zero]
          go_simp
          try with_reducible rfl
        simp only [List.getElem_toArray, List.getElem_cons_succ, List.getElem_cons_zero]
        try simp only [Act.put, List.setIfInBounds_toArray, List.set_cons_zero, List.set_cons_succ]
        refine wpAnyH_take (i := 1) (v := ?_) rfl (by kernel_rfl) (by kernel_rfl) (by kernel_rfl) (fun _ _ _ h => h) (Or.inl ⟨by rfl, ?_⟩) (by assumption) ?_
        rotate_left
        · intro w hSw
          try dsimp only at hSw
          simp only [List.getElem_toArray, List.getElem_cons_succ, List.getElem_cons_zero]
          go_simp
          try with_reducible rfl
        simp only [List.getElem_toArray, List.getElem_cons_succ, List.getElem_cons_zero]
        try simp only [Act.put, List.setIfInBounds_toArray, List.set_cons_zero, List.set_cons_succ]
        refine wpAnyH_take (i := 2) (v := ?_) rfl (by kernel_rfl) (by kernel_rfl) (by kernel_rfl) (fun _ _ _ h => h) (Or.inl ⟨by rfl, ?_⟩) (by assumption) ?_
        rotate_left
        · intro w hSw
          try dsimp only at hSw
          simp only [List.getElem_toArray, List.getElem_cons_succ, List.getElem_cons_zero]
          go_simp
          try with_reducible rfl
        simp only [List.getElem_toArray, List.getElem_cons_succ, List.getElem_cons_zero]
        try simp only [Act.put, List.setIfInBounds_toArray, List.set_cons_zero, List.set_cons_succ]
        refine wpAnyH_take (i := 3) (v := ?_) rfl (by kernel_rfl) (by kernel_rfl) (by kernel_rfl) (fun _ _ _ h => h) (Or.inl ⟨by rfl, ?_⟩) (by assumption) ?_
        rotate_left
        · intro w hSw
          try dsimp only at hSw
          simp only [List.getElem_toArray, List.getElem_cons_succ, List.getElem_cons_zero]
          go_simp
          try with_reducible rfl
        simp only [List.getElem_toArray, List.getElem_cons_succ, List.getElem_cons_zero]
        try simp only [Act.put, List.setIfInBounds_toArray, List.set_cons_zero, List.set_cons_succ]
        refine wpAnyH_take (i := 4) (v := ?_) rfl (by kernel_rfl) (by kernel_rfl) (by kernel_rfl) (fun _ _ _ h => h) (Or.inl ⟨by rfl, ?_⟩) (by assumption) ?_
        rotate_left
        · intro w hSw
          try dsimp only at hSw
          simp only [List.getElem_toArray, List.getElem_cons_succ, List.getElem_cons_zero]
          go_simp
          try with_reducible rfl
        simp only [List.getElem_toArray, List.getElem_cons_succ, List.getElem_cons_zero]
        try simp only [Act.put, List.setIfInBounds_toArray, List.set_cons_zero, List.set_cons_succ]
        refine wpAnyH_take (i := 6) (v := ?_) rfl (by kernel_rfl) (by kernel_rfl) (by kernel_rfl) (fun _ _ _ h => h) (Or.inl ⟨by rfl, ?_⟩) (by assumption) ?_
        rotate_left
        · intro w hSw
          try dsimp only at hSw
          simp only [List.getElem_toArray, List.getElem_cons_succ, List.getElem_cons_zero]
          go_simp
          try with_reducible rfl
        simp only [List.getElem_toArray, List.getElem_cons_succ, List.getElem_cons_zero]
        try simp only [Act.put, List.setIfInBounds_toArray, List.set_cons_zero, List.set_cons_succ]
        refine wpAnyH_take (i := 7) (v := ?_) rfl (by kernel_rfl) (by kernel_rfl) (by kernel_rfl) (fun _ _ _ h => h) (Or.inl ⟨by rfl, ?_⟩) (by assumption) ?_
        rotate_left
        · intro w hSw
          try dsimp only at hSw
          simp only [List.getElem_toArray, List.getElem_cons_succ, List.getElem_cons_zero]
          go_simp
          try with_reducible rfl
        simp only [List.getElem_toArray, List.getElem_cons_succ, List.getElem_cons_zero]
        try simp only [Act.put, List.setIfInBounds_toArray, List.set_cons_zero, List.set_cons_succ]
        refine wpAnyH_take (i := 8) (v := ?_) rfl (by kernel_rfl) (by kernel_rfl) (by kernel_rfl) (fun _ _ _ h => h) (Or.inl ⟨by rfl, ?_⟩) (by assumption) ?_
        rotate_left
        · intro w hSw
          try dsimp only at hSw
          simp only [List.getElem_toArray, List.getElem_cons_succ, List.getElem_cons_zero]
          go_simp
          try with_reducible rfl
        simp only [List.getElem_toArray, List.getElem_cons_succ, List.getElem_cons_zero]
        try simp only [Act.put, List.setIfInBounds_toArray, List.set_cons_zero, List.set_cons_succ]
        refine wpAnyH_take (i := 9) (v := ?_) rfl (by kernel_rfl) (by kernel_rfl) (by kernel_rfl) (fun _ _ _ h => h) (Or.inl ⟨by rfl, ?_⟩) (by assumption) ?_
        rotate_left
        · intro w hSw
          try dsimp only at hSw
          simp only [List.getElem_toArray, List.getElem_cons_succ, List.getElem_cons_zero]
          go_simp
          try with_reducible rfl
        simp only [List.getElem_toArray, List.getElem_cons_succ, List.getElem_cons_zero]
        try simp only [Act.put, List.setIfInBounds_toArray, List.set_cons_zero, List.set_cons_succ]
        refine wpAnyH_take (i := 10) (v := ?_) rfl (by kernel_rfl) (by kernel_rfl) (by kernel_rfl) (fun _ _ _ h => h) (Or.inl ⟨by rfl, ?_⟩) (by assumption) ?_
        rotate_left
        · intro w hSw
          try dsimp only at hSw
          simp only [List.getElem_toArray, List.getElem_cons_succ, List.getElem_cons_zero]
          go_simp
          try with_reducible rfl
        simp only [List.getElem_toArray, List.getElem_cons_succ, List.getElem_cons_zero]
        try simp only [Act.put, List.setIfInBounds_toArray, List.set_cons_zero, List.set_cons_succ]
        refine wpAnyH_take (i := 11) (v := ?_) rfl (by kernel_rfl) (by kernel_rfl) (by kernel_rfl) (fun _ _ _ h => h) (Or.inl ⟨by rfl, ?_⟩) (by assumption) ?_
        rotate_left
        · intro w hSw
          try dsimp only at hSw
          simp only [List.getElem_toArray, List.getElem_cons_succ, List.getElem_cons_zero]
          go_simp
          try with_reducible rfl
        simp only [List.getElem_toArray, List.getElem_cons_succ, List.getElem_cons_zero]
        try simp only [Act.put, List.setIfInBounds_toArray, List.set_cons_zero, List.set_cons_succ]
        refine wpAnyH_take (i := 12) (v := ?_) rfl (by kernel_rfl) (by kernel_rfl) (by kernel_rfl) (fun _ _ _ h => h) (Or.inl ⟨by rfl, ?_⟩) (by assumption) ?_
        rotate_left
        · intro w hSw
          try dsimp only at hSw
          simp only [List.getElem_toArray, List.getElem_cons_succ, List.getElem_cons_zero]
          go_simp
          try with_reducible rfl
        simp only [List.getElem_toArray, List.getElem_cons_succ, List.getElem_cons_zero]
        try simp only [Act.put, List.setIfInBounds_toArray, List.set_cons_zero, List.set_cons_succ]
        refine wpAnyH_take (i := 14) (v := ?_) rfl (by kernel_rfl) (by kernel_rfl) (by kernel_rfl) (fun _ _ _ h => h) (Or.inl ⟨by rfl, ?_⟩) (by assumption) ?_
        rotate_left
        · intro w hSw
          try dsimp only at hSw
          simp only [List.getElem_toArray, List.getElem_cons_succ, List.getElem_cons_zero]
          go_simp
          try with_reducible rfl
        simp only [List.getElem_toArray, List.getElem_cons_succ, List.getElem_cons_zero]
        try simp only [Act.put, List.setIfInBounds_toArray, List.set_cons_zero, List.set_cons_succ]
        refine wpAnyH_take (i := 15) (v := ?_) rfl (by kernel_rfl) (by kernel_rfl) (by kernel_rfl) (fun _ _ _ h => h) (Or.inl ⟨by rfl, ?_⟩) (by assumption) ?_
        rotate_left
        · intro w hSw
          try dsimp only at hSw
          simp only [List.getElem_toArray, List.getElem_cons_succ, List.getElem_cons_zero]
          go_simp
          try with_reducible rfl
        simp only [List.getElem_toArray, List.getElem_cons_succ, List.getElem_cons_zero]
        try simp only [Act.put, List.setIfInBounds_toArray, List.set_cons_zero, List.set_cons_succ]
        refine wpAnyH_take (i := 16) (v := ?_) rfl (by kernel_rfl) (by kernel_rfl) (by kernel_rfl) (fun _ _ _ h => h) (Or.inl ⟨by rfl, ?_⟩) (by assumption) ?_
        rotate_left
        · intro w hSw
          try dsimp only at hSw
          simp only [List.getElem_toArray, List.getElem_cons_succ, List.getElem_cons_zero]
          go_simp
          try with_reducible rfl
        simp only [List.getElem_toArray, List.getElem_cons_succ, List.getElem_cons_zero]
        try simp only [Act.put, List.setIfInBounds_toArray, List.set_cons_zero, List.set_cons_succ]
        refine wpAnyH_take (i := 17) (v := ?_) rfl (by kernel_rfl) (by kernel_rfl) (by kernel_rfl) (fun _ _ _ h => h) (Or.inl ⟨by rfl, ?_⟩) (by assumption) ?_
        rotate_left
        · intro w hSw
          try dsimp only at hSw
          simp only [List.getElem_toArray, List.getElem_cons_succ, List.getElem_cons_zero]
          go_simp
          try with_reducible rfl
        simp only [List.getElem_toArray, List.getElem_cons_succ, List.getElem_cons_zero]
        try simp only [Act.put, List.setIfInBounds_toArray, List.set_cons_zero, List.set_cons_succ]
        refine wpAnyH_take (i := 18) (v := ?_) rfl (by kernel_rfl) (by kernel_rfl) (by kernel_rfl) (fun _ _ _ h => h) (Or.inl ⟨by rfl, ?_⟩) (by assumption) ?_
        rotate_left
        · intro w hSw
          try dsimp only at hSw
          simp only [List.getElem_toArray, List.getElem_cons_succ, List.getElem_cons_zero]
          go_simp
          try with_reducible rfl
        simp only [List.getElem_toArray, List.getElem_cons_succ, List.getElem_cons_zero]
        try simp only [Act.put, List.setIfInBounds_toArray, List.set_cons_zero, List.set_cons_succ]
        refine wpAnyH_take (i := 19) (v := ?_) rfl (by kernel_rfl) (by kernel_rfl) (by kernel_rfl) (fun _ _ _ h => h) (Or.inl ⟨by rfl, ?_⟩) (by assumption) ?_
        rotate_left
        · intro w hSw
          try dsimp only at hSw
          simp only [List.getElem_toArray, List.getElem_cons_succ, List.getElem_cons_zero]
          go_simp
          try with_reducible rfl
        simp only [List.getElem_toArray, List.getElem_cons_succ, List.getElem_cons_zero]
        try simp only [Act.put, List.setIfInBounds_toArray, List.set_cons_zero, List.set_cons_succ]
        refine wpAnyH_take (i := 20) (v := ?_) rfl (by kernel_rfl) (by kernel_rfl) (by kernel_rfl) (fun _ _ _ h => h) (Or.inl ⟨by rfl, ?_⟩) (by assumption) ?_
        rotate_left
        · intro w hSw
          try dsimp only at hSw
          simp only [List.getElem_toArray, List.getElem_cons_succ, List.getElem_cons_zero]
          go_simp
          try with_reducible rfl
        simp only [List.getElem_toArray, List.getElem_cons_succ, List.getElem_cons_zero]
        try simp only [Act.put, List.setIfInBounds_toArray, List.set_cons_zero, List.set_cons_succ]
        refine wpAnyH_take (i := 21) (v := ?_) rfl (by kernel_rfl) (by kernel_rfl) (by kernel_rfl) (fun _ _ _ h => h) (Or.inl ⟨by rfl, ?_⟩) (by assumption) ?_
        rotate_left
        · intro w hSw
          try dsimp only at hSw
          simp only [List.getElem_toArray, List.getElem_cons_succ, List.getElem_cons_zero]
          go_simp
          try with_reducible rfl
        simp only [List.getElem_toArray, List.getElem_cons_succ, List.getElem_cons_zero]
        try simp only [Act.put, List.setIfInBounds_toArray, List.set_cons_zero, List.set_cons_succ]
        refine wpAnyH_take (i := 22) (v := ?_) rfl (by kernel_rfl) (by kernel_rfl) (by kernel_rfl) (fun _ _ _ h => h) (Or.inl ⟨by rfl, ?_⟩) (by assumption) ?_
        rotate_left
        · intro w hSw
          try dsimp only at hSw
          simp only [List.getElem_toArray, List.getElem_cons_succ, List.getElem_cons_zero]
          go_simp
          try with_reducible rfl
        simp only [List.getElem_toArray, List.getElem_cons_succ, List.getElem_cons_zero]
        try simp only [Act.put, List.setIfInBounds_toArray, List.set_cons_zero, List.set_cons_succ]
        refine wpAnyH_take (i := 23) (v := ?_) rfl (by kernel_rfl) (by kernel_rfl) (by kernel_rfl) (fun _ _ _ h => h) (Or.inl ⟨by rfl, ?_⟩) (by assumption) ?_
        rotate_left
        · intro w hSw
          try dsimp only at hSw
          simp only [List.getElem_toArray, List.getElem_cons_succ, List.getElem_cons_zero]
          go_simp
          try with_reducible rfl
        simp only [List.getElem_toArray, List.getElem_cons_succ, List.getElem_cons_zero]
        try simp only [Act.put, List.setIfInBounds_toArray, List.set_cons_zero, List.set_cons_succ]
        refine wpAnyH_ready (rs := [5, 13]) (by kernel_rfl) (by simp) ?_
        refine AllReadyH.cons rfl (fun K hK => ?_) ?_
        · skip
          simp only [List.getElem_toArray, List.getElem_cons_succ, List.getElem_cons_zero]
          go_simp
          refine hK.out _ _ ?_ (fun hHeld => ?_)
          · try dsimp only
            (first
              | exact ⟨Hd.out, H1.out⟩
              | exact ⟨(Hal.out (nq + 1) _).1, (Hal.out (nq + 1) _).2.1⟩
              | exact hS9
              | exact hS10)
          clear hK K
          try simp only [List.getElem_toArray, List.getElem_cons_succ, List.getElem_cons_zero]
          try simp only [Act.put, List.setIfInBounds_toArray, List.set_cons_zero, List.set_cons_succ]
          refine wpAnyH_ready (rs := [13]) (by kernel_rfl) (by simp) ?_
          refine AllReadyH.cons rfl (fun K hK => ?_) ?_
          · skip
            simp only [List.getElem_toArray, List.getElem_cons_succ, List.getElem_cons_zero]
            go_simp
            refine hK.out _ _ ?_ (fun hHeld => ?_)
            · try dsimp only
              (first
                | exact ⟨Hd.out, H1.out⟩
                | exact ⟨(Hal.out (nq + 1) _).1, (Hal.out (nq + 1) _).2.1⟩
                | exact hS9
                | exact hS10)
            clear hK K
            try simp only [List.getElem_toArray, List.getElem_cons_succ, List.getElem_cons_zero]
            try simp only [Act.put, List.setIfInBounds_toArray, List.set_cons_zero, List.set_cons_succ]
            refine wpAnyH_take (i := 24) (v := ?_) rfl (by kernel_rfl) (by kernel_rfl) (by kernel_rfl) (fun _ _ _ h => h) (Or.inl ⟨by rfl, ?_⟩) (by assumption) ?_
            rotate_left
            · intro w hSw
              try dsimp only at hSw
              simp only [List.getElem_toArray, List.getElem_cons_succ, List.getElem_cons_zero]
              go_simp
              try with_reducible rfl
            simp only [List.getElem_toArray, List.getElem_cons_succ, List.getElem_cons_zero]
            try simp only [Act.put, List.setIfInBounds_toArray, List.set_cons_zero, List.set_cons_succ]
            refine wpAnyH_ready (rs := [25]) (by kernel_rfl) (by simp) ?_
            refine AllReadyH.cons rfl (fun K hK => ?_) ?_
            · skip
              (skip; (refine step_app_many (by rfl) (.tmp 62) (.tmp 81) 89 46 (by rfl) Try.underlying89 (.slice none 0 0) 24 info_bytes rfl wr.heap.size (.slice (some ⟨wr.heap.size, 0, none⟩) 0 0) [] (by rfl) (World.ownsRow_made (wr.drewN (nq + 1)) #[] 0 (Nat.le_refl _) (by simp [maxLen]) (by simp)) (some ⟨b, 0, none⟩) m cap0 (vs.take m) (by rfl) Hml.out.symm (Hcells.out (nq + 1) _) Hone.out (by rw [Hml.out]; have := Hm3.out; simp; omega) (by rw [Hml.out]; have := Hm3.out; simp; omega) (by simp [World.drew]) ?_); intro v9 W9 hown9 hg9 _; obtain ⟨A9, c9, rfl, hS9, h09, fz9, hset9, hpost9⟩ := Hpost.out (nq + 1) W9 v9 _ rfl hown9 hg9; have hS10 := And.intro hset9.1 hset9.2.1; have Hset9 := Lib.hid hset9; have Hpost9 := Lib.hid hpost9; clear hown9 hg9 hset9 hpost9)
              refine hK.out _ _ ?_ (fun hHeld => ?_)
              · try dsimp only
                (first
                  | exact ⟨Hd.out, H1.out⟩
                  | exact ⟨(Hal.out (nq + 1) _).1, (Hal.out (nq + 1) _).2.1⟩
                  | exact hS9
                  | exact hS10)
              clear hK K
              try simp only [List.getElem_toArray, List.getElem_cons_succ, List.getElem_cons_zero]
              try simp only [Act.put, List.setIfInBounds_toArray, List.set_cons_zero, List.set_cons_succ]
              refine wpAnyH_take (i := 26) (v := ?_) rfl (by kernel_rfl) (by kernel_rfl) (by kernel_rfl) (fun _ _ _ h => h) (Or.inl ⟨by rfl, ?_⟩) (by assumption) ?_
              rotate_left
              · intro w hSw
                try dsimp only at hSw
                simp only [List.getElem_toArray, List.getElem_cons_succ, List.getElem_cons_zero]
                go_simp
                try with_reducible rfl
              simp only [List.getElem_toArray, List.getElem_cons_succ, List.getElem_cons_zero]
              try simp only [Act.put, List.setIfInBounds_toArray, List.set_cons_zero, List.set_cons_succ]
              refine wpAnyH_take (i := 27) (v := ?_) rfl (by kernel_rfl) (by kernel_rfl) (by kernel_rfl) (fun _ _ _ h => h) (Or.inl ⟨by rfl, ?_⟩) (by assumption) ?_
              rotate_left
              · intro w hSw
                try dsimp only at hSw
                simp only [List.getElem_toArray, List.getElem_cons_succ, List.getElem_cons_zero]
                go_simp
                try with_reducible rfl
              simp only [List.getElem_toArray, List.getElem_cons_succ, List.getElem_cons_zero]
              try simp only [Act.put, List.setIfInBounds_toArray, List.set_cons_zero, List.set_cons_succ]
              refine wpAnyH_ready (rs := [28]) (by kernel_rfl) (by simp) ?_
              refine AllReadyH.cons rfl (fun K hK => ?_) ?_
              · skip
                simp only [List.getElem_toArray, List.getElem_cons_succ, List.getElem_cons_zero]
                go_simp
                refine hK.out _ _ ?_ (fun hHeld => ?_)
                · try dsimp only
                  (first
                    | exact ⟨Hd.out, H1.out⟩
                    | exact ⟨(Hal.out (nq + 1) _).1, (Hal.out (nq + 1) _).2.1⟩
                    | exact hS9
                    | exact hS10)
                clear hK K
                try simp only [List.getElem_toArray, List.getElem_cons_succ, List.getElem_cons_zero]
                try simp only [Act.put, List.setIfInBounds_toArray, List.set_cons_zero, List.set_cons_succ]
                refine wpAnyH_done (by kernel_rfl) ?_ _
                refine NoPanic.normal ?_
                obtain ⟨W10, hW10⟩ : ∃ W10, W10 = W9.setCell ⟨g, k * 2, none⟩ (.slice A9 m c9) := ⟨_, rfl⟩
                rw [← hW10] at Hset9 Hpost9 ⊢
                obtain ⟨x1, x2, x3, x4⟩ := Hset9.out
                clear hW10 hS9 hS10 h09 fz9 hd1 hcell0 hcell1 hfz0 hfz1 hal0
                go_wp2_with fail
                go_region
                all_goals
                  go_wp2_with fail
                  go_roundw
                  case rel => exact ⟨k + 1, a + 1, by go_num, by go_num, by omega, by omega, Hpost9.out _⟩
                  case measure => simp [intOf]; omega
              exact AllReadyH.nil
            exact AllReadyH.nil
          exact AllReadyH.nil
        refine AllReadyH.cons rfl (fun K hK => ?_) ?_
        · skip
          simp only [List.getElem_toArray, List.getElem_cons_succ, List.getElem_cons_zero]
          go_simp
          refine hK.out _ _ ?_ (fun hHeld => ?_)
          · try dsimp only
            (first
              | exact ⟨Hd.out, H1.out⟩
              | exact ⟨(Hal.out (nq + 1) _).1, (Hal.out (nq + 1) _).2.1⟩
              | exact hS9
              | exact hS10)
          clear hK K
          try simp only [List.getElem_toArray, List.getElem_cons_succ, List.getElem_cons_zero]
          try simp only [Act.put, List.setIfInBounds_toArray, List.set_cons_zero, List.set_cons_succ]
          refine wpAnyH_take (i := 24) (v := ?_) rfl (by kernel_rfl) (by kernel_rfl) (by kernel_rfl) (fun _ _ _ h => h) (Or.inl ⟨by rfl, ?_⟩) (by assumption) ?_
          rotate_left
          · intro w hSw
            try dsimp only at hSw
            simp only [List.getElem_toArray, List.getElem_cons_succ, List.getElem_cons_zero]
            go_simp
            try with_reducible rfl
          simp only [List.getElem_toArray, List.getElem_cons_succ, List.getElem_cons_zero]
          try simp only [Act.put, List.setIfInBounds_toArray, List.set_cons_zero, List.set_cons_succ]
          refine wpAnyH_ready (rs := [5]) (by kernel_rfl) (by simp) ?_
          refine AllReadyH.cons rfl (fun K hK => ?_) ?_
          · skip
            simp only [List.getElem_toArray, List.getElem_cons_succ, List.getElem_cons_zero]
            go_simp
            refine hK.out _ _ ?_ (fun hHeld => ?_)
            · try dsimp only
              (first
                | exact ⟨Hd.out, H1.out⟩
                | exact ⟨(Hal.out (nq + 1) _).1, (Hal.out (nq + 1) _).2.1⟩
                | exact hS9
                | exact hS10)
            clear hK K
            try simp only [List.getElem_toArray, List.getElem_cons_succ, List.getElem_cons_zero]
            try simp only [Act.put, List.setIfInBounds_toArray, List.set_cons_zero, List.set_cons_succ]
            refine wpAnyH_ready (rs := [25]) (by kernel_rfl) (by simp) ?_
            refine AllReadyH.cons rfl (fun K hK => ?_) ?_
            · skip
              (skip; (refine step_app_many (by rfl) (.tmp 62) (.tmp 81) 89 46 (by rfl) Try.underlying89 (.slice none 0 0) 24 info_bytes rfl wr.heap.size (.slice (some ⟨wr.heap.size, 0, none⟩) 0 0) [] (by rfl) (World.ownsRow_made (wr.drewN (nq + 1)) #[] 0 (Nat.le_refl _) (by simp [maxLen]) (by simp)) (some ⟨b, 0, none⟩) m cap0 (vs.take m) (by rfl) Hml.out.symm (Hcells.out (nq + 1) _) Hone.out (by rw [Hml.out]; have := Hm3.out; simp; omega) (by rw [Hml.out]; have := Hm3.out; simp; omega) (by simp [World.drew]) ?_); intro v9 W9 hown9 hg9 _; obtain ⟨A9, c9, rfl, hS9, h09, fz9, hset9, hpost9⟩ := Hpost.out (nq + 1) W9 v9 _ rfl hown9 hg9; have hS10 := And.intro hset9.1 hset9.2.1; have Hset9 := Lib.hid hset9; have Hpost9 := Lib.hid hpost9; clear hown9 hg9 hset9 hpost9)
              refine hK.out _ _ ?_ (fun hHeld => ?_)
              · try dsimp only
                (first
                  | exact ⟨Hd.out, H1.out⟩
                  | exact ⟨(Hal.out (nq + 1) _).1, (Hal.out (nq + 1) _).2.1⟩
                  | exact hS9
                  | exact hS10)
              clear hK K
              try simp only [List.getElem_toArray, List.getElem_cons_succ, List.getElem_cons_zero]
              try simp only [Act.put, List.setIfInBounds_toArray, List.set_cons_zero, List.set_cons_succ]
              refine wpAnyH_take (i := 26) (v := ?_) rfl (by kernel_rfl) (by kernel_rfl) (by kernel_rfl) (fun _ _ _ h => h) (Or.inl ⟨by rfl, ?_⟩) (by assumption) ?_
              rotate_left
              · intro w hSw
                try dsimp only at hSw
                simp only [List.getElem_toArray, List.getElem_cons_succ, List.getElem_cons_zero]
                go_simp
                try with_reducible rfl
              simp only [List.getElem_toArray, List.getElem_cons_succ, List.getElem_cons_zero]
              try simp only [Act.put, List.setIfInBounds_toArray, List.set_cons_zero, List.set_cons_succ]
              refine wpAnyH_take (i := 27) (v := ?_) rfl (by kernel_rfl) (by kernel_rfl) (by kernel_rfl) (fun _ _ _ h => h) (Or.inl ⟨by rfl, ?_⟩) (by assumption) ?_
              rotate_left
              · intro w hSw
                try dsimp only at hSw
                simp only [List.getElem_toArray, List.getElem_cons_succ, List.getElem_cons_zero]
                go_simp
                try with_reducible rfl
              simp only [List.getElem_toArray, List.getElem_cons_succ, List.getElem_cons_zero]
              try simp only [Act.put, List.setIfInBounds_toArray, List.set_cons_zero, List.set_cons_succ]
              refine wpAnyH_ready (rs := [28]) (by kernel_rfl) (by simp) ?_
              refine AllReadyH.cons rfl (fun K hK => ?_) ?_
              · skip
                simp only [List.getElem_toArray, List.getElem_cons_succ, List.getElem_cons_zero]
                go_simp
                refine hK.out _ _ ?_ (fun hHeld => ?_)
                · try dsimp only
                  (first
                    | exact ⟨Hd.out, H1.out⟩
                    | exact ⟨(Hal.out (nq + 1) _).1, (Hal.out (nq + 1) _).2.1⟩
                    | exact hS9
                    | exact hS10)
                clear hK K
                try simp only [List.getElem_toArray, List.getElem_cons_succ, List.getElem_cons_zero]
                try simp only [Act.put, List.setIfInBounds_toArray, List.set_cons_zero, List.set_cons_succ]
                refine wpAnyH_done (by kernel_rfl) ?_ _
                refine NoPanic.normal ?_
                obtain ⟨W10, hW10⟩ : ∃ W10, W10 = W9.setCell ⟨g, k * 2, none⟩ (.slice A9 m c9) := ⟨_, rfl⟩
                rw [← hW10] at Hset9 Hpost9 ⊢
                obtain ⟨x1, x2, x3, x4⟩ := Hset9.out
                clear hW10 hS9 hS10 h09 fz9 hd1 hcell0 hcell1 hfz0 hfz1 hal0
                go_wp2_with fail
                go_region
                all_goals
                  go_wp2_with fail
                  go_roundw
                  case rel => exact ⟨k + 1, a + 1, by go_num, by go_num, by omega, by omega, Hpost9.out _⟩
                  case measure => simp [intOf]; omega
              exact AllReadyH.nil
            exact AllReadyH.nil
          exact AllReadyH.nil
        exact AllReadyH.nil
end Go.Proofs.Ytdnlikhfemhmeaa
