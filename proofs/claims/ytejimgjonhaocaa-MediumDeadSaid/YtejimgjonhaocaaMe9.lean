/-
  Make walked, where it makes.
-/
import Derived.Test.YtejimgjonhaocaaMe8
namespace Go.Proofs.Ytejimgjonhaocaa
open Go.RowKit Go.Maps Go.Lib Go.Sort

section
set_option maxRecDepth 20000
set_option maxHeartbeats 1600000
variable {w w' : World} {tb mb dep nxt N : Nat} {L : List Md}
/-- Make, the map behind it given by what count does -/
theorem make_ok (h : TabG w tb mb dep nxt (rowG L) N) (ho : Ok dep nxt L) (hx : nxt ≤ 900000) (hN : N < 800000) {sz a t : Nat} (h1 : 1 ≤ sz ∧ sz ≤ 1048576) (h2 : a ≤ 1048576) (ht : t < T64) (h0 : t = 0 → a = 0) (hu : t ≠ 0 → ∃ u, look L t = some u ∧ u.fixed = true) (hd : deepL L t < dep) :
    Calls Try.prog 23 #[.pointer (some ⟨tb, 0, none⟩), .int .i64 (sz : Int), .int .u64 (t : Int), .int .i64 (a : Int)] w fun e w' => e = .returned (.tuple #[.int .u64 (nxt : Int), .int .i64 0]) ∧ TabG w' tb mb dep (nxt + 1) (rowG (mkL L nxt t a sz)) (N + 2) ∧ Kept (Off tb mb) w w' := by
  have c2 := h.t2
  have hlk := h.fetchL ht
  obtain ⟨x0, x1, x2, x3, x4, x5, hcs⟩ := rowC_form L t
  have hx4 : t ≠ 0 → x4 = true := fun q => by
    obtain ⟨u, e, f⟩ := hu q
    rw [rowC_some e] at hcs
    injection hcs with _ hcs; injection hcs with _ hcs; injection hcs with _ hcs; injection hcs with _ hcs; injection hcs with e5 _
    injection e5 with e5
    rw [← e5, f]
  rw [hcs] at hlk
  obtain ⟨ok, hok⟩ : ∃ ok, ok = (look L t).isSome := ⟨_, rfl⟩
  rw [← hok] at hlk
  have hok4 : t ≠ 0 → ok = true := fun q => by obtain ⟨u, e, f⟩ := hu q; rw [hok, e]; rfl
  have Hm := Lib.hid fun w => mayHave_any (sz : Int) w
  have Hl := Lib.hid fun w => mayLie_any (a : Int) w
  rw [decide_eq_true (show 1 ≤ (sz : Int) ∧ (sz : Int) ≤ 1048576 by omega)] at Hm
  rw [decide_eq_true (show 0 ≤ (a : Int) ∧ (a : Int) ≤ 1048576 by omega)] at Hl
  have H1 := Lib.hid (h.alloc (.cells #[.int .u64 x0, .int .u64 x1, .int .i64 x2, .int .i64 x3, .bool x4, .int .i64 x5] 75))
  have He : Hid (Below w.heap.size w (w.alloc (.cells #[.int .u64 x0, .int .u64 x1, .int .i64 x2, .int .i64 x3, .bool x4, .int .i64 x5] 75))) := (Below.refl _ _).alloc (Nat.le_refl _) _
  have Hdp := Lib.hid fun W (hW : TabG W tb mb dep nxt (rowG L) N) => deep_any hW ho (by omega) ht
  have k4 : (w.alloc (.cells #[.int .u64 x0, .int .u64 x1, .int .i64 x2, .int .i64 x3, .bool x4, .int .i64 x5] 75)).cell? ⟨w.heap.size, 4, none⟩ = some (.bool x4) := (Cells.new w _ _).cell rfl
  have hd1 : ¬ (dep : Int) ≤ (deepL L t : Nat) := by omega
  obtain ⟨d, hdl⟩ : ∃ d, d = deepL L t := ⟨_, rfl⟩
  rw [← hdl] at Hdp hd1
  have hn0 : ¬ (nxt : Int) = 0 := by have := ho.n1; omega
  have hw64 : IntKind.u64.wrap ((nxt : Int) + 1) = ((nxt + 1 : Nat) : Int) := by rw [IntKind.wrap_u64]; omega
  -- what count does behind the map's turn
  have Hct : Hid (∃ g', rowG (mkL L nxt t a sz) = g' ∧ ∀ W, TabG W tb mb dep (nxt + 1) (updG (rowG L) nxt (some (rowV ⟨nxt, t, a, sz, false⟩ 0))) (N + 1) →
      Calls Try.prog 38 #[.pointer (some ⟨tb, 0, none⟩), .int .u64 (t : Int), .int .i64 1] W fun e w' => e = .returned (.tuple #[]) ∧ TabG w' tb mb dep (nxt + 1) g' (N + 2) ∧ Kept (fun b => b ≠ mb) W w') := by
    by_cases q : t = 0
    · have qa := h0 q
      subst q
      refine ⟨_, rowG_mk0 ho a sz, fun W hW => ?_⟩
      refine (count_none hW ht ?_ _).mono ?_
      · rw [updG_other _ _ (by have := ho.n1; omega)]; exact rowG_none ho.look_zero
      · rintro e w' ⟨rfl, hb⟩
        exact ⟨rfl, (hW.below hb).mono (by omega), ⟨hb.os, hb.tape, hb.output, hb.size, fun b hlt _ => hb.block b hlt⟩⟩
    · obtain ⟨u, e, f⟩ := hu q
      have hlt := ho.hi u (look_mem e).1
      have := (look_mem e).2
      have := ups_le L t
      have := ho.len
      refine ⟨_, rowG_mk ho e a sz, fun W hW => ?_⟩
      exact count_some hW ht (by rw [updG_other _ _ (by omega)]; exact rowG_some e) (by omega) (wrap_small (by omega))
  have Ht0 := Lib.hid ht
  have Hnx : Hid (nxt < T64) := by show nxt < T64; unfold T64; omega
  have Hnt : Hid (N + 1 < 1000000) := by show N + 1 < 1000000; omega
  by_cases q : t = 0
  · have qa := h0 q
    subst q qa
    rw [show ((0 : Nat) : Int) = 0 from rfl] at hlk ⊢
    clear h ht hcs hok hx4 hok4 h1 h2 hd hdl ho hu h0 hx hN
    go_enter Try.func23, Try.ntmps23
    go_wp2_with (first
      | (go_at_call 36; refine (Hm.out _).mono ?_; rintro e w2 ⟨rfl, rfl⟩)
      | (go_at_call 37; refine (Hl.out _).mono ?_; rintro e w2 ⟨rfl, rfl⟩))
    generalize (w.alloc (.cells #[.int .u64 x0, .int .u64 x1, .int .i64 x2, .int .i64 x3, .bool x4, .int .i64 x5] 75)) = w1 at *
    have d0 : ∀ n os, (grow (w1.drewN n) os).cell? ⟨tb, 0, none⟩ = some (.int .i64 (dep : Int)) := fun n os => cell_grown (a := ⟨tb, 0, none⟩) H1.out.tc.lt H1.out.t0 n os
    have d1 : ∀ n os, (grow (w1.drewN n) os).cell? ⟨tb, 1, none⟩ = some (.int .u64 (nxt : Int)) := fun n os => cell_grown (a := ⟨tb, 1, none⟩) H1.out.tc.lt H1.out.t1 n os
    have Hdq : Hid (∀ n os, Calls Try.prog 14 #[.pointer (some ⟨tb, 0, none⟩), .int .u64 0] (grow (w1.drewN n) os) fun e w' => e = .returned (.int .i64 (d : Nat)) ∧ ∃ q os', w' = grow ((grow (w1.drewN n) os).drewN q) os') := fun n os => Hdp.out _ (H1.out.grown n os)
    have HG : Hid (∀ n os, TabG (grow (w1.drewN n) os) tb mb dep nxt (rowG L) N ∧ Below w.heap.size w (grow (w1.drewN n) os)) := fun n os => ⟨H1.out.grown n os, He.out.trans ((below_grow w1 n os).mono He.out.size)⟩
    clear Hdp k4 c2 hlk He
    have e1 : decide ((d : Int) ≥ (dep : Int)) = false := decide_eq_false (by omega)
    have e2 : decide (d ≥ dep) = false := decide_eq_false (by omega)
    have e3 : decide (dep ≤ d) = false := decide_eq_false (by omega)
    refine wp_region_quiet_grown (by kernel_rfl) (by kernel_rfl) ?_
    try simp only [List.append]
    repeat (go_big_quiet_step (first | (go_at_call 14; refine Calls.grown_of (Hdq.out _ _))))
    refine wpQuiet_nil ?_
    intro _ hw'
    obtain ⟨⟨nq, osq⟩, hw''⟩ := hw'
    subst hw''
    have H2 := Lib.hid (HG.out nq osq)
    clear HG Hdq d0 d1 H1
    generalize grow (w1.drewN nq) osq = w2 at *
    have c1 := H2.out.1.t1
    have f1 := H2.out.1.tc.frozen 1
    have c2 := H2.out.1.t2
    have ntm : Hid (tb ≠ mb) := H2.out.1.ne
    have H3 : Hid (TabG (w2.setCell ⟨tb, 1, none⟩ (.int .u64 ((nxt + 1 : Nat) : Int))) tb mb dep (nxt + 1) (rowG L) N ∧ Kept (Off tb mb) w (w2.setCell ⟨tb, 1, none⟩ (.int .u64 ((nxt + 1 : Nat) : Int)))) := by
      refine ⟨⟨H2.out.1.tc.set 1 _, H2.out.1.mc.move (Below.heap_setCell _ _ _ _ (by exact fun e => ntm.out e.symm))⟩, ?_⟩
      have hb := H2.out.2
      exact (Kept.below (Kept.refl (Off tb mb) w) hb).setCell (fun q => q.1 rfl) _
    go_wp2_with (first
      | (at_mapUpdate; refine mv_store rfl _ _ _ rfl Try.underlying65 H3.out.1.mc (by have := Hnt.out; omega) Hnx.out _ rfl rfl rfl ?_))
    intro w3 h3 t3
    have H4 : Hid (TabG w3 tb mb dep (nxt + 1) (updG (rowG L) nxt (some (rowV ⟨nxt, 0, 0, sz, false⟩ 0))) (N + 1) ∧ Kept (Off tb mb) w w3) :=
      ⟨H3.out.1.turned h3 t3, H3.out.2.grown t3.grown (fun g e => by cases e; exact fun q => q.2 rfl)⟩
    clear h3 t3 H3 H2 c1 f1 c2 e1 e2 e3
    obtain ⟨g', hg', hcl⟩ := Hct.out
    have Hc2 := Lib.hid (hcl _ H4.out.1)
    have Hg := Lib.hid hg'
    clear hcl hg' Hct
    go_wp2_with fail
    refine Hc2.out.mono ?_
    rintro e w5 ⟨rfl, h5, k5⟩
    have H5 : Hid (TabG w5 tb mb dep (nxt + 1) g' (N + 2) ∧ Kept (Off tb mb) w w5) := ⟨h5, H4.out.2.trans (k5.mono fun b _ q => q.2)⟩
    clear h5 k5 Hc2 H4
    go_wp2_with fail
    go_ret2
    exact ⟨rfl, by rw [Hg.out]; exact H5.out.1, H5.out.2⟩
  · obtain rfl := hok4 q
    obtain rfl := hx4 q
    have hz : ¬ (t : Int) = 0 := by omega
    clear h ht hcs hok hx4 hok4 q h1 h2 hd hdl ho hu h0 hx hN
    go_enter Try.func23, Try.ntmps23
    go_wp2_with (first
      | (go_at_call 36; refine (Hm.out _).mono ?_; rintro e w2 ⟨rfl, rfl⟩)
      | (go_at_call 37; refine (Hl.out _).mono ?_; rintro e w2 ⟨rfl, rfl⟩))
    generalize (w.alloc (.cells #[.int .u64 x0, .int .u64 x1, .int .i64 x2, .int .i64 x3, .bool true, .int .i64 x5] 75)) = w1 at *
    have d0 : ∀ n os, (grow (w1.drewN n) os).cell? ⟨tb, 0, none⟩ = some (.int .i64 (dep : Int)) := fun n os => cell_grown (a := ⟨tb, 0, none⟩) H1.out.tc.lt H1.out.t0 n os
    have d1 : ∀ n os, (grow (w1.drewN n) os).cell? ⟨tb, 1, none⟩ = some (.int .u64 (nxt : Int)) := fun n os => cell_grown (a := ⟨tb, 1, none⟩) H1.out.tc.lt H1.out.t1 n os
    have Hdq : Hid (∀ n os, Calls Try.prog 14 #[.pointer (some ⟨tb, 0, none⟩), .int .u64 (t : Int)] (grow (w1.drewN n) os) fun e w' => e = .returned (.int .i64 (d : Nat)) ∧ ∃ q os', w' = grow ((grow (w1.drewN n) os).drewN q) os') := fun n os => Hdp.out _ (H1.out.grown n os)
    have HG : Hid (∀ n os, TabG (grow (w1.drewN n) os) tb mb dep nxt (rowG L) N ∧ Below w.heap.size w (grow (w1.drewN n) os)) := fun n os => ⟨H1.out.grown n os, He.out.trans ((below_grow w1 n os).mono He.out.size)⟩
    clear Hdp k4 c2 hlk He
    have e1 : decide ((d : Int) ≥ (dep : Int)) = false := decide_eq_false (by omega)
    have e2 : decide (d ≥ dep) = false := decide_eq_false (by omega)
    have e3 : decide (dep ≤ d) = false := decide_eq_false (by omega)
    refine wp_region_quiet_grown (by kernel_rfl) (by kernel_rfl) ?_
    try simp only [List.append]
    repeat (go_big_quiet_step (first | (go_at_call 14; refine Calls.grown_of (Hdq.out _ _))))
    refine wpQuiet_nil ?_
    intro _ hw'
    obtain ⟨⟨nq, osq⟩, hw''⟩ := hw'
    subst hw''
    have H2 := Lib.hid (HG.out nq osq)
    clear HG Hdq d0 d1 H1
    generalize grow (w1.drewN nq) osq = w2 at *
    have c1 := H2.out.1.t1
    have f1 := H2.out.1.tc.frozen 1
    have c2 := H2.out.1.t2
    have ntm : Hid (tb ≠ mb) := H2.out.1.ne
    have H3 : Hid (TabG (w2.setCell ⟨tb, 1, none⟩ (.int .u64 ((nxt + 1 : Nat) : Int))) tb mb dep (nxt + 1) (rowG L) N ∧ Kept (Off tb mb) w (w2.setCell ⟨tb, 1, none⟩ (.int .u64 ((nxt + 1 : Nat) : Int)))) := by
      refine ⟨⟨H2.out.1.tc.set 1 _, H2.out.1.mc.move (Below.heap_setCell _ _ _ _ (by exact fun e => ntm.out e.symm))⟩, ?_⟩
      have hb := H2.out.2
      exact (Kept.below (Kept.refl (Off tb mb) w) hb).setCell (fun q => q.1 rfl) _
    go_wp2_with (first
      | (at_mapUpdate; refine mv_store rfl _ _ _ rfl Try.underlying65 H3.out.1.mc (by have := Hnt.out; omega) Hnx.out _ rfl rfl rfl ?_))
    intro w3 h3 t3
    have H4 : Hid (TabG w3 tb mb dep (nxt + 1) (updG (rowG L) nxt (some (rowV ⟨nxt, t, a, sz, false⟩ 0))) (N + 1) ∧ Kept (Off tb mb) w w3) :=
      ⟨H3.out.1.turned h3 t3, H3.out.2.grown t3.grown (fun g e => by cases e; exact fun q => q.2 rfl)⟩
    clear h3 t3 H3 H2 c1 f1 c2 e1 e2 e3
    obtain ⟨g', hg', hcl⟩ := Hct.out
    have Hc2 := Lib.hid (hcl _ H4.out.1)
    have Hg := Lib.hid hg'
    clear hcl hg' Hct
    go_wp2_with fail
    refine Hc2.out.mono ?_
    rintro e w5 ⟨rfl, h5, k5⟩
    have H5 : Hid (TabG w5 tb mb dep (nxt + 1) g' (N + 2) ∧ Kept (Off tb mb) w w5) := ⟨h5, H4.out.2.trans (k5.mono fun b _ q => q.2)⟩
    clear h5 k5 Hc2 H4
    go_wp2_with fail
    go_ret2
    exact ⟨rfl, by rw [Hg.out]; exact H5.out.1, H5.out.2⟩
end
end Go.Proofs.Ytejimgjonhaocaa
