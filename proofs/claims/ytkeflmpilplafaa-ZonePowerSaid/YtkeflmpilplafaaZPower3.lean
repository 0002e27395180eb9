/-
  The n-th write of some drives: the law's walk, second half.
-/
import Derived.Test.YtkeflmpilplafaaZPower2
namespace Go.Proofs.Ytkeflmpilplafaa
open Go.RowKit

set_option maxRecDepth 20000 in
set_option maxHeartbeats 2000000 in
theorem power_any (A : Option Addr) (ws : List Int) (c : Nat) (n : Int) (w : World) (hr : RI w w.heap.size A ws) (h1 : -9223372036854775808 ≤ n) (h2 : n ≤ 9223372036854775807) (hb : ∀ z ∈ ws, -9223372036854775808 ≤ z ∧ z ≤ 9223372036854775807) :
    Calls Try.prog 5 #[.slice A ws.length c, .int .i64 n] w fun e w' => e = .returned (.bool true) ∧ Below w.heap.size w w' := by
  have Hk := Lib.hid (known_any w)
  by_cases big : 200 < ws.length
  · have hd : (200 : Int) < (ws.length : Int) := by omega
    clear big hr hb
    generalize ws.length = L at *
    go_enter Try.func5, Try.ntmps5
    go_wp2_with (go_at_call 6; refine Hk.out.mono ?_; rintro e w1 ⟨rfl, hb1⟩; have Hb1 := Lib.hid hb1; clear hb1 Hk)
    go_ret
    exact ⟨rfl, Hb1.out⟩
  obtain ⟨L, hL⟩ : ∃ L, L = ws.length := ⟨_, rfl⟩
  have hL1 : (L : Int) ≤ 200 := by omega
  have HL := Lib.hid hL
  have Hr := Lib.hid hr
  have Hbd := Lib.hid hb
  rw [← hL]
  obtain ⟨cs, Hcs, hmk0⟩ := make_run 32 (by omega)
  have hmk : ∀ u : World, (Instr.makeSlice 46 (.int .i64 32) (.int .i64 32)).run Try.prog u = .ok (.slice (some ⟨u.heap.size, 0, none⟩) 32 32) (u.alloc (.cells cs 5)) := hmk0
  clear hmk0 hL hr big hb
  go_enter Try.func5, Try.ntmps5
  go_wp2_with (go_at_call 6; refine Hk.out.mono ?_; rintro e w1 ⟨rfl, hb1⟩; have Hb1 := Lib.hid hb1; clear hb1 Hk)
  have Hbp := Lib.hid (begin_pow w1)
  refine Hbp.out.mono ?_
  rintro e w2 ⟨rfl, O2, hc2⟩
  have Hst : Hid (Made w w1.heap.size 0 (.slice none 0 0) w2) := by
    obtain ⟨q1, q2, q3⟩ := hc2
    have hsz := Hb1.out.size
    exact ⟨O2, [], rfl, ⟨q1, fun x hx => q2 x (by omega), Hb1.out.trans (q3.mono hsz)⟩, OwnV.nil _ _ _, (fun g hg => by cases hg)⟩
  clear hc2 Hbp
  go_wp2_with fail
  go_loopw [6, 7] (fun v iv wr => ∃ k : Nat, iv = .int .i64 (k : Int) ∧ k ≤ 3 ∧ Hid (Made w w1.heap.size k v wr)) (fun _ iv _ => 3 - (intOf iv).toNat)
  case atStart => exact ⟨0, rfl, by omega, Hst.out⟩
  case round =>
    obtain ⟨k, rfl, hk, hrel⟩ := hrel
    by_cases hlt : k < 3
    · have hk' : (k : Int) < 3 := by omega
      have Hn := Lib.hid (hrel.out.new hk)
      clear hlt
      go_wp2_with fail
      refine Hn.out.mono ?_
      rintro e w3 ⟨d, rfl, hmd⟩
      obtain ⟨O3, dl, hdl, hcl, hLL⟩ := hmd
      have Hlist : Hid (∀ (v' : Value) (w' : World) (o : Obj), OwnV w' w.heap.size 36 v' (dl.map ptrV ++ [ptrV d]) → (w3.alloc o).grownBy w' u6.ownBlock → (v'.ownBlock = u6.ownBlock ∨ v'.ownBlock = some (w3.alloc o).heap.size) → Made w w1.heap.size (k + 1) v' w') :=
        fun v' w' o q1 q2 q3 => Made.listed hdl hcl hLL q1 q2 q3
      have Hown := Lib.hid hLL.1
      have Hsz3 : Hid (w.heap.size ≤ w3.heap.size) := hcl.2.2.size
      have Hdl : Hid ((dl.map ptrV).length ≤ 3) := by show _ ≤ _; simp; omega
      clear hcl hLL hdl Hn
      go_wp2_with (at_builtin; go_must (refine app_one rfl (.tmp 37) (.tmp 39) 33 36 rfl Try.underlying33 (.pointer none) 8 info_ptr rfl w.heap.size _ (dl.map ptrV) rfl (Hown.out.alloc _) ⟨w3.heap.size, 0, none⟩ 1 (.pointer (some ⟨d, 0, none⟩)) rfl (cell_new _ _ _) rfl (by have := Hdl.out; omega) (by have := Hdl.out; omega) (Nat.le_trans Hsz3.out (by simp)) ?_); intro v9 W9 hown9 hg9 hb9)
      have Hnext := Lib.hid (Hlist.out v9 W9 _ hown9 hg9 hb9)
      exact ⟨⟨k + 1, by go_num, by omega, Hnext.out⟩, by simp [intOf]; omega⟩
    · obtain rfl : k = 3 := by omega
      obtain ⟨m, hm⟩ : ∃ m : Nat, (max n 1).toNat = m := ⟨_, rfl⟩
      have hm1 : 1 ≤ m := by omega
      have hm2 : (m : Int) ≤ 9223372036854775807 := by omega
      have Hm : Hid ((n < 1 → m = 1) ∧ (1 ≤ n → (m : Int) = n)) := ⟨by omega, by omega⟩
      have Ha := Lib.hid (hrel.out.arm (n := n) (by omega) hm)
      clear hlt hk hm hrel
      go_upto_if 45 with (go_at_call 20; refine Ha.out.mono ?_; rintro e w5 ⟨rfl, dl, hdl, hpl⟩; have Hpl := Lib.hid hpl; have Hdl := Lib.hid hdl; clear hpl hdl Ha)
      go_cut [1] (fun s wx => s = .int .i64 (m : Int) ∧ Hid (Played w w1.heap.size dl u6 0 m wx))
      case first =>
        by_cases hn1 : n < 1
        · have e := Hm.out.1 hn1
          have He : Hid ((1 : Int) = (m : Int)) := by show _ = _; omega
          clear e
          go_wp2_with fail
          go_meet
          exact ⟨by rw [← He.out], Hpl.out⟩
        · have hn2 : 1 ≤ n := by omega
          have He : Hid (n = (m : Int)) := (Hm.out.2 hn2).symm
          clear hn1
          go_wp2_with fail
          go_meet
          exact ⟨by rw [He.out], Hpl.out⟩
      case rest =>
        obtain ⟨rfl, hpc⟩ := hcut
        obtain ⟨g, cd, rfl, _⟩ := hpc.out.drive (j := 0) (by rw [Hdl.out]; omega)
        have e3 : dl.length = 3 := Hdl.out
        rw [e3] at hpc ⊢
        clear e3
        have Hdr : Hid (∀ (i : Nat) (wr : World), Played w w1.heap.size dl (.slice (some ⟨g, 0, none⟩) 3 cd) i m wr → ∀ j, j < 3 → ∃ dj, dl[j]? = some dj ∧ wr.cell? ⟨g, j, none⟩ = some (.pointer (some ⟨dj, 0, none⟩))) := by
          intro i wr hp j hj
          have hj2 : j < dl.length := by rw [Hdl.out]; exact hj
          obtain ⟨g', c', e, hc⟩ := hp.drive hj2
          have eg : g = g' := by injection e with e1; injection e1 with e2; injection e2
          subst eg
          exact ⟨dl[j], List.getElem?_eq_getElem hj2, hc⟩
        have Happ : Hid (∀ (i : Nat) (wr : World), Played w w1.heap.size dl (.slice (some ⟨g, 0, none⟩) 3 cd) i m wr → i ≤ 200 → ∀ (j dj : Nat), dl[j]? = some dj → ∀ q : Nat, Calls Try.prog 16 #[.pointer (some ⟨dj, 0, none⟩), .int .i64 0, .slice (some ⟨wr.heap.size, 0, none⟩) 32 32] ((wr.drewN q).alloc (.cells cs 5)) fun e w' =>
            e = .returned (.int .i64 ((if i + 1 < m then 0 else 8 : Nat) : Int)) ∧ Played w w1.heap.size dl (.slice (some ⟨g, 0, none⟩) 3 cd) (i + 1) m w') := by
          intro i wr hp hi j dj hj q
          have hj2 := (List.getElem?_eq_some_iff.1 hj).1
          have hj3 := (List.getElem?_eq_some_iff.1 hj).2
          have := hp.append hj2 hi hm1 (by omega) (by rw [Hdl.out]; exact Nat.le_refl _) Hcs.out q
          rw [hj3] at this
          exact this
        go_wp2_with fail
        have hm2' : (1 : Int) ≤ (m : Int) := by omega
        go_loopw [10] (fun iv wr => ∃ i : Nat, iv = .int .i64 (i : Int) ∧ i ≤ L ∧ Hid (Played w w1.heap.size dl (.slice (some ⟨g, 0, none⟩) 3 cd) i m wr)) (fun iv _ => L - (intOf iv).toNat)
        case atStart => exact ⟨0, rfl, Nat.zero_le _, hpc.out⟩
        case round =>
          obtain ⟨i, rfl, hi, hrel⟩ := hrel
          by_cases hlt : i < L
          · have hiw : i < ws.length := by rw [← HL.out]; exact hlt
            have hri := Hr.out.below hrel.out.below
            obtain ⟨b, o, rfl, _⟩ := hri.flat (by omega)
            have hcz := hri.at_ hiw
            have hzb := Hbd.out ws[i] (List.getElem_mem hiw)
            generalize ws[i] = z at hcz hzb
            have ht1 : -3 < z.tmod 3 := Int.lt_tmod_of_pos z (by decide)
            have ht2 : z.tmod 3 < 3 := Int.tmod_lt_of_pos z (by decide)
            have hi200 : i ≤ 200 := by omega
            have hii : (i : Int) < (L : Int) := by omega
            obtain ⟨j, hj, htj⟩ : ∃ j : Nat, j < 3 ∧ (z.tmod 3 = (j : Int) ∨ (1 ≤ j ∧ z.tmod 3 = -(j : Int))) := by
              by_cases h0 : 0 ≤ z.tmod 3
              · exact ⟨(z.tmod 3).toNat, by omega, .inl (by omega)⟩
              · exact ⟨(-(z.tmod 3)).toNat, by omega, .inr ⟨by omega, by omega⟩⟩
            obtain ⟨dj, hdj, hcd⟩ := Hdr.out i wr hrel.out j hj
            have hcd2 : (wr.alloc (.cells cs 5)).cell? ⟨g, j, none⟩ = some (.pointer (some ⟨dj, 0, none⟩)) := (World.cell?_alloc_lt wr _ ⟨g, j, none⟩ (World.block_lt_of_cell? wr _ hcd)).trans hcd
            have Hcall := Lib.hid (Happ.out i wr hrel.out hi200 j dj hdj)
            have hj' : (j : Int) < 3 := by omega
            clear ht1 ht2 hri hiw hdj hlt
            by_cases hlast : i + 1 < m
            · rw [if_pos hlast] at Hcall
              have Hc2 : Hid (∀ q : Nat, Calls Try.prog 16 #[.pointer (some ⟨dj, 0, none⟩), .int .i64 0, .slice (some ⟨wr.heap.size, 0, none⟩) 32 32] ((wr.drewN q).alloc (.cells cs 5)) fun e w' =>
                e = .returned (.int .i64 0) ∧ Played w w1.heap.size dl (.slice (some ⟨g, 0, none⟩) 3 cd) (i + 1) m w') := Hcall.out
              have hl1 : (i : Int) + 1 < (m : Int) := by omega
              have Hof : Hid (∀ w6, Played w w1.heap.size dl (.slice (some ⟨g, 0, none⟩) 3 cd) (i + 1) m w6 → Calls Try.prog 21 #[.pointer (some ⟨w1.heap.size, 0, none⟩)] w6 fun e w' => e = .returned (.bool false) ∧ w6 = w') := by
                intro w6 hp
                have := hp.off
                rw [show decide (m ≤ i + 1) = false by simp; omega] at this
                exact this
              clear Hcall hlast
              rcases htj with htj | ⟨hj1, htj⟩
              case' inr => have hj1' : (1 : Int) ≤ (j : Int) := by omega
              all_goals
                go_upto_region 23 with fail
                go_region_law (go_simp; go_at_call 16; refine (Hc2.out 1).mono ?_; rintro e w6 ⟨rfl, hp6⟩; have Hp6 := Lib.hid hp6; have Ho6 := Lib.hid (Hof.out w6 hp6); clear hp6)
                all_goals
                  go_wp2_with (go_at_call 21; refine Ho6.out.mono ?_; rintro e w7 ⟨rfl, rfl⟩)
                  go_roundw
                  case rel => exact ⟨i + 1, by go_num, by omega, Hp6.out⟩
                  case measure => simp [intOf]; omega
            · rw [if_neg hlast] at Hcall
              have Hc2 : Hid (∀ q : Nat, Calls Try.prog 16 #[.pointer (some ⟨dj, 0, none⟩), .int .i64 0, .slice (some ⟨wr.heap.size, 0, none⟩) 32 32] ((wr.drewN q).alloc (.cells cs 5)) fun e w' =>
                e = .returned (.int .i64 8) ∧ Played w w1.heap.size dl (.slice (some ⟨g, 0, none⟩) 3 cd) (i + 1) m w') := Hcall.out
              have hl1 : (m : Int) ≤ (i : Int) + 1 := by omega
              have Hof : Hid (∀ w6, Played w w1.heap.size dl (.slice (some ⟨g, 0, none⟩) 3 cd) (i + 1) m w6 → Calls Try.prog 21 #[.pointer (some ⟨w1.heap.size, 0, none⟩)] w6 fun e w' => e = .returned (.bool true) ∧ w6 = w') := by
                intro w6 hp
                have := hp.off
                rw [show decide (m ≤ i + 1) = true by simp; omega] at this
                exact this
              clear Hcall hlast
              rcases htj with htj | ⟨hj1, htj⟩
              case' inr => have hj1' : (1 : Int) ≤ (j : Int) := by omega
              all_goals
                go_upto_region 23 with fail
                go_region_law (go_simp; go_at_call 16; refine (Hc2.out 1).mono ?_; rintro e w6 ⟨rfl, hp6⟩; have Hp6 := Lib.hid hp6; have Ho6 := Lib.hid (Hof.out w6 hp6); clear hp6)
                all_goals
                  go_wp2_with (go_at_call 21; refine Ho6.out.mono ?_; rintro e w7 ⟨rfl, rfl⟩)
                  go_roundw
                  case rel => exact ⟨i + 1, by go_num, by omega, Hp6.out⟩
                  case measure => simp [intOf]; omega
          · obtain rfl : i = L := by omega
            have hi200 : i ≤ 200 := by omega
            clear hlt hi
            by_cases hb : m ≤ i
            · have hne : i + 1 ≠ m := by omega
              have hmi : (m : Int) ≤ (i : Int) := by omega
              have Hof : Hid (Calls Try.prog 21 #[.pointer (some ⟨w1.heap.size, 0, none⟩)] wr fun e w' => e = .returned (.bool true) ∧ wr = w') := by
                have := hrel.out.off
                rw [show decide (m ≤ i) = true by simp; omega] at this
                exact this
              have Hon := Lib.hid hrel.out.on
              have Htl : Hid (∀ w7, Again w w1.heap.size dl (.slice (some ⟨g, 0, none⟩) 3 cd) i m w7 → ∃ d0, w7.cell? ⟨g, 0, none⟩ = some (.pointer (some ⟨d0, 0, none⟩)) ∧ (w7.alloc (.cells cs 5)).cell? ⟨g, 0, none⟩ = some (.pointer (some ⟨d0, 0, none⟩)) ∧
                  Hid (∀ q : Nat, Calls Try.prog 16 #[.pointer (some ⟨d0, 0, none⟩), .int .i64 0, .slice (some ⟨w7.heap.size, 0, none⟩) 32 32] ((w7.drewN q).alloc (.cells cs 5)) fun e w' => e = .returned (.int .i64 0) ∧ Last w w1.heap.size i m w')) := by
                intro w7 hag
                have h0 : 0 < dl.length := by rw [Hdl.out]; omega
                obtain ⟨g', c', e, hc⟩ := hag.drive h0
                have eg : g = g' := by injection e with e1; injection e1 with e2; injection e2
                subst eg
                refine ⟨dl[0], hc, (World.cell?_alloc_lt w7 _ ⟨g, 0, none⟩ (World.block_lt_of_cell? w7 _ hc)).trans hc, fun q => ?_⟩
                have := hag.append h0 hi200 hm1 (by omega) (by rw [Hdl.out]; exact Nat.le_refl _) Hcs.out q
                rw [if_neg hne] at this
                exact this
              have Hwr : Hid (∀ w8, Last w w1.heap.size i m w8 → Calls Try.prog 23 #[.pointer (some ⟨w1.heap.size, 0, none⟩)] w8 fun e w' => e = .returned (.int .i64 ((m : Int) - 1 + 1)) ∧ w8 = w') := by
                intro w8 hl
                have := hl.writes hne
                rw [if_neg (by omega), show (((m - 1 + 1 : Nat)) : Int) = (m : Int) - 1 + 1 by omega] at this
                exact this
              clear hne hb hrel
              go_upto_region 31 with (first
                | (go_at_call 21; refine Hof.out.mono ?_; rintro e w7 ⟨rfl, rfl⟩; clear Hof)
                | (go_at_call 22; refine Hon.out.mono ?_; rintro e w7 ⟨rfl, hag⟩; obtain ⟨d0, hq1, hq2, hq3⟩ := Htl.out w7 hag; clear hag))
              go_region_law (go_simp; go_at_call 16; refine (hq3.out 1).mono ?_; rintro e w8 ⟨rfl, hls⟩; have Hls := Lib.hid hls; clear hls)
              all_goals
                go_wp2_with (go_at_call 23; refine (Hwr.out _ Hls.out).mono ?_; rintro e w9 ⟨rfl, rfl⟩)
                go_ret
                exact ⟨rfl, Hls.out.below⟩
            · have hmi : (i : Int) < (m : Int) := by omega
              by_cases hne : i + 1 = m
              · have hmm : ((i : Int) + 1 == (m : Int)) = true := by simp; omega
                have Hof : Hid (Calls Try.prog 21 #[.pointer (some ⟨w1.heap.size, 0, none⟩)] wr fun e w' => e = .returned (.bool false) ∧ wr = w') := by
                  have := hrel.out.off
                  rw [show decide (m ≤ i) = false by simp; omega] at this
                  exact this
                have Hon := Lib.hid hrel.out.on
                have Htl : Hid (∀ w7, Again w w1.heap.size dl (.slice (some ⟨g, 0, none⟩) 3 cd) i m w7 → ∃ d0, w7.cell? ⟨g, 0, none⟩ = some (.pointer (some ⟨d0, 0, none⟩)) ∧ (w7.alloc (.cells cs 5)).cell? ⟨g, 0, none⟩ = some (.pointer (some ⟨d0, 0, none⟩)) ∧
                    Hid (∀ q : Nat, Calls Try.prog 16 #[.pointer (some ⟨d0, 0, none⟩), .int .i64 0, .slice (some ⟨w7.heap.size, 0, none⟩) 32 32] ((w7.drewN q).alloc (.cells cs 5)) fun e w' => e = .returned (.int .i64 8) ∧ Last w w1.heap.size i m w')) := by
                  intro w7 hag
                  have h0 : 0 < dl.length := by rw [Hdl.out]; omega
                  obtain ⟨g', c', e, hc⟩ := hag.drive h0
                  have eg : g = g' := by injection e with e1; injection e1 with e2; injection e2
                  subst eg
                  refine ⟨dl[0], hc, (World.cell?_alloc_lt w7 _ ⟨g, 0, none⟩ (World.block_lt_of_cell? w7 _ hc)).trans hc, fun q => ?_⟩
                  have := hag.append h0 hi200 hm1 (by omega) (by rw [Hdl.out]; exact Nat.le_refl _) Hcs.out q
                  rw [if_pos hne] at this
                  exact this
                have Hwr : Hid (∀ w8, Last w w1.heap.size i m w8 → Calls Try.prog 21 #[.pointer (some ⟨w1.heap.size, 0, none⟩)] w8 fun e w' => e = .returned (.bool true) ∧ w8 = w') := fun w8 hl => hl.off hne
                clear hne hb hrel
                go_upto_region 31 with (first
                  | (go_at_call 21; refine Hof.out.mono ?_; rintro e w7 ⟨rfl, rfl⟩; clear Hof)
                  | (go_at_call 22; refine Hon.out.mono ?_; rintro e w7 ⟨rfl, hag⟩; obtain ⟨d0, hq1, hq2, hq3⟩ := Htl.out w7 hag; clear hag))
                go_region_law (go_simp; go_at_call 16; refine (hq3.out 1).mono ?_; rintro e w8 ⟨rfl, hls⟩; have Hls := Lib.hid hls; clear hls)
                all_goals
                  go_wp2_with (go_at_call 21; refine (Hwr.out _ Hls.out).mono ?_; rintro e w9 ⟨rfl, rfl⟩)
                  go_ret
                  exact ⟨rfl, Hls.out.below⟩
              · have hmm : ((i : Int) + 1 == (m : Int)) = false := by simp; omega
                have Hof : Hid (Calls Try.prog 21 #[.pointer (some ⟨w1.heap.size, 0, none⟩)] wr fun e w' => e = .returned (.bool false) ∧ wr = w') := by
                  have := hrel.out.off
                  rw [show decide (m ≤ i) = false by simp; omega] at this
                  exact this
                have Hon := Lib.hid hrel.out.on
                have Htl : Hid (∀ w7, Again w w1.heap.size dl (.slice (some ⟨g, 0, none⟩) 3 cd) i m w7 → ∃ d0, w7.cell? ⟨g, 0, none⟩ = some (.pointer (some ⟨d0, 0, none⟩)) ∧ (w7.alloc (.cells cs 5)).cell? ⟨g, 0, none⟩ = some (.pointer (some ⟨d0, 0, none⟩)) ∧
                    Hid (∀ q : Nat, Calls Try.prog 16 #[.pointer (some ⟨d0, 0, none⟩), .int .i64 0, .slice (some ⟨w7.heap.size, 0, none⟩) 32 32] ((w7.drewN q).alloc (.cells cs 5)) fun e w' => e = .returned (.int .i64 0) ∧ Last w w1.heap.size i m w')) := by
                  intro w7 hag
                  have h0 : 0 < dl.length := by rw [Hdl.out]; omega
                  obtain ⟨g', c', e, hc⟩ := hag.drive h0
                  have eg : g = g' := by injection e with e1; injection e1 with e2; injection e2
                  subst eg
                  refine ⟨dl[0], hc, (World.cell?_alloc_lt w7 _ ⟨g, 0, none⟩ (World.block_lt_of_cell? w7 _ hc)).trans hc, fun q => ?_⟩
                  have := hag.append h0 hi200 hm1 (by omega) (by rw [Hdl.out]; exact Nat.le_refl _) Hcs.out q
                  rw [if_neg hne] at this
                  exact this
                have Hwr : Hid (∀ w8, Last w w1.heap.size i m w8 → Calls Try.prog 23 #[.pointer (some ⟨w1.heap.size, 0, none⟩)] w8 fun e w' => e = .returned (.int .i64 ((i : Int) + 1)) ∧ w8 = w') := by
                  intro w8 hl
                  have := hl.writes hne
                  rw [if_pos (by omega), show (((i + 1 : Nat)) : Int) = (i : Int) + 1 by omega] at this
                  exact this
                clear hne hb hrel
                go_upto_region 31 with (first
                  | (go_at_call 21; refine Hof.out.mono ?_; rintro e w7 ⟨rfl, rfl⟩; clear Hof)
                  | (go_at_call 22; refine Hon.out.mono ?_; rintro e w7 ⟨rfl, hag⟩; obtain ⟨d0, hq1, hq2, hq3⟩ := Htl.out w7 hag; clear hag))
                go_region_law (go_simp; go_at_call 16; refine (hq3.out 1).mono ?_; rintro e w8 ⟨rfl, hls⟩; have Hls := Lib.hid hls; clear hls)
                all_goals
                  go_wp2_with (go_at_call 23; refine (Hwr.out _ Hls.out).mono ?_; rintro e w9 ⟨rfl, rfl⟩)
                  go_ret
                  exact ⟨rfl, Hls.out.below⟩
end Go.Proofs.Ytkeflmpilplafaa
