/-
  AllocPlays, walked.
-/
import Derived.Test.YtajpnjapfiffmaaKAlPlay1
import Derived.Deep.CutBlock
import Derived.Deep.RegionHeld3
namespace Go.Proofs.Ytajpnjapfiffmaa
open Go.RowKit Go.Maps Go.Shelf Go.Lib Go.Sort

set_option maxRecDepth 100000 in
set_option maxHeartbeats 16000000 in
theorem plays_any (dr zn : Int) (A : Option Addr) (c : Nat) (l : List PAct8) (u1 u2 n : Int) (w : World) (h : Acts8 w A l) (hl : l.length ≤ 1048576)
    (hbd : ∀ (k : Nat) (x : PAct8), l[k]? = some x → x.wo.length ≤ 1048576 ∧ x.us.length ≤ 1048576) :
    Calls Try.prog 3 #[.int .i64 dr, .int .i64 zn, .slice A l.length c, uV u1 u2, .int .i64 n] w fun e w' => e = .returned (.bool true) ∧ Below w.heap.size w w' := by
  unfold uV
  obtain ⟨W, hW⟩ : ∃ W, W = w.alloc (.cells #[.int .i64 u1, .int .i64 u2] 24) := ⟨_, rfl⟩
  have hbW : Below w.heap.size w W := by rw [hW]; exact (Below.refl _ _).alloc (Nat.le_refl _) _
  have hcW : Cells W w.heap.size 24 [.int .i64 u1, .int .i64 u2] := by rw [hW]; exact Cells.new w _ _
  have Hkn := Lib.hid (known_any W)
  have HF1 : Hid (∀ w1, Below W.heap.size W w1 → Calls Try.prog 7 #[.int .i64 dr, .int .i64 zn, .slice A l.length c] w1 (BoolW w1)) := fun w1 hb1 => few8_any dr zn A c l w1 (acts_below h (hbW.trans (hb1.mono hbW.size))) hl hbd
  have Hac : Hid (∀ W', Below W.heap.size W W' → Acts8 W' A l ∧ Below w.heap.size w W' ∧ Cells W' w.heap.size 24 [.int .i64 u1, .int .i64 u2]) := fun W' hb => ⟨acts_below h (hbW.trans (hb.mono hbW.size)), hbW.trans (hb.mono hbW.size), hcW.move (hb.block _ hcW.lt)⟩
  have Hbd := Lib.hid hbd
  obtain ⟨L, hL⟩ : ∃ L, L = l.length := ⟨_, rfl⟩
  have HL := Lib.hid hL
  have hLi : (L : Int) ≤ 1048576 := by omega
  rw [← hL] at HF1 ⊢
  clear h hl hbd hL hcW hbW
  go_enter Try.func3, Try.ntmps3
  go_wp2_with fail
  rw [← hW]
  clear hW
  refine Hkn.out.mono ?_
  rintro e w1 ⟨rfl, hb1⟩
  have Hb1 := Lib.hid hb1
  have Hf := Lib.hid (HF1.out w1 hb1)
  clear hb1 Hkn HF1
  go_wp2_with fail
  refine Hf.out.mono ?_
  rintro e w2 ⟨b, rfl, q, rfl⟩
  have Hb2 : Hid (Below W.heap.size W (w1.drewN q)) := drewN_below Hb1.out q
  obtain ⟨hac, hbw, hub⟩ := Hac.out _ Hb2.out
  have HA := Lib.hid hac
  have HB := Lib.hid hbw
  have HU := Lib.hid hub
  clear Hac Hb1 Hb2 Hf hac hbw hub
  generalize w1.drewN q = w0 at *
  cases b with
  | false =>
    go_wp2_with fail
    go_ret
    exact ⟨rfl, HB.out⟩
  | true =>
  by_cases hz : 1 ≤ dr ∧ dr ≤ 32 ∧ 1 ≤ zn ∧ zn ≤ 4096
  case neg =>
    have Hn := Lib.hid (new_bad dr zn hz w0)
    have Hr := Lib.hid (rnew_bad dr zn hz w0)
    clear hz
    go_wp2_with fail
    refine Hn.out.mono ?_
    rintro e w3 ⟨rfl, rfl⟩
    go_wp2_with fail
    refine Hr.out.mono ?_
    rintro e w3 ⟨rfl, rfl⟩
    go_wp2_with fail
    go_ret
    exact ⟨rfl, HB.out⟩
  obtain ⟨hz1, hz2, hz3, hz4⟩ := hz
  obtain ⟨D, rfl⟩ : ∃ D : Nat, dr = (D : Int) := ⟨dr.toNat, by omega⟩
  obtain ⟨Z, rfl⟩ : ∃ Z : Nat, zn = (Z : Int) := ⟨zn.toNat, by omega⟩
  have Hn := Lib.hid (new_any D Z (by omega) (by omega) w0)
  have Hr := Lib.hid fun w3 => rnew_any D Z (by omega) (by omega) w3
  have hD : (D : Int) ≤ 32 := hz2
  have hZ : (Z : Int) ≤ 4096 := hz4
  clear hz1 hz2 hz3 hz4
  go_wp2_with fail
  refine Hn.out.mono ?_
  rintro e w3 ⟨tb, db, mb, cap, rfl, ht, hb3, l1, l2, l3⟩
  have Hr3 := Lib.hid (Hr.out w3)
  have HT := Lib.hid (And.intro ht (And.intro hb3 (And.intro l1 (And.intro l2 l3))))
  clear ht hb3 l1 l2 l3 Hn Hr
  go_wp2_with fail
  refine Hr3.out.mono ?_
  rintro e w4 ⟨lb, lc, R, rfl, hr, hb4, _, hR⟩
  obtain ⟨s, hs1, hs2, hs⟩ : ∃ s : Spots, s.tb = tb ∧ s.rb = w3.heap.size ∧ Both w0 w4 s D Z (fun _ _ => 0) (fun _ _ => 0) := by
    obtain ⟨h1, h2, h3, h4, h5⟩ := HT.out
    exact ⟨⟨tb, db, mb, cap, w3.heap.size, lb, lc, R⟩, rfl, rfl, h1.below hb4, hr, h2.trans (hb4.mono h2.size), h3, h4, h5, fun d hd => by have := hR d hd; have := h2.size; show _ ≤ R d; omega⟩
  have HS := Lib.hid hs
  subst hs1
  rw [← hs2]
  obtain ⟨rb, hrb⟩ : ∃ rb, rb = s.rb := ⟨_, rfl⟩
  rw [← hrb]
  have Hrb := Lib.hid hrb
  clear hr hb4 hR hs HT Hr3 hs2 hrb
  go_wp2_with fail
  go_loopw [11, 15] (fun tv iv wr => ∃ (i : Nat) (s : Spots) (g : St), tv = .pointer (some ⟨s.tb, 0, none⟩) ∧ iv = .int .i64 (i : Int) ∧ i ≤ L ∧ Hid (rb = s.rb) ∧ Hid (Both w0 wr s D Z g g)) (fun _ iv _ => L - (intOf iv).toNat)
  case atStart => exact ⟨0, s, _, rfl, rfl, Nat.zero_le _, Hrb.out, HS.out⟩
  case round =>
    clear HS Hrb
    obtain ⟨i, s, g, rfl, rfl, hi, Hrb, Hs⟩ := hrel
    by_cases hlt : i < L
    case neg =>
      obtain rfl : i = L := by omega
      have Hsp := Lib.hid fun W (x y : Int) (hb : Both w0 W s D Z g g) => state_any x y hb.tab
      have Hsr := Lib.hid fun W (x y : Int) (hb : Both w0 W s D Z g g) => rstate_any x y hb.ref
      rw [← (show rb = s.rb from Hrb.out)] at Hsr
      unfold uV at Hsp Hsr
      clear hlt
      go_wp2_with fail
      go_loopw [27] (fun dv wr => ∃ d : Nat, dv = .int .i64 (d : Int) ∧ d ≤ D ∧ Hid (Both w0 wr s D Z g g)) (fun dv _ => D - (intOf dv).toNat)
      case atStart => exact ⟨0, rfl, Nat.zero_le _, Hs.out⟩
      case round => as_aux_lemma =>
        clear Hs
        obtain ⟨d, rfl, hd, Hs⟩ := hrel
        by_cases hdD : d < D
        · have hdD' : (d : Int) < (D : Int) := by omega
          generalize wr = W8 at *
          go_wp2_with fail
          go_loopw [28] (fun zv wr => ∃ z : Nat, zv = .int .i64 (z : Int) ∧ z ≤ Z ∧ Hid (Both w0 wr s D Z g g)) (fun zv _ => Z - (intOf zv).toNat)
          case atStart => exact ⟨0, rfl, Nat.zero_le _, Hs.out⟩
          case round =>
            clear Hs
            obtain ⟨z, rfl, hz, Hs⟩ := hrel
            by_cases hzZ : z < Z
            · have hzZ' : (z : Int) < (Z : Int) := by omega
              have h1 := Lib.hid (Hsp.out wr (d : Int) (z : Int) Hs.out)
              have h2 : Hid (∀ w5, Both w0 w5 s D Z g g → _) := fun w5 hb => Hsr.out w5 (d : Int) (z : Int) hb
              generalize stateOf g D Z (d : Int) (z : Int) = N at *
              go_wp2_with fail
              refine h1.out.mono ?_
              rintro e w5 ⟨rfl, hb5⟩
              have HB5 := Lib.hid (Hs.out.below hb5)
              have h3 := Lib.hid (h2.out w5 HB5.out)
              clear h1 h2 hb5
              go_wp2_with fail
              refine h3.out.mono ?_
              rintro e w6 ⟨rfl, hb6⟩
              have HB6 := Lib.hid (HB5.out.below hb6)
              clear h3 hb6
              go_wp2_with fail
              go_roundw
              case rel => exact ⟨z + 1, by go_num, by omega, HB6.out⟩
              case measure => simp [intOf]; omega
            · obtain rfl : z = Z := by omega
              clear hzZ
              go_wp2_with fail
              go_roundw
              case rel => exact ⟨d + 1, by go_num, by omega, Hs.out⟩
              case measure => simp [intOf]; omega
        · obtain rfl : d = D := by omega
          have Hend : Hid (Below w.heap.size w wr) := HB.out.trans (Hs.out.bel.mono HB.out.size)
          clear hdD Hs
          go_wp2_with fail
          go_ret
          exact ⟨rfl, Hend.out⟩
    have hlt' : (i : Int) < (L : Int) := by omega
    obtain ⟨x, hx⟩ : ∃ x, l[i]? = some x := ⟨_, List.getElem?_eq_getElem (by rw [← HL.out]; exact hlt)⟩
    obtain ⟨b, o, rfl, hb, a0, a1, ⟨A2, c2, a2, hr2⟩, ⟨A3, c3, a3, hr3⟩⟩ := HA.out i x hx
    have hxb := Hbd.out i x hx
    have Hx : Hid (RI w0 w0.heap.size A2 x.wo ∧ RU w0 w0.heap.size A3 x.us ∧ x.wo.length ≤ 1048576 ∧ x.us.length ≤ 1048576) := ⟨hr2, hr3, hxb⟩
    have e0 : wr.cell? ⟨b, o + i * 4, none⟩ = _ := (Hs.out.bel.cell (p := ⟨b, _, none⟩) hb).trans a0
    have e1 : wr.cell? ⟨b, o + i * 4 + 1, none⟩ = _ := (Hs.out.bel.cell (p := ⟨b, _, none⟩) hb).trans a1
    have e2 : wr.cell? ⟨b, o + i * 4 + 2, none⟩ = _ := (Hs.out.bel.cell (p := ⟨b, _, none⟩) hb).trans a2
    have e3 : wr.cell? ⟨b, o + i * 4 + 3, none⟩ = _ := (Hs.out.bel.cell (p := ⟨b, _, none⟩) hb).trans a3
    have hX : Cells (wr.alloc (.cells #[.int .i64 x.op, .int .i64 x.num, .slice A2 x.wo.length c2, .slice A3 x.us.length c3] 37)) wr.heap.size 37 [.int .i64 x.op, .int .i64 x.num, .slice A2 x.wo.length c2, .slice A3 x.us.length c3] := Cells.new wr _ _
    have hS2 : Both w0 (wr.alloc (.cells #[.int .i64 x.op, .int .i64 x.num, .slice A2 x.wo.length c2, .slice A3 x.us.length c3] 37)) s D Z g g := Hs.out.below ((Below.refl _ _).alloc (Nat.le_refl _) _)
    have HXn : Hid (wr.heap.size ≠ s.db ∧ wr.heap.size ≠ s.mb ∧ ∀ d, d < D → wr.heap.size ≠ s.R d) := by
      have h1 := Hs.out.tab.dc.lt
      have h2 := Hs.out.tab.mc.lt
      exact ⟨by omega, by omega, fun d hd => by have := (Hs.out.ref.rows d hd).lt; omega⟩
    have HX := Lib.hid hX
    have HS2 := Lib.hid hS2
    clear a0 a1 a2 a3 hr2 hr3 hxb hx hb hlt hX hS2
    go_upto_block 2 with fail
    go_cut [11] (fun tv wx => ∃ (s' : Spots) (g' : St), tv = .pointer (some ⟨s'.tb, 0, none⟩) ∧ Hid (rb = s'.rb) ∧ Hid (Both w0 wx s' D Z g' g'))
    case first => as_aux_lemma =>
      obtain ⟨WX, hWX⟩ : ∃ WX, WX = wr.alloc (.cells #[.int .i64 x.op, .int .i64 x.num, .slice A2 x.wo.length c2, .slice A3 x.us.length c3] 37) := ⟨_, rfl⟩
      rw [← hWX] at HX HS2 ⊢
      have y1 := HX.out.cell (i := 1) rfl
      have y2 := HX.out.cell (i := 2) rfl
      have y3 := HX.out.cell (i := 3) rfl
      have hxl : wr.heap.size < WX.heap.size := HX.out.lt
      have HXL := Lib.hid hxl
      clear hWX hxl e0 e1 e2 e3
      by_cases h1 : x.op = 1
      · have h1' : (x.op == 1) = true := by simpa using h1
        have Htk := Lib.hid (HS2.out.take x.num A2 c2 x.wo (by have := Hx.out.2.2.1; omega) Hx.out.1)
        have Hk : Hid (∀ w5, Kept (fun x => x ≠ s.db ∧ x ≠ s.mb) WX w5 → w5.cell? ⟨wr.heap.size, 1, none⟩ = some (.int .i64 x.num) ∧ w5.cell? ⟨wr.heap.size, 2, none⟩ = some (.slice A2 x.wo.length c2)) := fun w5 hk => by
          have hb := hk.block _ HX.out.lt ⟨HXn.out.1, HXn.out.2.1⟩
          exact ⟨(HX.out.move hb).cell rfl, (HX.out.move hb).cell rfl⟩
        rw [← (show rb = s.rb from Hrb.out)] at Htk
        clear h1
        go_wp2_with fail
        refine Htk.out.mono ?_
        rintro e w5 ⟨A5, c5, us, er, g', rfl, _, hus, hk5, hcall⟩
        obtain ⟨z1, z2⟩ := Hk.out w5 hk5
        have Hc := Lib.hid hcall
        have Hus : Hid (us.length ≤ 1099511627776) := by show _ ≤ _; omega
        clear hk5 hcall hus Htk y1 y2 y3
        go_wp2_with fail
        refine Hc.out.mono ?_
        rintro e w6 ⟨A6, c6, rfl, hB6, ru1, ru2⟩
        have Hun := Lib.hid (units_any A5 A6 c5 c6 us w6 ru1 ru2 Hus.out)
        have HB6 := Lib.hid hB6
        clear hB6 ru1 ru2 Hc
        generalize us.length = ul at *
        go_wp2_with fail
        refine Hun.out.mono ?_
        rintro e w7 ⟨rfl, hb7⟩
        have HB7 := Lib.hid (HB6.out.below hb7)
        clear hb7 Hun HB6
        go_wp2_with fail
        go_meet
        exact ⟨s, g', rfl, Hrb.out, HB7.out⟩
      have h1' : (x.op == 1) = false := by simpa using h1
      by_cases h2 : x.op = 2
      · have h2' : (x.op == 2) = true := by simpa using h2
        have Htk := Lib.hid (HS2.out.takeOn x.num)
        have Hk : Hid (∀ w5, Kept (fun x => x ≠ s.db ∧ x ≠ s.mb) WX w5 → ∀ o, (w5.alloc o).cell? ⟨wr.heap.size, 1, none⟩ = some (.int .i64 x.num)) := fun w5 hk o => by
          have hb := hk.block _ HX.out.lt ⟨HXn.out.1, HXn.out.2.1⟩
          exact ((HX.out.move hb).alloc o).cell rfl
        have eg := Try.eqGuardType24
        clear h1 h2
        go_wp2_with fail
        refine Htk.out.mono ?_
        rintro e w5 ⟨a, b', er, g', rfl, hB5, hk5, hcall⟩
        have z1 := Hk.out w5 hk5
        have Hc := Lib.hid (hcall (w5.alloc (.cells #[.int .i64 a, .int .i64 b'] 24)) (hB5.below ((Below.refl _ _).alloc (Nat.le_refl _) _)))
        rw [← (show rb = s.rb from Hrb.out)] at Hc
        have Hk2 : Hid (∀ w6 : World, (∀ i, i < (w5.alloc (.cells #[.int .i64 a, .int .i64 b'] 24)).heap.size → (∀ d, d < D → i ≠ s.R d) → w6.heap[i]? = (w5.alloc (.cells #[.int .i64 a, .int .i64 b'] 24)).heap[i]?) → ∀ o, (w6.alloc o).cell? ⟨w5.heap.size, 0, none⟩ = some (.int .i64 a) ∧ (w6.alloc o).cell? ⟨w5.heap.size, 1, none⟩ = some (.int .i64 b')) := fun w6 hk o => by
          have hC : Cells (w5.alloc (.cells #[.int .i64 a, .int .i64 b'] 24)) w5.heap.size 24 [.int .i64 a, .int .i64 b'] := Cells.new w5 _ _
          have hb := hk w5.heap.size hC.lt fun d hd e => by have := (hB5.ref.rows d hd).lt; omega
          exact ⟨((hC.move hb).alloc o).cell rfl, ((hC.move hb).alloc o).cell rfl⟩
        clear hk5 hcall hB5 Htk y1 y2 y3
        go_wp2_with fail
        refine Hc.out.mono ?_
        rintro e w6 ⟨rfl, hB6, _, hk6⟩
        have z3 := Hk2.out w6 hk6
        have z4 := fun o => (z3 o).1
        have z5 := fun o => (z3 o).2
        have q1 : ∀ W, (Op.equalIn 10000 24 (.agg #[.int .i64 a, .int .i64 b']) (.agg #[.int .i64 a, .int .i64 b'])).run Try.prog W = .ok true W := fun W => by
          rw [eql_unit, decide_eq_true ⟨rfl, rfl⟩]
        have HB6 : Hid (∀ o, Both w0 (w6.alloc o) s D Z g' g') := fun o => hB6.below ((Below.refl _ _).alloc (Nat.le_refl _) _)
        clear hB6 hk6 Hc z3 Hk2
        go_wp2_with fail
        go_meet
        exact ⟨s, g', rfl, Hrb.out, HB6.out _⟩
      have h2' : (x.op == 2) = false := by simpa using h2
      by_cases h3 : x.op = 3
      · have h3' : (x.op == 3) = true := by simpa using h3
        have Htk : Hid (Calls Try.prog 15 #[.pointer (some ⟨s.tb, 0, none⟩), .int .i64 x.num, .slice A3 x.us.length c3] WX.drew _) := (HS2.out.drewN 1).set x.num A3 c3 x.us (by have := Hx.out.2.2.2; omega) Hx.out.2.1
        rw [← (show rb = s.rb from Hrb.out)] at Htk
        have Hk : Hid (∀ w5, Kept (fun x => x ≠ s.db ∧ x ≠ s.mb) (WX.drewN 1) w5 → w5.cell? ⟨wr.heap.size, 1, none⟩ = some (.int .i64 x.num) ∧ w5.cell? ⟨wr.heap.size, 3, none⟩ = some (.slice A3 x.us.length c3)) := fun w5 hk => by
          have hb := hk.block _ HX.out.lt ⟨HXn.out.1, HXn.out.2.1⟩
          have hX1 : Cells (WX.drewN 1) wr.heap.size _ _ := HX.out
          exact ⟨(hX1.move hb).cell rfl, (hX1.move hb).cell rfl⟩
        have Hk6 : Hid (∀ w5 w6, Kept (fun x => x ≠ s.db ∧ x ≠ s.mb) (WX.drewN 1) w5 → Kept (NotR D s.R) w5 w6 → w6.cell? ⟨wr.heap.size, 1, none⟩ = some (.int .i64 x.num) ∧ w6.cell? ⟨wr.heap.size, 3, none⟩ = some (.slice A3 x.us.length c3)) := fun w5 w6 hk hk2 => by
          have hb := hk.block _ HX.out.lt ⟨HXn.out.1, HXn.out.2.1⟩
          have hX1 : Cells (WX.drewN 1) wr.heap.size _ _ := HX.out
          have hX2 := hX1.move hb
          have hb2 := hk2.block _ hX2.lt fun d hd => HXn.out.2.2 d hd
          exact ⟨(hX2.move hb2).cell rfl, (hX2.move hb2).cell rfl⟩
        have Hn2 : Hid (∀ w6, Both w0 w6 s D Z (setG g D Z x.num x.us) (setG g D Z x.num x.us) → ∃ g', Both w0 w6 s D Z g' g') := fun w6 hq => ⟨_, hq⟩
        have k0 : WX.drew.cell? ⟨wr.heap.size, 1, none⟩ = some (.int .i64 x.num) ∧ WX.drew.cell? ⟨wr.heap.size, 3, none⟩ = some (.slice A3 x.us.length c3) := ⟨y1, y3⟩
        clear h1 h2 h3 y1 y2 y3
        go_upto_region 27 with fail
        go_region_held3 (fun X => X.cell? ⟨wr.heap.size, 1, none⟩ = some (.int .i64 x.num) ∧ X.cell? ⟨wr.heap.size, 3, none⟩ = some (.slice A3 x.us.length c3)) (first | exact k0 | exact j1 | exact j2) (first
          | (go_at_call 15; refine Htk.out.mono ?_; rintro e w5 ⟨er, rfl, _, hk5, hcall⟩; have j1 := Hk.out w5 hk5; have Hc := Lib.hid hcall; clear hcall)
          | (go_at_call 16; refine Hc.out.mono ?_; rintro e w6 ⟨rfl, hB6, hk6⟩; have j2 := Hk6.out w5 w6 hk5 hk6; have HB6 := Lib.hid (Hn2.out _ hB6); clear hB6 hk6))
        all_goals
          go_wp2_with fail
          go_meet
          obtain ⟨g9, hg9⟩ := HB6.out
          exact ⟨s, g9, rfl, Hrb.out, hg9⟩
      have h3' : (x.op == 3) = false := by simpa using h3
      by_cases h4 : x.op = 4
      · have h4' : (x.op == 4) = true := by simpa using h4
        have Htk := Lib.hid HS2.out.release
        rw [← (show rb = s.rb from Hrb.out)] at Htk
        clear h1 h2 h3 h4 y1 y2 y3
        go_wp2_with fail
        refine Htk.out.mono ?_
        rintro e w5 ⟨A5, c5, us, rfl, hus, _, hcall⟩
        have Hc := Lib.hid hcall
        have Hus : Hid (us.length ≤ 1099511627776) := by show _ ≤ _; omega
        clear hcall hus Htk
        go_wp2_with fail
        refine Hc.out.mono ?_
        rintro e w6 ⟨A6, c6, rfl, hB6, ru1, ru2⟩
        have Hun := Lib.hid (units_any A5 A6 c5 c6 us w6 ru1 ru2 Hus.out)
        have HB6 := Lib.hid hB6
        clear hB6 ru1 ru2 Hc
        generalize us.length = ul at *
        go_wp2_with fail
        refine Hun.out.mono ?_
        rintro e w7 ⟨rfl, hb7⟩
        have HB7 := Lib.hid (HB6.out.below hb7)
        clear hb7 Hun HB6
        go_wp2_with fail
        go_meet
        exact ⟨s, _, rfl, Hrb.out, HB7.out⟩
      have h4' : (x.op == 4) = false := by simpa using h4
      by_cases h5 : x.op = 5
      · have h5' : (x.op == 5) = true := by simpa using h5
        have Htk := Lib.hid HS2.out.twin
        clear h1 h2 h3 h4 h5 y1 y2 y3
        go_wp2_with fail
        refine Htk.out.mono ?_
        rintro e w5 ⟨s', rfl, hrs, hB5⟩
        have HB5 := Lib.hid hB5
        have Hrs : Hid (rb = s'.rb) := by show _ = _; rw [hrs]; exact Hrb.out
        clear hB5 hrs Htk
        go_wp2_with fail
        go_meet
        exact ⟨s', g, rfl, Hrs.out, HB5.out⟩
      have h5' : (x.op == 5) = false := by simpa using h5
      clear h1 h2 h3 h4 h5 y1 y2 y3
      go_wp2_with fail
      go_meet
      exact ⟨s, g, rfl, Hrb.out, HS2.out⟩
    clear HX HS2 HXn Hx e0 e1 e2 e3 Hs Hrb
    obtain ⟨s', g', rfl, Hrb, HB2⟩ := hcut
    have Hcp := Lib.hid fun W (z : Int) (hb : Both w0 W s' D Z g' g') => count_any z hb.tab
    have Hcr := Lib.hid fun W (z : Int) (hb : Both w0 W s' D Z g' g') => rcount_any z hb.ref
    have Hfp := Lib.hid fun W (z : Int) (hb : Both w0 W s' D Z g' g') => freeOn_any z hb.tab
    have Hfr := Lib.hid fun W (z : Int) (hb : Both w0 W s' D Z g' g') => rfreeOn_any z hb.ref
    have Hsp := Lib.hid fun W (hb : Both w0 W s' D Z g' g') => state_any u1 u2 hb.tab
    have Hsr := Lib.hid fun W (hb : Both w0 W s' D Z g' g') => rstate_any u1 u2 hb.ref
    have Hzp := Lib.hid fun W (hb : Both w0 W s' D Z g' g') => sets_any n hb.tab
    have Hzr := Lib.hid fun W (hb : Both w0 W s' D Z g' g') => rsets_any n hb.ref
    rw [← (show rb = s'.rb from Hrb.out)] at Hcr Hfr Hsr Hzr
    obtain ⟨wm, rfl⟩ : ∃ wm : World, wm = wc := ⟨_, rfl⟩
    go_wp2_with fail
    go_loopw [25] (fun zv wr => ∃ z : Int, zv = .int .i64 z ∧ -1 ≤ z ∧ z ≤ 5 ∧ Hid (Both w0 wr s' D Z g' g')) (fun zv _ => (5 - intOf zv).toNat)
    case atStart => exact ⟨-1, rfl, by omega, by omega, HB2.out⟩
    case round => as_aux_lemma =>
      obtain ⟨z, rfl, hz1, hz2, HB3⟩ := hrel
      by_cases hz : z ≤ 4
      · have h1 := Lib.hid (Hcp.out wr z HB3.out)
        have h2 : Hid (∀ w5, Both w0 w5 s' D Z g' g' → _) := fun w5 hb => Hcr.out w5 z hb
        generalize countOf g' D Z z = N at *
        go_wp2_with fail
        refine h1.out.mono ?_
        rintro e w5 ⟨rfl, hb5⟩
        have HB5 := Lib.hid (HB3.out.below hb5)
        have h3 := Lib.hid (h2.out w5 HB5.out)
        clear h1 h2 hb5
        go_wp2_with fail
        refine h3.out.mono ?_
        rintro e w6 ⟨rfl, rfl⟩
        clear h3
        go_wp2_with fail
        go_roundw
        case rel => exact ⟨z + 1, by go_num, by omega, by omega, HB5.out⟩
        case measure => simp [intOf]; omega
      · clear Hcp Hcr
        go_wp2_with fail
        go_loopw [26] (fun zv wr => ∃ z : Int, zv = .int .i64 z ∧ -1 ≤ z ∧ z ≤ 33 ∧ Hid (Both w0 wr s' D Z g' g')) (fun zv _ => (33 - intOf zv).toNat)
        case atStart => exact ⟨-1, rfl, by omega, by omega, HB3.out⟩
        case round =>
          clear HB3
          obtain ⟨y, rfl, hy1, hy2, HB3⟩ := hrel
          by_cases hy : y ≤ (D : Int)
          · have h1 := Lib.hid (Hfp.out wr y HB3.out)
            have h3 := Lib.hid (Hfr.out wr y HB3.out)
            generalize freeOn g' D Z y = N at *
            go_wp2_with fail
            refine h1.out.mono ?_
            rintro e w5 ⟨rfl, rfl⟩
            clear h1
            go_wp2_with fail
            refine h3.out.mono ?_
            rintro e w6 ⟨rfl, rfl⟩
            clear h3
            go_wp2_with fail
            go_roundw
            case rel => exact ⟨y + 1, by go_num, by omega, by omega, HB3.out⟩
            case measure => simp [intOf]; omega
          · clear Hfp Hfr
            have HUd : Hid (∀ W, Both w0 W s' D Z g' g' → W.cell? ⟨w.heap.size, 0, none⟩ = some (.int .i64 u1) ∧ W.cell? ⟨w.heap.size, 1, none⟩ = some (.int .i64 u2)) := fun W hb => by
              have hu := HU.out.move (hb.bel.block _ HU.out.lt)
              exact ⟨hu.cell rfl, hu.cell rfl⟩
            have k0 : wr.drew.cell? ⟨w.heap.size, 0, none⟩ = some (.int .i64 u1) ∧ wr.drew.cell? ⟨w.heap.size, 1, none⟩ = some (.int .i64 u2) := HUd.out wr HB3.out
            have HB4 : Hid (Both w0 wr.drew s' D Z g' g') := HB3.out.drewN 1
            generalize stateOf g' D Z u1 u2 = N at *
            generalize setsV g' D Z n = N2 at *
            go_upto_region 46 with fail
            go_region_held3 (fun X => X.cell? ⟨w.heap.size, 0, none⟩ = some (.int .i64 u1) ∧ X.cell? ⟨w.heap.size, 1, none⟩ = some (.int .i64 u2)) (first | exact k0 | exact j1 | exact j2 | exact j3 | exact j4) (first
              | (go_at_call 24; refine (Hsp.out _ HB4.out).mono ?_; rintro e w5 ⟨rfl, hb5⟩; have HB5 := Lib.hid (HB4.out.below hb5); have j1 := HUd.out w5 HB5.out; clear hb5)
              | (go_at_call 25; refine (Hsr.out _ HB5.out).mono ?_; rintro e w6 ⟨rfl, hb6⟩; have HB6 := Lib.hid (HB5.out.below hb6); have j2 := HUd.out w6 HB6.out; clear hb6)
              | (go_at_call 26; refine (Hzp.out _ HB6.out).mono ?_; rintro e w7 ⟨rfl, hb7⟩; have HB7 := Lib.hid (HB6.out.below hb7); have j3 := HUd.out w7 HB7.out; clear hb7)
              | (go_at_call 27; refine (Hzr.out _ HB7.out).mono ?_; rintro e w8 ⟨rfl, hb8⟩; have HB8 := Lib.hid (HB7.out.below hb8); have j4 := HUd.out w8 HB8.out; clear hb8))
            all_goals
              go_wp2_with fail
              go_roundw
              case rel => exact ⟨i + 1, s', g', rfl, by go_num, by omega, Hrb.out, HB8.out⟩
              case measure => simp [intOf]; omega
end Go.Proofs.Ytajpnjapfiffmaa
