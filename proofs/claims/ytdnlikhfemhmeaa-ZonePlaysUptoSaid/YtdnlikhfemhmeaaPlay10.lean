/-
  The play whole: the law's walk.
-/
import Derived.Test.YtdnlikhfemhmeaaPlay9
namespace Go.Proofs.Ytdnlikhfemhmeaa
open Go.RowKit

theorem ActsAt.below {w w' : World} {A : Option Addr} {l : List PAct} (h : ActsAt w A l) (hb : Below w.heap.size w w') : ActsAt w' A l := by
  intro k x hx
  obtain ⟨b, o, e, hlt, q0, q1, q2, q3, q4, ⟨A1, c1, q5, r5, s5⟩, ⟨A2, c2, q6, r6, s6⟩⟩ := h k x hx
  have old : ∀ {i : Nat} {v : Value}, w.cell? ⟨b, i, none⟩ = some v → w'.cell? ⟨b, i, none⟩ = some v := fun {i} {v} hv => (hb.cell (p := ⟨b, i, none⟩) hlt).trans hv
  exact ⟨b, o, e, Nat.lt_of_lt_of_le hlt hb.size, old q0, old q1, old q2, old q3, old q4, ⟨A1, c1, old q5, (r5.below hb).wide hb.size, s5⟩, ⟨A2, c2, old q6, (r6.below hb).wide hb.size, s6⟩⟩
theorem Bld.own1 {w0 w : World} {g pw qw : Nat} {ds es : List (Nat × Drv)} {dl el : List Nat} {dv ev : Value} (h : Bld w0 g pw qw ds es dl el dv ev w) : OwnV w w0.heap.size 36 dv (dl.map refV) ∧ OwnV w w0.heap.size 40 ev (el.map refV) := by
  obtain ⟨O, Q, _, _, _, _, _, _, _, h8, h9⟩ := h
  exact ⟨h8, h9⟩
def BldL (w0 : World) (g pw qw : Nat) (D : Drv) (i : Nat) (w : World) : Prop :=
  ∃ (ds es : List (Nat × Drv)) (dv ev : Value), Bld w0 g pw qw ds es (fsts ds) (fsts es) dv ev w ∧ dat ds = List.replicate i D ∧ dat es = List.replicate i D
theorem dat_snoc {ds : List (Nat × Drv)} {i d : Nat} {D : Drv} (h : dat ds = List.replicate i D) : dat (ds ++ [(d, D)]) = List.replicate (i + 1) D := by
  unfold dat at *
  rw [List.map_append, h, List.replicate_succ']
  rfl

theorem Rig.read2 {M : Nat → Prop} {w0 w : World} {pw qw i d e : Nat} {P : Pow} {ds es : List (Nat × Drv)} {D : Drv} (h : Rig M w0 pw qw P ds P es w) (z k : Int) (hi : ds[i]? = some (d, D)) (he : es[i]? = some (e, D)) :
    Calls Try.prog 14 #[.pointer (some ⟨d, 0, none⟩), .int .i64 z, .int .i64 k] w fun v w' => ∃ A c, v = .returned (.tuple #[.slice A (readBytes P D z k).length c, .int .i64 (readCode P D z k : Nat)]) ∧ Rig M w0 pw qw P ds P es w' ∧
      ∀ q, Calls Try.prog 15 #[.pointer (some ⟨e, 0, none⟩), .int .i64 z, .int .i64 k] (w'.drewN q) fun v w3 => ∃ A' c', v = .returned (.tuple #[.slice A' (readBytes P D z k).length c', .int .i64 (readCode P D z k : Nat)]) ∧
        (convert 46 9 (.slice A (readBytes P D z k).length c)).run Try.prog w3 = .ok (.string ⟨(readBytes P D z k).toArray⟩) w3 ∧ (convert 46 9 (.slice A' (readBytes P D z k).length c')).run Try.prog w3 = .ok (.string ⟨(readBytes P D z k).toArray⟩) w3 ∧ Rig M w0 pw qw P ds P es w3 := by
  obtain ⟨O, Q, h1, h2, _⟩ := h.st
  refine (read_any pw i d P ds D O z k w h1 hi).mono fun v w' ⟨u, hv, ho, hb⟩ => ?_
  obtain ⟨A, c, rfl, _, hr, _⟩ := ho.rb
  refine ⟨A, c, hv, h.below hb, fun q => ?_⟩
  refine (((h.below hb).drewN q).rread z k he).mono fun v w3 ⟨A', c', q1, q2, q3⟩ => ⟨A', c', q1, ?_, q2, ?_⟩
  · rw [← q3]
    exact text_run (w'.drewN q) _ A _ c (hr.drewN q)
  · rw [← q3]
    exact (h.below hb).drewN q

set_option maxRecDepth 20000 in
set_option maxHeartbeats 4000000 in
theorem plays_any (drives zones pages size : Int) (A : Option Addr) (c : Nat) (l : List PAct) (w : World) (h : ActsAt w A l) (hl : l.length ≤ 1048576)
    (hbd : ∀ (k : Nat) (x : PAct), l[k]? = some x → x.bytes.length ≤ 1048576 ∧ x.picks.length ≤ 1048576)
    (hnm : ∀ (k : Nat) (x : PAct), l[k]? = some x → -9223372036854775808 ≤ x.drive ∧ x.drive ≤ 9223372036854775807 ∧ x.num ≤ 9223372036854775807) :
    Calls Try.prog 3 #[.int .i64 drives, .int .i64 zones, .int .i64 pages, .int .i64 size, .slice A l.length c] w fun e w' => e = .returned (.bool true) ∧ Below w.heap.size w w' := by
  have Hk := Lib.hid (known_any w)
  by_cases hd1 : drives < 1
  · clear h hl hbd hnm
    generalize l.length = L at *
    go_enter Try.func3, Try.ntmps3
    go_wp2_with (go_at_call 6; refine Hk.out.mono ?_; rintro e w1 ⟨rfl, hb1⟩; have Hb1 := Lib.hid hb1; clear hb1 Hk)
    go_ret
    exact ⟨rfl, Hb1.out⟩
  by_cases hd4 : 4 < drives
  · clear h hl hbd hnm hd1
    generalize l.length = L at *
    go_enter Try.func3, Try.ntmps3
    go_wp2_with (go_at_call 6; refine Hk.out.mono ?_; rintro e w1 ⟨rfl, hb1⟩; have Hb1 := Lib.hid hb1; clear hb1 Hk)
    go_ret
    exact ⟨rfl, Hb1.out⟩
  obtain ⟨N, rfl⟩ : ∃ N : Nat, drives = (N : Int) := ⟨drives.toNat, by omega⟩
  have hN1 : (1 : Int) ≤ (N : Int) := by omega
  have hN4 : (N : Int) ≤ 4 := by omega
  have Hfew : Hid (∀ w1, Below w.heap.size w w1 → Calls Try.prog 7 #[.slice A l.length c] w1 fun e w' => e = .returned (.bool (fewB l)) ∧ Below w.heap.size w w') := by
    intro w1 hb1
    refine (few_any A c l w1 (h.below hb1) hl hbd).mono fun e w' ⟨he, q, hq⟩ => ⟨he, ?_⟩
    rw [hq]
    exact below_drewN hb1 q
  have HA := Lib.hid h
  have Hbd := Lib.hid hbd
  have Hnm := Lib.hid hnm
  obtain ⟨L, hL⟩ : ∃ L, L = l.length := ⟨_, rfl⟩
  have HL := Lib.hid hL
  have hL1 : (L : Int) ≤ 1048576 := by omega
  rw [← hL] at Hfew ⊢
  clear h hbd hnm hd1 hd4 hL hl
  rcases hfw : fewB l with _ | _
  · rw [hfw] at Hfew
    clear hfw
    go_enter Try.func3, Try.ntmps3
    go_wp2_with (first | (go_at_call 6; refine Hk.out.mono ?_; rintro e w1 ⟨rfl, hb1⟩; have Hf1 := Lib.hid (Hfew.out w1 hb1); clear hb1 Hk) | (go_at_call 7; refine Hf1.out.mono ?_; rintro e w2 ⟨rfl, hb2⟩; have Hb2 := Lib.hid hb2; clear hb2))
    go_ret
    exact ⟨rfl, Hb2.out⟩
  rw [hfw] at Hfew
  have Hfw := Lib.hid hfw
  clear hfw
  go_enter Try.func3, Try.ntmps3
  go_upto_region 6 with (first
    | (go_at_call 6; refine Hk.out.mono ?_; rintro e w1 ⟨rfl, hb1⟩; have Hf1 := Lib.hid (Hfew.out w1 hb1); clear hb1 Hk)
    | (go_at_call 7; refine Hf1.out.mono ?_; rintro e w2 ⟨rfl, hb2⟩; have Hb2 := Lib.hid hb2; have Hnp := Lib.hid (newPower_any w2); clear hb2)
    | (go_at_call 8; refine Hnp.out.mono ?_; rintro e w3 ⟨rfl, hs3, hb3⟩; have Hst := Lib.hid (Bld.first hs3 Hb2.out hb3); clear hs3 hb3))
  generalize (w3.alloc (.cells #[.bool false, .int .i64 0, .slice none 0 0, .int .i64 0, .slice none 0 0] 32)).alloc (.cells #[.pointer (some ⟨w2.heap.size, 0, none⟩), .pointer (some ⟨w3.heap.size, 0, none⟩), .slice none 0 0, .slice none 0 0] 35) = W4 at Hst ⊢
  generalize w3.heap.size + 1 = g at Hst ⊢
  generalize w3.heap.size = qw at Hst ⊢
  generalize w2.heap.size = pw at Hst ⊢
  clear Hfew Hf1 Hnp Hb2
  by_cases hsh : (1 ≤ zones ∧ zones ≤ 4096) ∧ (1 ≤ pages ∧ pages ≤ 4096) ∧ 32 ≤ size ∧ size ≤ 65536
  case neg =>
    have Hbad : Hid (zones < 1 ∨ 4096 < zones ∨ pages < 1 ∨ 4096 < pages ∨ size < 32 ∨ 65536 < size) := by show _ ∨ _; omega
    clear hsh
    go_wp2_with fail
    go_loopw [12] (fun iv wr => iv = .int .i64 0 ∧ Hid (Bld w g pw qw [] [] [] [] (.slice none 0 0) (.slice none 0 0) wr)) (fun _ _ => 0)
    case atStart => exact ⟨rfl, Hst.out⟩
    case round =>
      obtain ⟨rfl, hrel⟩ := hrel
      obtain ⟨g0, g1, _, _⟩ := hrel.out.cells
      have Hn := Lib.hid (new_bad (.pointer (some ⟨pw, 0, none⟩)) zones pages size wr Hbad.out)
      have Hm := Lib.hid (rnew_bad (.pointer (some ⟨qw, 0, none⟩)) zones pages size wr Hbad.out)
      have Hb9 := Lib.hid hrel.out.below
      have hN0 : (0 : Int) < (N : Int) := by omega
      go_wp2_with (first | (go_at_call 9; refine Hn.out.mono ?_; rintro e w5 ⟨rfl, rfl⟩) | (go_at_call 10; refine Hm.out.mono ?_; rintro e w5 ⟨rfl, rfl⟩))
      go_ret
      exact ⟨rfl, Hb9.out⟩
  obtain ⟨⟨z1, z2⟩, ⟨p1, p2⟩, s1, s2⟩ := hsh
  obtain ⟨zn, rfl⟩ : ∃ zn : Nat, zones = (zn : Int) := ⟨zones.toNat, by omega⟩
  obtain ⟨pn, rfl⟩ : ∃ pn : Nat, pages = (pn : Int) := ⟨pages.toNat, by omega⟩
  obtain ⟨sn, rfl⟩ : ∃ sn : Nat, size = (sn : Int) := ⟨size.toNat, by omega⟩
  have Hb : Hid (1 ≤ zn ∧ zn ≤ 4096 ∧ 1 ≤ pn ∧ pn ≤ 4096 ∧ 32 ≤ sn ∧ sn ≤ 65536) := ⟨by omega, by omega, by omega, by omega, by omega, by omega⟩
  clear z1 z2 p1 p2 s1 s2
  go_wp2_with fail
  go_loopw [12] (fun iv wr => ∃ i : Nat, iv = .int .i64 (i : Int) ∧ i ≤ N ∧ Hid (BldL w g pw qw (Drv.new zn pn sn) i wr)) (fun iv _ => N - (intOf iv).toNat)
  case atStart => exact ⟨0, rfl, Nat.zero_le _, [], [], _, _, Hst.out, rfl, rfl⟩
  case round =>
    obtain ⟨i, rfl, hi, hrel⟩ := hrel
    by_cases hlt : i < N
    · obtain ⟨ds, es, dv, ev, hb, e1, e2⟩ := hrel.out
      obtain ⟨g0, _, _, _⟩ := hb.cells
      have l1 : ds.length = i := by have := congrArg List.length e1; simpa [dat] using this
      have l2 : es.length = i := by have := congrArg List.length e2; simpa [dat] using this
      have hi4 : i ≤ 3 := by omega
      have hi' : (i : Int) < (N : Int) := by omega
      obtain ⟨b1, b2, b3, b4, b5, b6⟩ := Hb.out
      have Hn : Hid (Calls Try.prog 9 #[.pointer (some ⟨pw, 0, none⟩), .int .i64 (zn : Int), .int .i64 (pn : Int), .int .i64 (sn : Int)] wr fun v w5 => ∃ d, v = .returned (.tuple #[.pointer (some ⟨d, 0, none⟩), .int .i64 0]) ∧ w5.cell? ⟨g, 1, none⟩ = some (.pointer (some ⟨qw, 0, none⟩)) ∧
          Hid (Calls Try.prog 10 #[.pointer (some ⟨qw, 0, none⟩), .int .i64 (zn : Int), .int .i64 (pn : Int), .int .i64 (sn : Int)] w5 fun v w6 => ∃ d', v = .returned (.tuple #[.pointer (some ⟨d', 0, none⟩), .int .i64 0]) ∧
            Hid (Calls Try.prog 11 #[.pointer (some ⟨d, 0, none⟩)] w6 fun v w7 => v = .returned (.tuple #[.int .i64 (zn : Int), .int .i64 (pn : Int), .int .i64 (sn : Int)]) ∧ w7.cell? ⟨g, 2, none⟩ = some dv ∧ Hid (Bld w g pw qw (ds ++ [(d, Drv.new zn pn sn)]) (es ++ [(d', Drv.new zn pn sn)]) (fsts ds) (fsts es) dv ev w7)))) := by
        refine (hb.new zn pn sn (by omega) b1 b2 b3 b4 b5 b6).mono fun v w5 ⟨d, hv, hb5⟩ => ⟨d, hv, hb5.cells.2.1, ?_⟩
        refine (hb5.rnew zn pn sn (by omega) b1 b2 b3 b4 b5 b6).mono fun v w6 ⟨d', hv, hb6⟩ => ⟨d', hv, ?_⟩
        exact (hb6.shape (i := i) (d := d) (by rw [List.getElem?_append_right (by omega), l1]; simp)).mono fun v w7 ⟨hv, hb7⟩ => ⟨hv, hb7.cells.2.2.1, hb7⟩
      have Hd : Hid (dat ds = List.replicate i (Drv.new zn pn sn) ∧ dat es = List.replicate i (Drv.new zn pn sn)) := ⟨e1, e2⟩
      have Hl : Hid ((fsts ds).length ≤ 3 ∧ (fsts es).length ≤ 3) := by show _ ∧ _; simp [fsts]; omega
      clear hlt hb e1 e2 l1 l2 b1 b2 b3 b4 b5 b6 hrel
      go_upto_region 18 with (first
        | (go_at_call 9; refine Hn.out.mono ?_; rintro v w5 ⟨d, rfl, g1, Hn2⟩)
        | (go_at_call 10; refine Hn2.out.mono ?_; rintro v w6 ⟨d', rfl, Hn3⟩)
        | (go_at_call 11; refine Hn3.out.mono ?_; rintro v w7 ⟨rfl, g2, Hb7⟩; clear g0 g1))
      have Hs7 : Hid (w.heap.size ≤ w7.heap.size) := Hb7.out.below.size
      have Hown1 := Lib.hid Hb7.out.own1.1
      go_upto_region 19 with (at_builtin; go_must (refine app_one rfl (.tmp 107) (.tmp 109) 33 36 rfl Try.underlying33 (.pointer none) 8 info_ptr1 rfl w.heap.size _ ((fsts ds).map refV) rfl (Hown1.out.alloc _) ⟨w7.heap.size, 0, none⟩ 1 (.pointer (some ⟨d, 0, none⟩)) rfl (cell_new _ _ _) rfl (by have := Hl.out.1; rw [List.length_map]; omega) (by have := Hl.out.1; rw [List.length_map]; omega) (Nat.le_trans Hs7.out (by simp)) ?_); intro v9 W9 hown9 hg9 hb9; obtain ⟨k1, k2, hb10⟩ := Hb7.out.put1 hown9 hg9 hb9; obtain ⟨A9, n9, c9, rfl⟩ : ∃ A n c, v9 = Value.slice A n c := (by obtain ⟨A9, c9, e9, _⟩ := hown9.rd; exact ⟨_, _, _, e9⟩); have Hb10 := Lib.hid hb10; clear hown9 hg9 hb9 hb10)
      clear g2 k1 k2 Hown1 Hs7
      generalize W9.setCell ⟨g, 2, none⟩ (.slice A9 n9 c9) = W10 at Hb10 ⊢
      clear Hb7
      have g3 := Hb10.out.cells.2.2.2
      have Hs10 : Hid (w.heap.size ≤ W10.heap.size) := Hb10.out.below.size
      have Hown2 := Lib.hid Hb10.out.own1.2
      go_wp2_with (at_builtin; go_must (refine app_one rfl (.tmp 117) (.tmp 119) 30 40 rfl Try.underlying30 (.pointer none) 8 info_ptr2 rfl w.heap.size _ ((fsts es).map refV) rfl (Hown2.out.alloc _) ⟨W10.heap.size, 0, none⟩ 1 (.pointer (some ⟨d', 0, none⟩)) rfl (cell_new _ _ _) rfl (by have := Hl.out.2; rw [List.length_map]; omega) (by have := Hl.out.2; rw [List.length_map]; omega) (Nat.le_trans Hs10.out (by simp)) ?_); intro v9 W9 hown9 hg9 hb9; obtain ⟨k1, k2, hb10⟩ := Hb10.out.put2 hown9 hg9 hb9; obtain ⟨A9, n9, c9, rfl⟩ : ∃ A n c, v9 = Value.slice A n c := (by obtain ⟨A9, c9, e9, _⟩ := hown9.rd; exact ⟨_, _, _, e9⟩); have Hb11 := Lib.hid hb10; clear hown9 hg9 hb9 hb10)
      go_roundw
      case rel => exact ⟨i + 1, by go_num, by omega, ds ++ [(d, Drv.new zn pn sn)], es ++ [(d', Drv.new zn pn sn)], _, _, by simpa [fsts] using Hb11.out, dat_snoc Hd.out.1, dat_snoc Hd.out.2⟩
      case measure => simp [intOf]; omega
    · obtain rfl : i = N := by omega
      obtain ⟨ds, es, dv, ev, hb, e1, e2⟩ := hrel.out
      have l1 : ds.length = i := by have := congrArg List.length e1; simpa [dat] using this
      obtain ⟨bd, be, cd, ce, hra, hpl⟩ := hb.done rfl rfl (e1.trans e2.symm) (by omega) (by omega)
      have Hlow : Hid (∀ b, b < w.heap.size → Mine w g dv ev b) := fun b hb => .inl hb
      have Hbel := Lib.hid hb.below
      have hdl : (fsts ds).length = i := by simp [fsts, l1]
      have Hra := Lib.hid hra
      have Hpl := Lib.hid hpl
      generalize fsts ds = dl at *
      generalize fsts es = el at *
      have Hdl := Lib.hid hdl
      clear hra hpl hb e1 e2 l1 hlt hi hdl hrel Hst Hb
      obtain ⟨M, hM⟩ : ∃ M, M = Mine w g dv ev := ⟨_, rfl⟩
      rw [← hM] at Hlow Hra Hpl
      clear hM
      obtain ⟨wo, rfl⟩ : ∃ wo : World, wo = wr := ⟨_, rfl⟩
      go_wp2_with fail
      go_loopw [20] (fun iv wz => ∃ k : Nat, iv = .int .i64 (k : Int) ∧ k ≤ L ∧ Hid (Play M wo pw qw dl el k wz)) (fun iv _ => L - (intOf iv).toNat)
      case atStart => exact ⟨0, rfl, Nat.zero_le _, Hpl.out⟩
      case round =>
        obtain ⟨k, rfl, hk, hrel⟩ := hrel
        by_cases hlt : k < L
        · obtain ⟨x, hx⟩ : ∃ x, l[k]? = some x := ⟨_, List.getElem?_eq_getElem (by rw [← HL.out]; exact hlt)⟩
          have hk' : (k : Int) < (L : Int) := by omega
          obtain ⟨b, o, rfl, hbl, q0, q1, q2, q3, q4, ⟨A1, c1, q5, r5, s5, t5⟩, ⟨A2, c2, q6, r6, s6, t6⟩⟩ := HA.out k x hx
          have old : ∀ {i : Nat} {v : Value}, w.cell? ⟨b, i, none⟩ = some v → wr.cell? ⟨b, i, none⟩ = some v := by
            intro i v hv
            obtain ⟨P, ds, es, hr, _⟩ := hrel.out
            exact hr.cell (Hlow.out b hbl) ((Hbel.out.cell (p := ⟨b, i, none⟩) hbl).trans hv)
          have Hcells : Hid (∀ n w', Play M wo pw qw dl el n w' → ∀ {i : Nat} {v : Value}, w.cell? ⟨b, i, none⟩ = some v → w'.cell? ⟨b, i, none⟩ = some v) := by
            intro n w' hp i v hv
            obtain ⟨P, ds, es, hr, _⟩ := hp
            exact hr.cell (Hlow.out b hbl) ((Hbel.out.cell (p := ⟨b, i, none⟩) hbl).trans hv)
          have hkl : k ≤ 1048576 := by omega
          have Hready : Hid (∀ n w', n ≤ 1048577 → Play M wo pw qw dl el n w' → Ready M wo g pw qw bd be cd ce dl el n x A1 c1 A2 c2 w') := by
            intro n w' hn hp
            obtain ⟨y1, y2⟩ := Hbd.out k x hx
            obtain ⟨y3, y4, y5⟩ := Hnm.out k x hx
            refine ⟨Hra.out, hp, by omega, (r5.below Hbel.out).wide Hbel.out.size, fun hne ad e => ?_, (r6.below Hbel.out).wide Hbel.out.size, fun hne ad e => ?_, s6, y2, t6, y3, y4, y5⟩
            · obtain ⟨ad', e', hlt', _⟩ := r5 0 _ (List.getElem?_eq_getElem (List.length_pos_iff.2 hne))
              rw [e] at e'
              cases e'
              exact Hlow.out _ hlt'
            · obtain ⟨ad', e', hlt', _⟩ := r6 0 _ (List.getElem?_eq_getElem (List.length_pos_iff.2 hne))
              rw [e] at e'
              cases e'
              exact Hlow.out _ hlt'
          have p0 := old q0
          have p1 := old q1
          have p2 := old q2
          have p3 := old q3
          have p4 := old q4
          have p5 := old q5
          have p6 := old q6
          have Hq : Hid (w.cell? ⟨b, o + k * 7, none⟩ = some (.int .i64 x.op) ∧ w.cell? ⟨b, o + k * 7 + 1, none⟩ = some (.int .i64 x.drive) ∧ w.cell? ⟨b, o + k * 7 + 2, none⟩ = some (.int .i64 x.zone) ∧ w.cell? ⟨b, o + k * 7 + 3, none⟩ = some (.int .i64 x.page) ∧ w.cell? ⟨b, o + k * 7 + 4, none⟩ = some (.int .i64 x.num) ∧ w.cell? ⟨b, o + k * 7 + 5, none⟩ = some (.slice A1 x.bytes.length c1) ∧ w.cell? ⟨b, o + k * 7 + 6, none⟩ = some (.slice A2 x.picks.length c2)) := ⟨q0, q1, q2, q3, q4, q5, q6⟩
          have Hstep : Hid (Calls Try.prog 12 #[.pointer (some ⟨g, 0, none⟩), .agg #[.int .i64 x.op, .int .i64 x.drive, .int .i64 x.zone, .int .i64 x.page, .int .i64 x.num, .slice A1 x.bytes.length c1, .slice A2 x.picks.length c2]] wr fun e w' => e = .returned (.bool true) ∧ Play M wo pw qw dl el (k + 1) w') := step_any (Hready.out k wr (by omega) hrel.out)
          have Hsame : Hid (∀ w', Play M wo pw qw dl el (k + 1) w' → Calls Try.prog 13 #[.pointer (some ⟨g, 0, none⟩), .int .i64 (zn : Int)] w' fun e w' => e = .returned (.bool true) ∧ Play M wo pw qw dl el (k + 1) w') := fun w' hp => same_any (zn : Int) Hra.out hp
          clear q0 q1 q2 q3 q4 q5 q6 r5 r6 s5 s6 t5 t6 old hlt hrel hx
          go_upto_region 25 with (first
            | (go_at_call 12; refine Hstep.out.mono ?_; rintro v w5 ⟨rfl, hp5⟩; have Hs5 := Lib.hid (Hsame.out w5 hp5); clear hp5)
            | (go_at_call 13; refine Hs5.out.mono ?_; rintro v w6 ⟨rfl, hp6⟩; have Hp6 := Lib.hid hp6; clear hp6))
          clear p0 p1 p2 p3 p4 p5 p6
          obtain ⟨q0, q1, q2, q3, q4, q5, q6⟩ := Hq.out
          have p0 := Hcells.out _ _ Hp6.out q0
          have p1 := Hcells.out _ _ Hp6.out q1
          have p2 := Hcells.out _ _ Hp6.out q2
          have p3 := Hcells.out _ _ Hp6.out q3
          have p4 := Hcells.out _ _ Hp6.out q4
          have p5 := Hcells.out _ _ Hp6.out q5
          have p6 := Hcells.out _ _ Hp6.out q6
          clear q0 q1 q2 q3 q4 q5 q6 Hq Hstep Hs5 Hsame
          go_upto_region 26 with fail
          clear p0 p1 p2 p3 p4 p5 p6
          have hbx := (Hready.out (k + 1) w6 (by omega) Hp6.out).boxed rfl
          unfold Boxed actCells at hbx
          obtain ⟨w7, hw7⟩ : ∃ w7, w7 = w6.alloc (.cells #[.int .i64 x.op, .int .i64 x.drive, .int .i64 x.zone, .int .i64 x.page, .int .i64 x.num, .slice A1 x.bytes.length c1, .slice A2 x.picks.length c2] 48) := ⟨_, rfl⟩
          rw [← hw7] at hbx ⊢
          clear hw7
          generalize w6.heap.size = bx at hbx ⊢
          obtain ⟨b0, b1, b2, b3, b4, b5, b6, g0, g1, g2, g3, hj⟩ := hbx
          rw [Hdl.out] at g2 g3 hj
          obtain ⟨j, hjN, hpick⟩ := pick_of x.drive (show 1 ≤ i by omega)
          obtain ⟨d, e, P, ds, es, D, hd, he, Hst⟩ := hj j hjN
          have hmg := Hra.out.mg
          have hmd := Hra.out.md
          have hme := Hra.out.me
          have Hrd : Hid (∀ q, Calls Try.prog 14 #[.pointer (some ⟨d, 0, none⟩), .int .i64 x.zone, .int .i64 x.page] (w7.drewN q) fun v w8 => ∃ Aa ca, v = .returned (.tuple #[.slice Aa (readBytes P D x.zone x.page).length ca, .int .i64 (readCode P D x.zone x.page : Nat)]) ∧ (w8.cell? ⟨g, 2, none⟩ = some (.slice (some ⟨bd, 0, none⟩) i cd) ∧ w8.cell? ⟨bd, j, none⟩ = some (.pointer (some ⟨d, 0, none⟩)) ∧ w8.cell? ⟨g, 3, none⟩ = some (.slice (some ⟨be, 0, none⟩) i ce) ∧ w8.cell? ⟨be, j, none⟩ = some (.pointer (some ⟨e, 0, none⟩)) ∧ w8.cell? ⟨bx, 2, none⟩ = some (.int .i64 x.zone) ∧ w8.cell? ⟨bx, 3, none⟩ = some (.int .i64 x.page)) ∧
              Hid (∀ q, Calls Try.prog 15 #[.pointer (some ⟨e, 0, none⟩), .int .i64 x.zone, .int .i64 x.page] (w8.drewN q) fun v w9 => ∃ Ab cb, v = .returned (.tuple #[.slice Ab (readBytes P D x.zone x.page).length cb, .int .i64 (readCode P D x.zone x.page : Nat)]) ∧
                (convert 46 9 (.slice Aa (readBytes P D x.zone x.page).length ca)).run Try.prog w9 = .ok (.string ⟨(readBytes P D x.zone x.page).toArray⟩) w9 ∧ (convert 46 9 (.slice Ab (readBytes P D x.zone x.page).length cb)).run Try.prog w9 = .ok (.string ⟨(readBytes P D x.zone x.page).toArray⟩) w9 ∧ Hid (Play M wo pw qw dl el (k + 1) w9) ∧ w9.cell? ⟨g, 2, none⟩ = some (.slice (some ⟨bd, 0, none⟩) i cd) ∧ w9.cell? ⟨bd, j, none⟩ = some (.pointer (some ⟨d, 0, none⟩)) ∧ w9.cell? ⟨g, 3, none⟩ = some (.slice (some ⟨be, 0, none⟩) i ce) ∧ w9.cell? ⟨be, j, none⟩ = some (.pointer (some ⟨e, 0, none⟩)) ∧ w9.cell? ⟨bx, 2, none⟩ = some (.int .i64 x.zone) ∧ w9.cell? ⟨bx, 3, none⟩ = some (.int .i64 x.page))) := by
            obtain ⟨s1, s2, s3, s4, s5, s6, s7, s8, s9, s10, s11, s12, s13⟩ := Hst.out
            intro q
            refine ((s1.drewN q).read2 x.zone x.page s8 s9).mono fun v w8 ⟨Aa, ca, y1, y2, y3⟩ => ⟨Aa, ca, y1, ?_, fun q => (y3 q).mono fun v w9 ⟨Ab, cb, u1, u2, u3, u4⟩ => ⟨Ab, cb, u1, u2, u3, ⟨P, ds, es, s2 _ _ _ _ u4, s3, s4, s5, s6, s7⟩, ?_⟩⟩
            · exact ⟨y2.cell (.inl hmg) g2, y2.cell (.inl hmd) hd, y2.cell (.inl hmg) g3, y2.cell (.inl hme) he, y2.cell (.inr rfl) b2, y2.cell (.inr rfl) b3⟩
            · exact ⟨u4.cell (.inl hmg) g2, u4.cell (.inl hmd) hd, u4.cell (.inl hmg) g3, u4.cell (.inl hme) he, u4.cell (.inr rfl) b2, u4.cell (.inr rfl) b3⟩
          generalize readBytes P D x.zone x.page = bl at Hrd
          generalize readCode P D x.zone x.page = rc at Hrd
          have hjN' : (j : Int) < (i : Int) := by omega
          clear Hst hj hmg hmd hme Hready Hcells Hp6
          rcases hpick with ⟨hp0, hp1⟩ | ⟨hp0, hp1⟩
          all_goals
            go_wp2_with fail
            go_region_held3 (fun W => W.cell? ⟨g, 2, none⟩ = some (.slice (some ⟨bd, 0, none⟩) i cd) ∧ W.cell? ⟨bd, j, none⟩ = some (.pointer (some ⟨d, 0, none⟩)) ∧ W.cell? ⟨g, 3, none⟩ = some (.slice (some ⟨be, 0, none⟩) i ce) ∧ W.cell? ⟨be, j, none⟩ = some (.pointer (some ⟨e, 0, none⟩)) ∧ W.cell? ⟨bx, 2, none⟩ = some (.int .i64 x.zone) ∧ W.cell? ⟨bx, 3, none⟩ = some (.int .i64 x.page))
              (first | exact ⟨k0, k1, k2, k3, k4, k5⟩ | exact ⟨g2, hd, g3, he, b2, b3⟩)
              (first | (go_at_call 14; refine (Hrd.out _).mono ?_; rintro v w8 ⟨Aa, ca, rfl, ⟨k0, k1, k2, k3, k4, k5⟩, Hrr⟩))
            all_goals
              go_wp2_with fail
              go_region_held3 (fun W => W.cell? ⟨g, 2, none⟩ = some (.slice (some ⟨bd, 0, none⟩) i cd) ∧ W.cell? ⟨bd, j, none⟩ = some (.pointer (some ⟨d, 0, none⟩)) ∧ W.cell? ⟨g, 3, none⟩ = some (.slice (some ⟨be, 0, none⟩) i ce) ∧ W.cell? ⟨be, j, none⟩ = some (.pointer (some ⟨e, 0, none⟩)) ∧ W.cell? ⟨bx, 2, none⟩ = some (.int .i64 x.zone) ∧ W.cell? ⟨bx, 3, none⟩ = some (.int .i64 x.page))
                (first | exact ⟨m0, m1, m2, m3, m4, m5⟩ | exact ⟨k0, k1, k2, k3, k4, k5⟩)
                (first | (go_at_call 15; refine (Hrr.out _).mono ?_; rintro v w9 ⟨Ab, cb, rfl, t1, t2, Hfin, m0, m1, m2, m3, m4, m5⟩))
              all_goals
                go_wp2_with fail
                go_roundw
                case rel => exact ⟨k + 1, by go_num, by omega, Hfin.out⟩
                case measure => simp [intOf]; omega
        · obtain rfl : k = L := by omega
          have Hend : Hid (Below w.heap.size w wr) := by
            obtain ⟨P, ds, es, hr, _⟩ := hrel.out
            exact Hbel.out.trans (hr.kept.to_below (fun b hb => Hlow.out b hb) Hbel.out.size)
          clear hlt hk hrel
          go_wp2_with fail
          go_ret
          exact ⟨rfl, Hend.out⟩
end Go.Proofs.Ytdnlikhfemhmeaa
