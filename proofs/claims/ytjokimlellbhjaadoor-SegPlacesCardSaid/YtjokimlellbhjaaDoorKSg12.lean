/-
  known.
-/
import Derived.Test.YtjokimlellbhjaaDoorKSg9
import Derived.Test.YtjokimlellbhjaaDoorSg11
namespace Go.Proofs.YtjokimlellbhjaaDoor
open Go.RowKit Go.Sort Go.Lib

section
set_option maxRecDepth 20000
set_option maxHeartbeats 4000000
theorem Told.bel {w w' : World} {wb base k c B : Nat} {P G : Int} {id t : Nat} {v v' : Value} {rest b : List UInt8} {n g : Nat} (h : WrAt w wb base k c P G id t v rest) (hT : Told w w' wb base k c P G id t v rest b n g v') (hwb : B ≤ wb) (hb : B ≤ base) (hB : B ≤ w.heap.size) : Below B w w' :=
  hT.2.2.1.to_below (fun x hx => ⟨fun e => by omega, fun e => by have := (World.ownsRow.lt h.own x e).1; omega⟩) hB
theorem rowM_four (d : List UInt8) (hd : d.length ≤ 2 * 13) : (rowM 2 13 d).length = 4 := by
  have := (rowM_par (k := 2) (c := 13) (d := d) (by decide) (by decide) hd).1
  unfold rowM
  rw [List.length_append, cutN_len, this]
theorem known_any (w : World) (hT : Tab w) : Calls Tryd.prog 8 #[] w fun e w' => e = .returned (.bool true) ∧ Below w.heap.size w w' := by
  have Hwh : Hid (∀ W, Calls Tryd.prog 22 #[.agg #[.int .i64 2, .int .i64 3, .int .i64 32], .int .i64 30] W fun e w' => e = .returned (.tuple #[.int .i64 2, .int .i64 0, .int .i64 4, .int .i64 0]) ∧ Gr W w') := fun W => where_ok 2 13 3 32 (by decide) (by decide) 30 (by decide) W
  have Hnew : Hid (∀ W, Calls Tryd.prog 27 #[.agg #[.int .i64 2, .int .i64 3, .int .i64 32], .int .u64 7] W fun e w' => ∃ wb, e = .returned (.tuple #[.pointer (some ⟨wb, 0, none⟩), .int .i64 0]) ∧ W.heap.size ≤ wb ∧ Cells w' wb 90 [.int .i64 2, .int .i64 3, .int .i64 32, .int .u64 7, .int .i64 0, .slice none 0 0] ∧ Below W.heap.size W w') := fun W => by
    refine (newW_any 2 3 32 7 W).mono ?_
    rintro e w' (⟨h, _⟩ | ⟨_, h⟩)
    · exact absurd h (by decide)
    · exact h
  have Hrow : Hid (∀ W, Calls Tryd.prog 13 #[.agg #[.int .i64 2, .int .i64 3, .int .i64 32]] W fun e w' => e = .returned (.int .i64 26) ∧ Gr W w') := fun W => row_any 2 3 32 W
  have Hroom : Hid (∀ W, Calls Tryd.prog 15 #[.agg #[.int .i64 2, .int .i64 3, .int .i64 32]] W fun e w' => e = .returned (.int .i64 52) ∧ Gr W w') := fun W => sroom_any 2 3 32 (by decide) W
  obtain ⟨cs, Hcs, hmk0⟩ := make_run 27 (by decide)
  have hmk : ∀ u : World, (Instr.makeSlice 25 (.int .i64 27) (.int .i64 27)).run Tryd.prog u = .ok (.slice (some ⟨u.heap.size, 0, none⟩) 27 27) (u.alloc (.cells cs 5)) := hmk0
  obtain ⟨W1, hW1⟩ : ∃ W1, W1 = w.alloc (.cells #[.int .i64 2, .int .i64 3, .int .i64 32] 23) := ⟨_, rfl⟩
  have hC1 : Cells W1 w.heap.size 23 [.int .i64 2, .int .i64 3, .int .i64 32] := by rw [hW1]; exact Cells.new w _ _
  have hB1 : Below w.heap.size w W1 := by rw [hW1]; exact (Below.refl _ _).alloc (Nat.le_refl _) _
  have HF : Hid (∀ W, Below W1.heap.size W1 W → Below w.heap.size w W ∧ W.cell? ⟨w.heap.size, 0, none⟩ = some (.int .i64 2) ∧ W.cell? ⟨w.heap.size, 1, none⟩ = some (.int .i64 3) ∧ W.cell? ⟨w.heap.size, 2, none⟩ = some (.int .i64 32) ∧ Tab W ∧ 0 < W1.heap.size ∧ W1.heap.size ≤ W.heap.size) := fun W hb => by
    have hc := hC1.move (hb.block _ hC1.lt)
    have hb2 : Below w.heap.size w W := hB1.trans (hb.mono hB1.size)
    have hl : 0 < w.heap.size := World.block_lt_of_cell? _ _ (hT 0 (by decide))
    exact ⟨hb2, hc.cell rfl, hc.cell rfl, hc.cell rfl, hT.below hb2 hT.pos, Nat.lt_of_lt_of_le hl hB1.size, hb.size⟩
  obtain ⟨b, hb⟩ : ∃ b, b = W1.heap.size := ⟨_, rfl⟩
  rw [← hb] at HF
  have Hadd : Hid (∀ W wb, WrAt W wb b 2 13 3 32 7 0 (.slice none 0 0) [] → Tab W → b ≤ W.heap.size → Calls Tryd.prog 31 #[.pointer (some ⟨wb, 0, none⟩), .slice (some ⟨W.heap.size, 0, none⟩) 27 27] (W.alloc (.cells cs 5)) fun e w' =>
      ∃ g v' A c rest, e = .returned (.tuple #[.int .i64 0, .slice (some ⟨g, 0, none⟩) 1 1, .int .i64 0]) ∧ rest.length = 1 ∧ WrAt w' wb b 2 13 3 32 7 1 v' rest ∧ w'.cell? ⟨g, 0, none⟩ = some (.slice A 4 c) ∧ W.heap.size ≤ g ∧ g < w'.heap.size ∧ (∀ x, v'.ownBlock = some x → g < x) ∧ (b ≤ wb → Below b W w')) := fun W wb h hTW hbW => by
    have hG : Gr W (W.alloc (.cells cs 5)) := Gr.alloc _ _
    have hbb := RB.new W cs 5 (List.replicate 27 0) (by rw [Hcs.out])
    have hsz : (W.alloc (.cells cs 5)).heap.size = W.heap.size + 1 := by simp
    rw [← hsz] at hbb
    refine (wadd_any (h.below hG.below) (hTW.below hG.below hTW.pos) _ 27 _ hbb (by decide) (by omega)).mono ?_
    rintro e w' (⟨q, _⟩ | ⟨_, q, _⟩ | ⟨_, _, n, g, v', hn, he, hq⟩)
    · exact absurd q (by decide)
    · exact absurd q (by decide)
    · have hn1 : n = 1 := hn
      subst hn1
      have hT' : Told W w' wb b 2 13 3 32 7 0 (.slice none 0 0) [] (List.replicate 27 0) 1 g v' := Told.gr hG hq
      obtain ⟨⟨B, q1, q2, q3, q4⟩, q5, _⟩ := hT'
      obtain ⟨b', o, A', c, e1, h1, h2, h3, _⟩ := q3 0 _ (rowsM_get (by rw [cutN_len]; decide))
      cases e1
      rw [pageM_len, rowM_four _ (by decide)] at h3
      refine ⟨g, v', A', c, _, he, by decide, q5, h3, h1, by omega, fun x hx => ?_, fun hw => Told.bel h (Told.gr hG hq) hw (Nat.le_refl _) hbW⟩
      rcases q4 with q4 | q4
      · omega
      · have := q4 x hx
        omega
  have Hpad : Hid (∀ W wb v rest g, WrAt W wb b 2 13 3 32 7 1 v rest → rest.length = 1 → Tab W → b ≤ W.heap.size → g < W.heap.size → wb ≠ g → (∀ x, v.ownBlock = some x → g < x) → Calls Tryd.prog 29 #[.pointer (some ⟨wb, 0, none⟩)] W fun e w' =>
      ∃ g' v' rest', e = .returned (.slice (some ⟨g', 0, none⟩) 1 1) ∧ rest'.length = 0 ∧ WrAt w' wb b 2 13 3 32 7 2 v' rest' ∧ w'.cell? ⟨g, 0, none⟩ = W.cell? ⟨g, 0, none⟩ ∧ (b ≤ wb → Below b W w')) := fun W wb v rest g h hl hTW hbW hgW hne hx => by
    refine (wpad_any h hTW hbW (fun _ => by decide)).mono ?_
    rintro e w' (⟨q, _⟩ | ⟨_, g', v', he, hq⟩)
    · omega
    · refine ⟨g', v', _, he, ?_, hq.2.1, ?_, fun hw => Told.bel h hq hw (Nat.le_refl _) hbW⟩
      · rw [List.length_drop, List.length_append, List.length_replicate]; omega
      · exact World.cell?_of_block (hq.2.2.1.block g hgW ⟨fun e => hne e.symm, fun e => by have := hx g e; omega⟩)
  have Hsz : Hid (∀ W wb v rest, WrAt W wb b 2 13 3 32 7 2 v rest → rest.length = 0 → Calls Tryd.prog 33 #[.pointer (some ⟨wb, 0, none⟩)] W fun e w' => e = .returned (.int .i64 52) ∧ Gr W w') := fun W wb v rest h hl => by
    have := size_any h
    rw [hl] at this
    exact this
  have HB0 : Hid (∀ W, Gr W1 W → Below b W1 W) := fun W hg => by rw [hb]; exact hg.below
  obtain ⟨_, x0, x1, x2, _⟩ := HF.out W1 (HB0.out W1 (Gr.refl _))
  clear hT hmk0 hC1 hB1 hb
  go_enter Tryd.func8, Tryd.ntmps8
  go_wp2_with fail
  rw [← hW1]
  clear hW1
  refine (Hwh.out W1).mono ?_
  rintro e w2 ⟨rfl, hg2⟩
  have H2 : Hid (Below b W1 w2) := HB0.out w2 hg2
  obtain ⟨_, y0, y1, y2, _⟩ := HF.out w2 H2.out
  clear hg2 x0 x1 x2 Hwh
  go_wp2_with fail
  refine (Hnew.out w2).mono ?_
  rintro e w3 ⟨wb, rfl, hwb, hC3, hb3⟩
  have H3 : Hid (Below b W1 w3 ∧ b ≤ wb ∧ wb < w3.heap.size ∧ WrAt w3 wb b 2 13 3 32 7 0 (.slice none 0 0) []) := by
    have hb9 := H2.out.trans (hb3.mono (HF.out w2 H2.out).2.2.2.2.2.2)
    have h9 := (HF.out w2 H2.out).2.2.2.2.2
    exact ⟨hb9, by omega, hC3.lt, ⟨hC3, Own.nil _ _, by decide, by decide, by decide, by decide, by decide, h9.1⟩⟩
  have Ha := Lib.hid (Hadd.out w3 wb H3.out.2.2.2 (HF.out w3 H3.out.1).2.2.2.2.1 (HF.out w3 H3.out.1).2.2.2.2.2.2)
  clear hwb hC3 hb3 y0 y1 y2 Hnew Hadd
  go_wp2_with fail
  refine Ha.out.mono ?_
  rintro e w4 ⟨g, v4, A4, c4, rest4, rfl, hl4, hw4, hc4, hg4, hg4', hx4, hb4⟩
  have H4 : Hid (Below b W1 w4 ∧ w4.cell? ⟨g, 0, none⟩ = some (.slice A4 4 c4) ∧ g < w4.heap.size) := ⟨H3.out.1.trans (hb4 H3.out.2.1), hc4, hg4'⟩
  have Hp := Lib.hid (Hpad.out w4 wb v4 rest4 g hw4 hl4 (HF.out w4 H4.out.1).2.2.2.2.1 (HF.out w4 H4.out.1).2.2.2.2.2.2 hg4' (by have := H3.out.2.2.1; omega) hx4)
  clear hl4 hw4 hc4 hg4 hg4' hx4 hb4 Ha Hpad
  go_wp2_with fail
  refine Hp.out.mono ?_
  rintro e w5 ⟨g5, v5, rest5, rfl, hl5, hw5, hc5, hb5⟩
  have H5 : Hid (Below b W1 w5 ∧ w5.cell? ⟨g, 0, none⟩ = some (.slice A4 4 c4) ∧ g < w5.heap.size ∧ WrAt w5 wb b 2 13 3 32 7 2 v5 rest5 ∧ rest5.length = 0) := by
    have hb9 := hb5 H3.out.2.1
    exact ⟨H4.out.1.trans hb9, hc5.trans H4.out.2.1, Nat.lt_of_lt_of_le H4.out.2.2 hb9.size, hw5, hl5⟩
  obtain ⟨_, y0, y1, y2, _⟩ := HF.out w5 H5.out.1
  clear hl5 hw5 hc5 hb5 Hp H4 H2
  go_wp2_with fail
  refine (Hrow.out w5).mono ?_
  rintro e w6 ⟨rfl, hg6⟩
  have H6 : Hid (Gr w5 w6 ∧ Below b W1 w6) := ⟨hg6, H5.out.1.trans (hg6.below.mono (HF.out w5 H5.out.1).2.2.2.2.2.2)⟩
  clear hg6 y0 y1 y2
  obtain ⟨_, y0, y1, y2, _⟩ := HF.out w6 H6.out.2
  go_wp2_with fail
  refine (Hroom.out w6).mono ?_
  rintro e w7 ⟨rfl, hg7⟩
  have H7 : Hid (Gr w5 w7 ∧ Below b W1 w7) := ⟨H6.out.1.trans hg7, H6.out.2.trans (hg7.below.mono (HF.out w6 H6.out.2).2.2.2.2.2.2)⟩
  clear hg7 y0 y1 y2
  have z := (H7.out.1.below.cell (p := ⟨g, 0, none⟩) H5.out.2.2.1).trans H5.out.2.1
  have Hs := Lib.hid (Hsz.out w7 wb v5 rest5 (H5.out.2.2.2.1.below H7.out.1.below) H5.out.2.2.2.2)
  go_wp2_with fail
  refine Hs.out.mono ?_
  rintro e w8 ⟨rfl, hg8⟩
  have H8 : Hid (Below b W1 w8) := H7.out.2.trans (hg8.below.mono (HF.out w7 H7.out.2).2.2.2.2.2.2)
  clear hg8
  go_wp2_with fail
  go_ret
  exact ⟨rfl, (HF.out w8 H8.out).1⟩
end
end Go.Proofs.YtjokimlellbhjaaDoor

/-
  SegPlaces: the law's walk.
-/
namespace Go.Proofs.YtjokimlellbhjaaDoor
open Go.RowKit Go.Sort Go.Lib

theorem place_lt {na nb k c : Nat} (hc : 0 < c) (hk : 0 < k) (h : na < nb) : na / (k * c) < nb / (k * c) ∨ (na / (k * c) = nb / (k * c) ∧ (na % (k * c) / c < nb % (k * c) / c ∨ (na % (k * c) / c = nb % (k * c) / c ∧ na % c < nb % c))) := by
  have hd : c ∣ k * c := Nat.dvd_mul_left c k
  have e1 := Nat.mod_mod_of_dvd na hd
  have e2 := Nat.mod_mod_of_dvd nb hd
  rcases Nat.lt_or_eq_of_le (Nat.div_le_div_right (c := k * c) (Nat.le_of_lt h)) with q | q
  · exact .inl q
  · refine .inr ⟨q, ?_⟩
    have m1 := Nat.div_add_mod na (k * c)
    have m2 := Nat.div_add_mod nb (k * c)
    rw [q] at m1
    have hm : na % (k * c) < nb % (k * c) := by omega
    rw [← e1, ← e2]
    generalize na % (k * c) = x at *
    generalize nb % (k * c) = y at *
    rcases Nat.lt_or_eq_of_le (Nat.div_le_div_right (c := c) (Nat.le_of_lt hm)) with q2 | q2
    · exact .inl q2
    · have m3 := Nat.div_add_mod x c
      have m4 := Nat.div_add_mod y c
      rw [q2] at m3
      exact .inr ⟨q2, by omega⟩
section
set_option maxRecDepth 20000
set_option maxHeartbeats 4000000
theorem places_any (K P G a b : Int) (hP : -9223372036854775808 ≤ P ∧ P ≤ 9223372036854775807) (w : World) (hT : Tab w) : Calls Tryd.prog 6 #[shV K P G, .int .i64 a, .int .i64 b] w fun e w' => e = .returned (.bool true) ∧ Below w.heap.size w w' := by
  obtain ⟨W1, hW1⟩ : ∃ W1, W1 = w.alloc (.cells #[.int .i64 K, .int .i64 P, .int .i64 G] 23) := ⟨_, rfl⟩
  have hC1 : Cells W1 w.heap.size 23 [.int .i64 K, .int .i64 P, .int .i64 G] := by rw [hW1]; exact Cells.new w _ _
  have hB1 : Below w.heap.size w W1 := by rw [hW1]; exact (Below.refl _ _).alloc (Nat.le_refl _) _
  have HF : Hid (∀ W, Below W1.heap.size W1 W → Below w.heap.size w W ∧ W.cell? ⟨w.heap.size, 0, none⟩ = some (.int .i64 K) ∧ W.cell? ⟨w.heap.size, 1, none⟩ = some (.int .i64 P) ∧ W.cell? ⟨w.heap.size, 2, none⟩ = some (.int .i64 G)) := fun W hb => by
    have hc := hC1.move (hb.block _ hC1.lt)
    exact ⟨hB1.trans (hb.mono hB1.size), hc.cell rfl, hc.cell rfl, hc.cell rfl⟩
  have HG : Hid (∀ W W', Below W1.heap.size W1 W → Gr W W' → Below W1.heap.size W1 W') := fun W W' hb hg => hb.trans (hg.below.mono hb.size)
  have Hkn := Lib.hid (known_any W1 (hT.below hB1 hT.pos))
  have Hck := Lib.hid fun W => check_any K P G W
  have Hrm := Lib.hid fun W => sroom_any K P G hP W
  have HA : Hid (∀ W, Gr W (W.alloc (.cells #[.int .i64 K, .int .i64 P, .int .i64 G] 23))) := fun W => Gr.alloc W _
  unfold shV at *
  clear hC1 hB1 hT
  rcases hok : okS K P G with _ | _
  · rw [chkS_no hok] at Hck
    clear hok
    go_enter Tryd.func6, Tryd.ntmps6
    go_wp2_with fail
    rw [← hW1]
    clear hW1
    refine Hkn.out.mono ?_
    rintro e w2 ⟨rfl, hb2⟩
    have H2 := Lib.hid hb2
    obtain ⟨_, y0, y1, y2⟩ := HF.out w2 hb2
    clear hb2 Hkn
    go_wp2_with fail
    refine (Hck.out w2).mono ?_
    rintro e w3 ⟨rfl, hw3⟩
    have H3 : Hid (Below W1.heap.size W1 w3) := HG.out w2 w3 H2.out (by rw [hw3]; exact HA.out w2)
    clear hw3 y0 y1 y2
    go_wp2_with fail
    go_ret
    exact ⟨rfl, (HF.out w3 H3.out).1⟩
  rw [chkS_ok hok] at Hck
  by_cases ha : a < 0
  · clear hok
    go_enter Tryd.func6, Tryd.ntmps6
    go_wp2_with fail
    rw [← hW1]
    clear hW1
    refine Hkn.out.mono ?_
    rintro e w2 ⟨rfl, hb2⟩
    have H2 := Lib.hid hb2
    obtain ⟨_, y0, y1, y2⟩ := HF.out w2 hb2
    clear hb2 Hkn
    go_wp2_with fail
    refine (Hck.out w2).mono ?_
    rintro e w3 ⟨rfl, hw3⟩
    have H3 : Hid (Below W1.heap.size W1 w3) := HG.out w2 w3 H2.out (by rw [hw3]; exact HA.out w2)
    clear hw3 y0 y1 y2
    go_wp2_with fail
    go_ret
    exact ⟨rfl, (HF.out w3 H3.out).1⟩
  by_cases hba : b < a
  · clear hok
    go_enter Tryd.func6, Tryd.ntmps6
    go_wp2_with fail
    rw [← hW1]
    clear hW1
    refine Hkn.out.mono ?_
    rintro e w2 ⟨rfl, hb2⟩
    have H2 := Lib.hid hb2
    obtain ⟨_, y0, y1, y2⟩ := HF.out w2 hb2
    clear hb2 Hkn
    go_wp2_with fail
    refine (Hck.out w2).mono ?_
    rintro e w3 ⟨rfl, hw3⟩
    have H3 : Hid (Below W1.heap.size W1 w3) := HG.out w2 w3 H2.out (by rw [hw3]; exact HA.out w2)
    clear hw3 y0 y1 y2
    go_wp2_with fail
    go_ret
    exact ⟨rfl, (HF.out w3 H3.out).1⟩
  by_cases hbr : roomS K P G ≤ b
  · clear hok
    generalize roomS K P G = RR at *
    go_enter Tryd.func6, Tryd.ntmps6
    go_wp2_with fail
    rw [← hW1]
    clear hW1
    refine Hkn.out.mono ?_
    rintro e w2 ⟨rfl, hb2⟩
    have H2 := Lib.hid hb2
    obtain ⟨_, y0, y1, y2⟩ := HF.out w2 hb2
    clear hb2 Hkn
    go_wp2_with fail
    refine (Hck.out w2).mono ?_
    rintro e w3 ⟨rfl, hw3⟩
    have H3 : Hid (Below W1.heap.size W1 w3) := HG.out w2 w3 H2.out (by rw [hw3]; exact HA.out w2)
    clear hw3 y0 y1 y2
    obtain ⟨_, y0, y1, y2⟩ := HF.out w3 H3.out
    go_wp2_with fail
    refine (Hrm.out w3).mono ?_
    rintro e w4 ⟨rfl, hg4⟩
    have H4 := Lib.hid (HG.out w3 w4 H3.out hg4)
    clear hg4 y0 y1 y2
    go_wp2_with fail
    go_ret
    exact ⟨rfl, (HF.out w4 H4.out).1⟩
  obtain ⟨h1, h2, h3, h4, h5, h6, _⟩ := okS_facts hok
  obtain ⟨na, rfl⟩ : ∃ na : Nat, a = (na : Int) := ⟨a.toNat, by omega⟩
  obtain ⟨nb, rfl⟩ : ∃ nb : Nat, b = (nb : Int) := ⟨b.toNat, by omega⟩
  obtain ⟨k, rfl⟩ : ∃ k : Nat, K = (k : Int) := ⟨K.toNat, by omega⟩
  obtain ⟨c, hcG⟩ : ∃ c : Nat, roomOf G = (c : Int) := ⟨(roomOf G).toNat, by omega⟩
  rw [hcG] at h5 h6
  have hrv : rowS k P G = ((k * c : Nat) : Int) := by rw [rowS_ok hok, hcG]; simp
  have hRb : k * c ≤ 32 * 65535 := Nat.mul_le_mul (by omega) (by omega)
  have hR1 : 1 ≤ k * c := Nat.mul_pos (by omega) (by omega)
  obtain ⟨p, hp⟩ : ∃ p : Nat, P = (p : Int) + 1 := ⟨(P - 1).toNat, by omega⟩
  have hRR : roomS k P G = (((k * c) * p : Nat) : Int) := by
    unfold roomS
    rw [hrv, hp]
    simp
  have hab : na ≤ nb := by omega
  have hbR : nb < (k * c) * p := by omega
  have hp2 : (k * c) * p ≤ (32 * 65535) * 4095 := Nat.mul_le_mul hRb (by omega)
  have hlim : ∀ x : Nat, x ≤ nb → x / (k * c) < p ∧ x % (k * c) / c < k := fun x hx => ⟨Nat.div_lt_of_lt_mul (by omega), Nat.div_lt_of_lt_mul (by rw [Nat.mul_comm c k]; exact Nat.mod_lt _ hR1)⟩
  have Hwa := Lib.hid fun W => where_ok k c P G hok hcG na (by omega) W
  have Hwb := Lib.hid fun W => where_ok k c P G hok hcG nb (by omega) W
  have Hsp := Lib.hid fun W => span_ok k c P G hok hcG na (nb - na + 1) (by omega) (by omega) W
  rw [show na + (nb - na + 1) - 1 = nb by omega] at Hsp
  obtain ⟨la1, la2⟩ := hlim na hab
  obtain ⟨lb1, lb2⟩ := hlim nb (Nat.le_refl _)
  have hplace := @place_lt na nb k c (by omega) (by omega)
  have hn : IntKind.i64.wrap (IntKind.i64.wrap ((nb : Int) - (na : Int)) + 1) = ((nb - na + 1 : Nat) : Int) := by
    rw [show IntKind.i64.wrap ((nb : Int) - (na : Int)) = (nb : Int) - (na : Int) from by rw [IntKind.wrap_i64]; omega, IntKind.wrap_i64]; omega
  have hn2 : (nb : Int) - (na : Int) + 1 = ((nb - na + 1 : Nat) : Int) := by omega
  have f1 : (1 : Int) ≤ ((1 + na / (k * c) : Nat) : Int) ∧ ((1 + na / (k * c) : Nat) : Int) < P ∧ (0 : Int) ≤ ((na % (k * c) / c : Nat) : Int) ∧ ((na % (k * c) / c : Nat) : Int) < (k : Int) := by
    generalize na / (k * c) = z1 at *
    generalize na % (k * c) / c = z2 at *
    omega
  have fE : na = nb → ((1 + na / (k * c) : Nat) : Int) = ((1 + nb / (k * c) : Nat) : Int) ∧ ((na % (k * c) / c : Nat) : Int) = ((nb % (k * c) / c : Nat) : Int) ∧ ((na % c : Nat) : Int) = ((nb % c : Nat) : Int) := fun h => by subst h; exact ⟨rfl, rfl, rfl⟩
  have fL : na < nb → ((1 + na / (k * c) : Nat) : Int) < ((1 + nb / (k * c) : Nat) : Int) ∨ ((1 + na / (k * c) : Nat) : Int) = ((1 + nb / (k * c) : Nat) : Int) ∧ (((na % (k * c) / c : Nat) : Int) < ((nb % (k * c) / c : Nat) : Int) ∨ ((na % (k * c) / c : Nat) : Int) = ((nb % (k * c) / c : Nat) : Int) ∧ ((na % c : Nat) : Int) < ((nb % c : Nat) : Int)) := fun h => by
    have := hplace h
    generalize na / (k * c) = z1 at *
    generalize nb / (k * c) = z2 at *
    generalize na % (k * c) / c = z3 at *
    generalize nb % (k * c) / c = z4 at *
    generalize na % c = z5 at *
    generalize nb % c = z6 at *
    omega
  have hn9 : 1 ≤ nb - na + 1 := by omega
  have b0 : ¬ (na : Int) < 0 := ha
  have b1 : (nb : Int) < roomS (k : Int) P G := by omega
  have b2 : (nb : Int) ≤ 17179869184 := by omega
  clear hplace la1 la2 lb1 lb2 hlim hRR hrv hRb hR1 hp2 hbR hbr hp h5 h6 hcG hok h1 h2 h3 h4 ha
  generalize ((1 + na / (k * c) : Nat) : Int) = R1 at *
  generalize ((1 + nb / (k * c) : Nat) : Int) = R2 at *
  generalize ((na % (k * c) / c : Nat) : Int) = S1 at *
  generalize ((nb % (k * c) / c : Nat) : Int) = S2 at *
  generalize ((na % c : Nat) : Int) = O1 at *
  generalize ((nb % c : Nat) : Int) = O2 at *
  generalize roomS (k : Int) P G = RR at *
  have hn3 : IntKind.i64.wrap ((nb : Int) - (na : Int) + 1) = ((nb - na + 1 : Nat) : Int) := by rw [hn2, IntKind.wrap_i64]; omega
  generalize nb - na + 1 = nn at *
  have HfE := Lib.hid fE
  have HfL := Lib.hid fL
  have HP : Hid True := trivial
  obtain ⟨g1, g2, g3, g4⟩ := f1
  have hab' : ¬ (nb : Int) < (na : Int) := by omega
  have b3 : ¬ RR ≤ (nb : Int) := by omega
  clear fE fL hab
  go_enter Tryd.func6, Tryd.ntmps6
  go_wp2_with fail
  rw [← hW1]
  clear hW1
  refine Hkn.out.mono ?_
  rintro e w2 ⟨rfl, hb2⟩
  have H2 := Lib.hid hb2
  obtain ⟨_, y0, y1, y2⟩ := HF.out w2 hb2
  clear hb2 Hkn
  go_wp2_with fail
  refine (Hck.out w2).mono ?_
  rintro e w3 ⟨rfl, hw3⟩
  have H3 : Hid (Below W1.heap.size W1 w3) := HG.out w2 w3 H2.out (by rw [hw3]; exact HA.out w2)
  clear hw3 y0 y1 y2
  obtain ⟨_, y0, y1, y2⟩ := HF.out w3 H3.out
  go_wp2_with fail
  refine (Hrm.out w3).mono ?_
  rintro e w4 ⟨rfl, hg4⟩
  have H4 := Lib.hid (HG.out w3 w4 H3.out hg4)
  clear hg4 y0 y1 y2
  obtain ⟨_, y0, y1, y2⟩ := HF.out w4 H4.out
  go_wp2_with fail
  refine (Hwa.out w4).mono ?_
  rintro e w5 ⟨rfl, hg5⟩
  have H5 := Lib.hid (HG.out w4 w5 H4.out hg5)
  clear hg5 y0 y1 y2
  obtain ⟨_, y0, y1, y2⟩ := HF.out w5 H5.out
  go_wp2_with fail
  refine (Hwb.out w5).mono ?_
  rintro e w6 ⟨rfl, hg6⟩
  have H6 := Lib.hid (HG.out w5 w6 H5.out hg6)
  clear hg6 y0 y1 y2
  obtain ⟨_, y0, y1, y2⟩ := HF.out w6 H6.out
  go_wp2_with fail
  refine (Hsp.out w6).mono ?_
  rintro e w7 ⟨rfl, hg7⟩
  have H7 := Lib.hid (HG.out w6 w7 H6.out hg7)
  clear hg7 y0 y1 y2
  obtain ⟨_, y0, y1, y2⟩ := HF.out w7 H7.out
  by_cases hE : na = nb
  · obtain ⟨e1, e2, e3⟩ := HfE.out hE
    subst hE e1 e2 e3
    go_wp2_with fail
    go_ret
    exact ⟨by trivial, (HF.out w7 H7.out).1⟩
  have hL : na < nb := by omega
  have hL' : (na : Int) < (nb : Int) := by omega
  have hE2 : ¬ (na : Int) = (nb : Int) := by omega
  have hE1 : ((na : Int) == (nb : Int)) = false := beq_eq_false_iff_ne.2 hE2
  rcases HfL.out hL with q | ⟨rfl, q | ⟨rfl, q⟩⟩
  · have q2 : ¬ R1 = R2 := by omega
    have q1 : (R1 == R2) = false := beq_eq_false_iff_ne.2 q2
    go_wp2_with fail
    go_ret
    exact ⟨by trivial, (HF.out w7 H7.out).1⟩
  · have q2 : ¬ S1 = S2 := by omega
    have q1 : (S1 == S2) = false := beq_eq_false_iff_ne.2 q2
    go_wp2_with fail
    go_ret
    exact ⟨by trivial, (HF.out w7 H7.out).1⟩
  · have q2 : ¬ O1 = O2 := by omega
    have q1 : (O1 == O2) = false := beq_eq_false_iff_ne.2 q2
    have q3 : O1 ≤ O2 := by omega
    go_wp2_with fail
    go_ret
    exact ⟨by trivial, (HF.out w7 H7.out).1⟩
end
end Go.Proofs.YtjokimlellbhjaaDoor
