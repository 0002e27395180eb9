/-
  Pages: a row's pages.
-/
import Derived.Test.YtlficcdbnmheeaaDoorSg4
import Derived.Test.YtlficcdbnmheeaaDoorKRs8
import Derived.Test.YtlficcdbnmheeaaDoorKGf25
import Derived.Test.YtlficcdbnmheeaaDoorKGet
import Derived.Deep.RegionHeld3
import Derived.Test.YtlficcdbnmheeaaDoorKOwnV
namespace Go.Proofs.YtlficcdbnmheeaaDoor
open Go.RowKit Go.Sort Go.Lib

/-- bytes 0 behind them, up to R -/
def padN (R : Nat) (d : List UInt8) : List UInt8 := d ++ List.replicate (R - d.length) 0
theorem padN_len {R : Nat} {d : List UInt8} (h : d.length ≤ R) : (padN R d).length = R := by simp [padN]; omega
/-- a row's payloads -/
def rowM (k c : Nat) (d : List UInt8) : Mtx := cutN (padN (k * c) d) c k ++ parL k (cutN (padN (k * c) d) c k)
theorem cutN_par {k c : Nat} {b : List UInt8} (_hk : 1 ≤ k) (hc : 1 ≤ c) (hb : b.length = k * c) : parB k (cutN b c k) = true :=
  par_yes (n := c) (cutN_len _ _ _) hc fun i l hl => cutN_row (by omega) hl
theorem rowM_par {k c : Nat} {d : List UInt8} (hk : 1 ≤ k) (hc : 1 ≤ c) (hd : d.length ≤ k * c) : (parL k (cutN (padN (k * c) d) c k)).length = 2 ∧ parE k (cutN (padN (k * c) d) c k) = 0 ∧ ∀ (i : Nat) (l : List UInt8), (parL k (cutN (padN (k * c) d) c k))[i]? = some l → l.length = c := by
  have hp := cutN_par hk hc (padN_len hd)
  have hh : ((cutN (padN (k * c) d) c k).headD []).length = c := by
    have h0 : (cutN (padN (k * c) d) c k)[0]? = some _ := cutN_get (by omega)
    have h1 := cutN_row (b := padN (k * c) d) (c := c) (n := k) (by rw [padN_len hd]; exact Nat.le_refl _) h0
    have h2 : (cutN (padN (k * c) d) c k).headD [] = ((padN (k * c) d).drop (0 * c)).take c := by
      rw [List.headD_eq_head?_getD, List.head?_eq_getElem?, h0]; rfl
    rw [h2]; exact h1
  unfold parL parE
  rw [if_pos hp, if_pos hp, hh]
  refine ⟨by rw [linM_length]; rfl, rfl, fun i l hl => ?_⟩
  have hrow : ∀ (k' : Nat) (l : List UInt8), (cutN (padN (k * c) d) c k)[k']? = some l → l.length = c := fun k' l hl => cutN_row (b := padN (k * c) d) (c := c) (n := k) (by rw [padN_len hd]; exact Nat.le_refl _) hl
  simp only [linM, List.getElem?_map, Option.map_eq_some_iff] at hl
  obtain ⟨r, hr, rfl⟩ := hl
  refine lin_length ?_ hrow
  simp only [pairsM] at hr
  rw [cutN_len]
  match i with
  | 0 => simp at hr; subst hr; simp
  | 1 => simp at hr; subst hr; simp
  | i + 2 => simp at hr
theorem rowM_len {k c : Nat} {d : List UInt8} (hk : 1 ≤ k) (hc : 1 ≤ c) (hd : d.length ≤ k * c) : (rowM k c d).length = k + 2 := by
  rw [rowM, List.length_append, cutN_len, (rowM_par hk hc hd).1]
theorem rowM_row {k c : Nat} {d : List UInt8} (hk : 1 ≤ k) (hc : 1 ≤ c) (hd : d.length ≤ k * c) {i : Nat} {l : List UInt8} (hl : (rowM k c d)[i]? = some l) : l.length = c := by
  unfold rowM at hl
  by_cases hi : i < (cutN (padN (k * c) d) c k).length
  · rw [List.getElem?_append_left hi] at hl
    exact cutN_row (by rw [padN_len hd]; exact Nat.le_refl _) hl
  · rw [List.getElem?_append_right (by omega)] at hl
    exact (rowM_par hk hc hd).2.2 _ l hl
/-- the pieces' headers read as the pieces -/
theorem cut_rowsV {w : World} {blk o c n : Nat} {b : List UInt8} (hr : RB w w.heap.size (some ⟨blk, o, none⟩) b) (hn : n * c ≤ b.length) : RowsV w (hdrC blk o c n) (cutN b c n) :=
  ⟨by rw [hdrC_len, cutN_len], fun i r l hh hl => by
    have hi : i < n := by have := (List.getElem?_eq_some_iff.1 hl).1; rwa [cutN_len] at this
    have hlen := cutN_row hn hl
    rw [hdrC_get hi] at hh
    rw [cutN_get hi] at hl
    cases hh
    cases hl
    exact ⟨_, c, by rw [hlen], cutN_rb hr hn hi, by rw [hlen]; exact Nat.le_refl _⟩⟩
theorem cut_own {w : World} {g blk o c n base : Nat} (hc : Cells w g 25 (hdrC blk o c n)) (hb : base ≤ g) (hn : n ≤ 4096) : OwnV w base 25 (.slice (some ⟨g, 0, none⟩) n n) (hdrC blk o c n) := by
  have h := OwnV.mk (cap := n) hb hc (xs := hdrC blk o c n) (by rw [hdrC_len]; exact Nat.le_refl _) (by simp only [maxLen]; omega) (by rw [hdrC_len]) (by rw [hdrC_len, List.take_of_length_le (by rw [hdrC_len]; exact Nat.le_refl _)])
  rwa [hdrC_len] at h
theorem pageErr_zero {G row : Int} {c i : Nat} (h : roomOf G = (c : Int)) (hc : 1 ≤ c) (h0 : 0 ≤ row) (h1 : row ≤ 4096) (hi : i ≤ 255) : pageErr G row (i : Int) c = 0 := by
  unfold pageErr
  rw [if_neg (by rw [h]; omega), if_neg (by rw [h]; omega)]
/-- what Pages makes on the way, behind the parity -/
structure PgSt (w w8 : World) (K P G : Int) (g wb k c : Nat) (d : List UInt8) (gc cc : Nat) (rows : List Value) : Prop where
  sh : Cells w8 w.heap.size 23 [.int .i64 K, .int .i64 P, .int .i64 G]
  hd : Cells w8 g 25 (hdrC wb 0 c k)
  wh : Blk w8 wb (padN (k * c) d)
  wbg : wb < g
  low : w.heap.size < wb
  two : rows.length = 2
  cell : ∀ (i : Nat) (r : Value), rows[i]? = some r → w8.cell? ⟨gc, i, none⟩ = some r
  par : ∀ (w' : World) (x : Nat), w8.grownBy w' (some x) → x = g → RowsV w' rows (parL k (cutN (padN (k * c) d) c k))
  one : ∀ u ∈ rows, u.oneCell' = true
  bel : Below w.heap.size w w8
section
set_option maxRecDepth 20000
set_option maxHeartbeats 4000000
variable {w : World}
theorem pages_ok (k c cp : Nat) (P G row : Int) (id : Nat) (A : Option Addr) (d : List UInt8) (hok : okS k P G = true) (hcG : roomOf G = (c : Int)) (hrow : 1 ≤ row ∧ row < P) (hr : RB w w.heap.size A d) (hd : d.length ≤ k * c) (hdc : d.length ≤ cp) (ht : Tab w) (hid : id < two64) :
    Calls Tryd.prog 21 #[shV k P G, .int .u64 (id : Int), .int .i64 row, .slice A d.length cp] w fun e w' => ∃ g, e = .returned (.tuple #[.slice (some ⟨g, 0, none⟩) (k + 2) (k + 2), .int .i64 0]) ∧ RML w' w.heap.size w'.heap.size (some ⟨g, 0, none⟩) (pageM G row id (rowM k c d)) ∧ Below w.heap.size w w' := by
  obtain ⟨h1, h2, h3, h4, h5, h6, h7, h8⟩ := okS_facts hok
  have hk1 : 1 ≤ k := by omega
  have hk2 : k ≤ 32 := by omega
  have hc1 : 13 ≤ c := by omega
  have hc2 : c ≤ 65535 := by omega
  have hrv : rowS k P G = ((k * c : Nat) : Int) := by rw [rowS_ok hok, hcG]; simp
  have hR2 : k * c ≤ 32 * 65535 := Nat.mul_le_mul hk2 hc2
  have hR1 : 1 * 13 ≤ k * c := Nat.mul_le_mul hk1 hc1
  obtain ⟨W1, hW1⟩ : ∃ W1, W1 = w.alloc (.cells #[.int .i64 (k : Int), .int .i64 P, .int .i64 G] 23) := ⟨_, rfl⟩
  have hG1 : Gr w W1 := by rw [hW1]; exact Gr.alloc w _
  have hC1 : Cells W1 w.heap.size 23 [.int .i64 (k : Int), .int .i64 P, .int .i64 G] := by rw [hW1]; exact Cells.new w _ _
  have Hck := Lib.hid (check_any (k : Int) P G W1)
  rw [chkS_ok hok] at Hck
  unfold shV at Hck
  have Hrow := Lib.hid fun W => row_any (k : Int) P G W
  rw [hrv] at Hrow
  unfold shV at Hrow
  obtain ⟨R, hR⟩ : ∃ R, R = k * c := ⟨_, rfl⟩
  rw [← hR] at Hrow
  obtain ⟨cs, Hcs, hmk⟩ := make_run R (by omega)
  have Hroom := Lib.hid fun W => room_any G W
  rw [hcG] at Hroom
  have Hd := Lib.hid (And.intro hr (And.intro hd (And.intro hdc (And.intro ht (And.intro hid (And.intro hR (And.intro hc1 (And.intro hc2 (And.intro hk1 hk2)))))))))
  have hrl1 : ¬ row < 1 := by omega
  have hrl2 : ¬ P ≤ row := by omega
  obtain ⟨dl, hdl⟩ : ∃ dl, dl = d.length := ⟨_, rfl⟩
  have Hdl := Lib.hid hdl
  have hdR : ¬ R < dl := by omega
  have hRb : (R : Int) ≤ 2097120 := by omega
  rw [← hdl]
  have HGr : Hid (∀ W, Gr W1 W → Below w.heap.size w W ∧ Cells W w.heap.size 23 [.int .i64 (k : Int), .int .i64 P, .int .i64 G]) := fun W hg => ⟨(hG1.trans hg).below, hC1.move (hg.below.block _ hC1.lt)⟩
  have c1 := hC1.cell (i := 1) rfl
  have c0 := hC1.cell (i := 0) rfl
  have c2 := hC1.cell (i := 2) rfl
  have Hok := Lib.hid hok
  have Hrw := Lib.hid hrow
  have HcG := Lib.hid hcG
  have HW1 : Hid (w.heap.size < W1.heap.size) := hC1.lt
  unfold shV
  clear hok hcG hrow hr hd hdc ht hid h1 h2 h3 h4 h5 h6 h7 h8 hk1 hk2 hc1 hc2 hrv hR2 hR1 hR hdl hG1 hC1
  go_enter Tryd.func21, Tryd.ntmps21
  go_wp2_with fail
  rw [← hW1]
  clear hW1
  refine Hck.out.mono ?_
  rintro e w2 ⟨rfl, hw2⟩
  have hg2 : Gr W1 w2 := by rw [hw2]; exact Gr.alloc _ _
  have HG2 := Lib.hid hg2
  obtain ⟨hb2, hC2⟩ := HGr.out w2 hg2
  have c1' := hC2.cell (i := 1) rfl
  have c0' := hC2.cell (i := 0) rfl
  have c2' := hC2.cell (i := 2) rfl
  have Hr2 := Lib.hid (Hrow.out w2)
  clear c0 c1 c2 hw2 hg2 hb2 hC2 Hck
  go_wp2_with fail
  refine Hr2.out.mono ?_
  rintro e w3 ⟨rfl, hg3⟩
  have HG3 : Hid (Gr W1 w3) := HG2.out.trans hg3
  obtain ⟨hb3, hC3⟩ := HGr.out w3 HG3.out
  have c1 := hC3.cell (i := 1) rfl
  have c0 := hC3.cell (i := 0) rfl
  have c2 := hC3.cell (i := 2) rfl
  have Hr3 := Lib.hid (Hrow.out w3)
  clear c0' c1' c2' hg3 hb3 hC3 Hr2 HG2
  go_wp2_with fail
  refine Hr3.out.mono ?_
  rintro e w4 ⟨rfl, hg4⟩
  have HG4 : Hid (Gr W1 w4) := HG3.out.trans hg4
  obtain ⟨hb4, hC4⟩ := HGr.out w4 HG4.out
  have hblk : Blk (w4.alloc (.cells cs 5)) w4.heap.size (List.replicate R 0) := by
    show _ = _
    rw [heap_alloc_new, Hcs.out]
  have hrd : RB (w4.alloc (.cells cs 5)) w.heap.size A d := (Hd.out.1.below hb4).move (fun p hp => World.cell?_alloc_lt w4 _ p (by have := hb4.size; omega)) (Nat.le_refl _)
  obtain ⟨w5, hcopy, hblk5, hb5⟩ := copy_run (w4.alloc (.cells cs 5)) w4.heap.size 0 R R A d _ cp _ hrd hblk (by have := Hd.out.2.1; have := Hd.out.2.2.2.2.2.1; omega) (by simp; have := Hd.out.2.1; have := Hd.out.2.2.2.2.2.1; omega)
  rw [← Hdl.out] at hcopy
  have hpad : splat (List.replicate R 0) 0 d = padN (k * c) d := by
    have := Hd.out.2.2.2.2.2.1
    rw [← this]
    simp [splat, padN, List.drop_replicate]
  rw [hpad] at hblk5
  have H5 : Hid (Blk w5 w4.heap.size (padN (k * c) d) ∧ Below w.heap.size w w5 ∧ Cells w5 w.heap.size 23 [.int .i64 (k : Int), .int .i64 P, .int .i64 G] ∧ w.heap.size < w4.heap.size) := by
    have hlt : w.heap.size < w4.heap.size := Nat.lt_of_lt_of_le HW1.out HG4.out.below.size
    have hC5 : Cells (w4.alloc (.cells cs 5)) w.heap.size 23 [.int .i64 (k : Int), .int .i64 P, .int .i64 G] := hC4.alloc _
    exact ⟨hblk5, (hb4.alloc hb4.size _).trans (hb5.mono (by omega)), hC5.move (hb5.block _ hlt), hlt⟩
  have d0 : w4.cell? ⟨w.heap.size, 0, none⟩ = _ := hC4.cell rfl
  have e2 := H5.out.2.2.1.cell (i := 2) rfl
  have e0 := H5.out.2.2.1.cell (i := 0) rfl
  clear c0 c1 c2 hg4 hb4 hC4 Hr3 HG3 hblk hrd hblk5 hb5 hpad d0 Hrow
  have hkc : k = R / c := by
    have h1 := Hd.out.2.2.2.2.2.1
    have h2 := Hd.out.2.2.2.2.2.2.1
    rw [h1, Nat.mul_div_cancel _ (by omega)]
  obtain ⟨_, _, _, hT0, hid0, hR, q1, q2, q3, q4⟩ := Hd.out
  have Hcut := Lib.hid (cut_any w4.heap.size 0 R c k R w5 (Nat.le_refl _) hkc (by omega) (by omega) (by omega) (by omega))
  have Hnew := Lib.hid fun W => new_yes k W q3 q4
  have Hpar : Hid (∀ W (bc : Nat), W.cell? ⟨bc, 0, none⟩ = some (.int .i64 (k : Int)) → RM W W.heap.size (some ⟨w5.heap.size, 0, none⟩) (cutN (padN (k * c) d) c k) → Calls Tryd.prog 51 #[.pointer (some ⟨bc, 0, none⟩), .slice (some ⟨w5.heap.size, 0, none⟩) k k] W (TellsO W (parL k (cutN (padN (k * c) d) c k)) (parE k (cutN (padN (k * c) d) c k)))) := fun W bc hc hrm =>
    parity_any bc k k k _ _ W hc hrm (cutN_len _ _ _).symm (by omega) q3 (by omega) fun i l hl => by
      have := cutN_row (b := padN (k * c) d) (c := c) (n := k) (by rw [padN_len (by rw [← hR]; exact Hdl.out ▸ (Nat.not_lt.1 hdR))]; exact Nat.le_refl _) hl
      omega
  have hdle : d.length ≤ k * c := by rw [← hR, ← Hdl.out]; exact Nat.not_lt.1 hdR
  have Hpl := Lib.hid (rowM_par q3 (by omega : 1 ≤ c) hdle)
  have Hple := Lib.hid (And.intro hdle (And.intro hT0 hid0))
  clear hkc hT0 hid0 hR q1 q2 q3 q4 hdle
  go_wp2_with fail
  refine (Hroom.out w5).mono ?_
  rintro e w5' ⟨rfl, rfl⟩
  go_wp2_with fail
  refine Hcut.out.mono ?_
  rintro e w6 ⟨rfl, hC6, hb6⟩
  have H6 := Lib.hid (And.intro hC6 hb6)
  have e2 := (H5.out.2.2.1.move (hb6.block _ H5.out.2.2.1.lt)).cell (i := 2) rfl
  have e0 := (H5.out.2.2.1.move (hb6.block _ H5.out.2.2.1.lt)).cell (i := 0) rfl
  clear hC6 hb6 Hcut
  go_wp2_with fail
  refine (Hnew.out w6).mono ?_
  rintro e w7 ⟨rfl, hw7⟩
  have hb7 : Below w6.heap.size w6 w7 := by rw [hw7]; exact (Below.refl _ _).alloc (Nat.le_refl _) _
  have hk7 : w7.cell? ⟨w6.heap.size, 0, none⟩ = some (.int .i64 (k : Int)) := by rw [hw7]; exact cell_new w6 _ _
  have H7 : Hid (Below w5.heap.size w5 w7 ∧ Cells w7 w5.heap.size 25 (hdrC w4.heap.size 0 c k)) := ⟨H6.out.2.trans (hb7.mono H6.out.2.size), H6.out.1.move (hb7.block _ H6.out.1.lt)⟩
  have hrb7 : RB w7 w7.heap.size (some ⟨w4.heap.size, 0, none⟩) (padN (k * c) d) := by
    have hB7 : Blk w7 w4.heap.size (padN (k * c) d) := H5.out.1.below H7.out.1 H5.out.1.lt
    have := hB7.rb 0
    rw [List.drop_zero] at this
    exact this.wide hB7.lt
  have hpl7 : (padN (k * c) d).length = k * c := padN_len Hple.out.1
  have Hp7 := Lib.hid (Hpar.out w7 w6.heap.size hk7 (cut_rm H7.out.2 hrb7 (by rw [hpl7]; exact Nat.le_refl _)))
  rw [Hpl.out.2.1] at Hp7
  clear hw7 hb7 hk7 hrb7 hpl7 Hnew Hpar H6
  go_wp2_with fail
  refine Hp7.out.mono ?_
  rintro e w8 ⟨A8, c8, rfl, hm8, hb8⟩
  obtain ⟨gc, hgc, hA8⟩ : ∃ gc, A8 = some ⟨gc, 0, none⟩ ∧ True := by
    obtain ⟨rows, ha, _, hb9, _⟩ := hm8
    rcases ha.form with ⟨q, q2⟩ | ⟨g, cap, cur, q, _⟩
    · exfalso
      rw [q2] at hb9
      have := Hpl.out.1
      simp at hb9
      omega
    · exact ⟨_, (Value.slice.inj q).1, trivial⟩
  subst hgc
  rw [Hpl.out.1] at hm8
  obtain ⟨rows, hro, hrv, hrc, hrk⟩ := mat_both hm8
  have HP : Hid (PgSt w w8 (k : Int) P G w5.heap.size w4.heap.size k c d gc c8 rows) := by
    have hb58 : Below w5.heap.size w5 w8 := H7.out.1.trans (hb8.mono H7.out.1.size)
    refine ⟨H5.out.2.2.1.move (hb58.block _ H5.out.2.2.1.lt), H7.out.2.move (hb8.block _ H7.out.2.lt), H5.out.1.below hb58 H5.out.1.lt, H5.out.1.lt, H5.out.2.2.2, by rw [hrv.1, Hpl.out.1], hrc, fun w' x hg hx => hrk w' x hg (.inr ?_), hrv.one, H5.out.2.1.trans (hb58.mono H5.out.2.1.size)⟩
    rw [hx]
    exact H7.out.2.lt
  have hl2 : (parL k (cutN (padN (k * c) d) c k)).length = 2 := Hpl.out.1
  rw [hl2]
  have e3 := HP.out.sh.cell (i := 0) rfl
  have e4 := HP.out.sh.cell (i := 1) rfl
  have e5 := HP.out.sh.cell (i := 2) rfl
  clear hm8 hb8 hA8 hro hrv hrc hrk e0 e2 Hp7 H7 hl2
  have Hcell : Hid (∀ W, Cells W w.heap.size 23 [.int .i64 (k : Int), .int .i64 P, .int .i64 G] → W.cell? ⟨w.heap.size, 0, none⟩ = some (.int .i64 (k : Int)) ∧ W.cell? ⟨w.heap.size, 1, none⟩ = some (.int .i64 P) ∧ W.cell? ⟨w.heap.size, 2, none⟩ = some (.int .i64 G)) := fun W h => ⟨h.cell rfl, h.cell rfl, h.cell rfl⟩
  have k0 : w8.drew.cell? ⟨w.heap.size, 0, none⟩ = some (.int .i64 (k : Int)) ∧ w8.drew.cell? ⟨w.heap.size, 1, none⟩ = some (.int .i64 P) ∧ w8.drew.cell? ⟨w.heap.size, 2, none⟩ = some (.int .i64 G) := ⟨e3, e4, e5⟩
  have HO : Hid (OwnV w8.drew w.heap.size 25 (.slice (some ⟨w5.heap.size, 0, none⟩) k k) (hdrC w4.heap.size 0 c k) ∧ w.heap.size ≤ w8.drew.heap.size ∧ (hdrC w4.heap.size 0 c k).length + rows.length ≤ 140737488355327 ∧ ((hdrC w4.heap.size 0 c k).length + rows.length) * 24 ≤ 140737488355328) := by
    have h1 := HP.out.wbg
    have h2 := HP.out.low
    have h3 := Hd.out.2.2.2.2.2.2.2.2.2
    have h4 := HP.out.two
    have h5 : (hdrC w4.heap.size 0 c k).length = k := hdrC_len _ _ _ _
    refine ⟨(cut_own HP.out.hd (by omega) (by omega) : OwnV w8 w.heap.size 25 (.slice (some ⟨w5.heap.size, 0, none⟩) k k) (hdrC w4.heap.size 0 c k)).drew, HP.out.bel.size, by rw [h5]; omega, by rw [h5]; omega⟩
  have Hap : Hid (∀ (v9 : Value) (w9 : World), OwnV w9 w.heap.size 25 v9 (hdrC w4.heap.size 0 c k ++ rows) → w8.drew.grownBy w9 (some w5.heap.size) → ∃ A9 c9, v9 = .slice A9 (k + 2) c9 ∧ Cells w9 w.heap.size 23 [.int .i64 (k : Int), .int .i64 P, .int .i64 G] ∧ Below w.heap.size w w9 ∧
      Calls Tryd.prog 45 #[.agg #[.int .i64 (k : Int), .int .i64 P, .int .i64 G], .int .u64 (id : Int), .int .i64 row, .slice A9 (k + 2) c9] w9 fun e w' => ∃ g, e = .returned (.tuple #[.slice (some ⟨g, 0, none⟩) (k + 2) (k + 2), .int .i64 0]) ∧ RML w' w.heap.size w'.heap.size (some ⟨g, 0, none⟩) (pageM G row id (rowM k c d)) ∧ Below w.heap.size w w' ∧ Cells w' w.heap.size 23 [.int .i64 (k : Int), .int .i64 P, .int .i64 G]) := fun v9 w9 ho hg => by
    have h1 := HP.out.wbg
    have h2 := HP.out.low
    have hsh : Cells w9 w.heap.size 23 [.int .i64 (k : Int), .int .i64 P, .int .i64 G] := HP.out.sh.move (hg.block _ HP.out.sh.lt (by simp; omega))
    have hwh : Blk w9 w4.heap.size (padN (k * c) d) := (hg.block _ HP.out.wh.lt (by simp; omega)).trans HP.out.wh
    have hb9 : Below w.heap.size w w9 := HP.out.bel.drew.grown hg HP.out.bel.size (fun g hg2 => by cases hg2; omega)
    obtain ⟨_, _, _, hT0, hid0, hR, q1, q2, q3, q4⟩ := Hd.out
    have hr9 : RB w9 w9.heap.size (some ⟨w4.heap.size, 0, none⟩) (padN (k * c) d) := by
      have := hwh.rb 0
      rw [List.drop_zero] at this
      exact this.wide hwh.lt
    have hpl9 : (padN (k * c) d).length = k * c := padN_len Hple.out.1
    have hv1 : RowsV w9 (hdrC w4.heap.size 0 c k) (cutN (padN (k * c) d) c k) := cut_rowsV hr9 (by rw [hpl9]; exact Nat.le_refl _)
    have hv2 : RowsV w9 rows (parL k (cutN (padN (k * c) d) c k)) := HP.out.par w9 w5.heap.size ⟨hg.os, hg.tape, hg.output, hg.size, hg.block⟩ rfl
    obtain ⟨A9, c9, e9, hrm⟩ := rm_of ho (hv1.append hv2)
    have hlen : (rowM k c d).length = k + 2 := rowM_len q3 (by omega) Hple.out.1
    have hrm' : RM w9 w9.heap.size A9 (rowM k c d) := hrm
    refine ⟨A9, c9, by rw [e9]; show Value.slice A9 (rowM k c d).length c9 = _; rw [hlen], hsh, hb9, ?_⟩
    refine (pagesS_any (K := (k : Int)) (P := P) (G := G) (row := row) (id := id) A9 c9 (k + 2) (rowM k c d) (hT0.below hb9 hT0.pos) hrm' hid0 hlen.symm (by omega) (fun i l hl => ?_)).mono ?_
    · have hi : i < k + 2 := by have := (List.getElem?_eq_some_iff.1 hl).1; rwa [hlen] at this
      rw [rowM_row q3 (by omega) Hple.out.1 hl]
      obtain ⟨hr1, hr2⟩ := Hrw.out
      obtain ⟨_, _, _, hP4, _⟩ := okS_facts Hok.out
      exact pageErr_zero HcG.out (by omega) (by omega) (by omega) (by omega)
    · rintro e w' ⟨g, he, h8, h9⟩
      exact ⟨g, he, h8.low hb9.size, hb9.trans (h9.mono hb9.size), hsh.move (h9.block _ hsh.lt)⟩
  clear e3 e4 e5
  go_upto_region 17 with fail
  go_region_held3 (fun X => X.cell? ⟨w.heap.size, 0, none⟩ = some (.int .i64 (k : Int)) ∧ X.cell? ⟨w.heap.size, 1, none⟩ = some (.int .i64 P) ∧ X.cell? ⟨w.heap.size, 2, none⟩ = some (.int .i64 G)) (first | exact k0 | exact j1 | exact j2) (first
    | (skip; (refine step_app_many rfl (.tmp 66) (.tmp 67) 34 25 rfl Tryd.underlying34 (.slice none 0 0) 24 info_row rfl w.heap.size _ (hdrC w4.heap.size 0 c k) rfl HO.out.1 ⟨gc, 0, none⟩ 2 c8 rows rfl HP.out.two.symm (fun j u hj => by rw [add_flat, Nat.zero_add]; exact HP.out.cell j u hj) HP.out.one HO.out.2.2.1 HO.out.2.2.2 HO.out.2.1 ?_); intro v9 w9 hown hg _; obtain ⟨A9, c9, rfl, hsh9, hb9, hcall⟩ := Hap.out v9 w9 hown hg; have j1 := Hcell.out w9 hsh9; have Hcall := Lib.hid hcall; clear hown hg hsh9 hb9 hcall)
    | (go_at_call 45; refine Hcall.out.mono ?_; rintro e w10 ⟨g10, rfl, h10, hb10, hs10⟩; have j2 := Hcell.out w10 hs10; have H10 := Lib.hid (And.intro h10 hb10); clear h10 hb10 hs10))
  all_goals
    go_wp2_with fail
    go_ret2
    exact ⟨_, rfl, H10.out⟩
end
end Go.Proofs.YtlficcdbnmheeaaDoor

/-
  Rows of rows: the writer's closure, each.
-/
namespace Go.Proofs.YtlficcdbnmheeaaDoor
open Go.RowKit Go.Sort Go.Lib

/-- a slice of rows of pages reads as Ms -/
def RMM (w : World) (lo B : Nat) (A : Option Addr) (Ms : List Mtx) : Prop :=
  ∀ (k : Nat) (M : Mtx), Ms[k]? = some M → ∃ (b o : Nat) (A' : Option Addr) (c : Nat), A = some ⟨b, o, none⟩ ∧ lo ≤ b ∧ b < B ∧ w.cell? ⟨b, o + k, none⟩ = some (.slice A' M.length c) ∧ RML w lo B A' M
theorem RMM.keep {w w' : World} {lo B B' : Nat} {A : Option Addr} {Ms : List Mtx} (h : RMM w lo B A Ms) (hk : ∀ b, lo ≤ b → b < B → w'.heap[b]? = w.heap[b]?) (hB : B ≤ B') : RMM w' lo B' A Ms := fun k M hM => by
  obtain ⟨b, o, A', c, e, h1, h2, hc, hr⟩ := h k M hM
  exact ⟨b, o, A', c, e, h1, by omega, (World.cell?_of_block (hk b h1 h2)).trans hc, hr.keep hk hB⟩
theorem RMM.below {w w' : World} {lo B : Nat} {A : Option Addr} {Ms : List Mtx} (h : RMM w lo B A Ms) (hb : Below B w w') : RMM w' lo B A Ms := h.keep (fun b _ hb2 => hb.block b hb2) (Nat.le_refl _)
theorem RMM.wide {w : World} {lo B B' : Nat} {A : Option Addr} {Ms : List Mtx} (h : RMM w lo B A Ms) (hB : B ≤ B') : RMM w lo B' A Ms := h.keep (fun _ _ _ => rfl) hB
theorem RMM.low {w : World} {lo lo' B : Nat} {A : Option Addr} {Ms : List Mtx} (h : RMM w lo B A Ms) (hlo : lo' ≤ lo) : RMM w lo' B A Ms := fun k M hM => by
  obtain ⟨b, o, A', c, e, h1, h2, hc, hr⟩ := h k M hM
  exact ⟨b, o, A', c, e, by omega, h2, hc, hr.low hlo⟩
theorem RMM.nil (w : World) (lo B : Nat) (A : Option Addr) : RMM w lo B A [] := fun k l hl => by simp at hl
def HdrM (w : World) (lo : Nat) (hs : List Value) (Ms : List Mtx) : Prop := hs.length ≤ Ms.length ∧ ∀ (i : Nat) (M : Mtx), i < hs.length → Ms[i]? = some M → ∃ A c, hs[i]? = some (.slice A M.length c) ∧ RML w lo w.heap.size A M
theorem HdrM.below {w w' : World} {lo : Nat} {hs : List Value} {Ms : List Mtx} (h : HdrM w lo hs Ms) (hb : Below w.heap.size w w') : HdrM w' lo hs Ms := ⟨h.1, fun i l hi hl => by
  obtain ⟨A, c, q1, q2⟩ := h.2 i l hi hl
  exact ⟨A, c, q1, (q2.below hb).wide hb.size⟩⟩
theorem HdrM.rm {w : World} {lo g : Nat} {hs : List Value} {Ms : List Mtx} (h : HdrM w lo hs Ms) (hc : Cells w g 34 hs) (hl : hs.length = Ms.length) (hg : lo ≤ g) : RMM w lo w.heap.size (some ⟨g, 0, none⟩) Ms := fun i l hi => by
  have hi' : i < hs.length := by rw [hl]; exact (List.getElem?_eq_some_iff.1 hi).1
  obtain ⟨A, c, q1, q2⟩ := h.2 i l hi' hi
  exact ⟨g, 0, A, c, rfl, hg, hc.lt, by rw [Nat.zero_add]; exact hc.cell q1, q2⟩
theorem HdrM.snoc {w : World} {lo : Nat} {hs : List Value} {Ms : List Mtx} {A : Option Addr} {c : Nat} {M : Mtx} (h : HdrM w lo hs Ms) (hl : Ms[hs.length]? = some M) (hr : RML w lo w.heap.size A M) : HdrM w lo (hs ++ [.slice A M.length c]) Ms := by
  refine ⟨by have := (List.getElem?_eq_some_iff.1 hl).1; simp; omega, fun i l' hi hl' => ?_⟩
  by_cases q : i < hs.length
  · obtain ⟨A', c', q1, q2⟩ := h.2 i l' q hl'
    exact ⟨A', c', by rw [List.getElem?_append_left q]; exact q1, q2⟩
  · have e : i = hs.length := by simp at hi; omega
    subst e
    rw [hl] at hl'
    cases hl'
    exact ⟨A, c, by simp, hr⟩
/-- rows told: of the pieces, from row t + 1 on -/
def rowsM (k c : Nat) (G : Int) (id t : Nat) (Ds : Mtx) : List Mtx := (List.range Ds.length).map fun (i : Nat) => pageM G ((t : Int) + (i : Int) + 1) id (rowM k c (Ds.getD i []))
theorem rowsM_len (k c : Nat) (G : Int) (id t : Nat) (Ds : Mtx) : (rowsM k c G id t Ds).length = Ds.length := by simp [rowsM]
theorem rowsM_get {k c : Nat} {G : Int} {id t : Nat} {Ds : Mtx} {i : Nat} (h : i < Ds.length) : (rowsM k c G id t Ds)[i]? = some (pageM G ((t : Int) + (i : Int) + 1) id (rowM k c (Ds.getD i []))) := by simp [rowsM, h]
theorem pageM_row {G row : Int} {id c : Nat} {M : Mtx} (hcG : roomOf G = (c : Int)) (hc : 1 ≤ c) (h0 : 0 ≤ row) (h1 : row ≤ 4096) (hM : M.length ≤ 255) (hr : ∀ (i : Nat) (l : List UInt8), M[i]? = some l → l.length = c) {i : Nat} {l : List UInt8} (hl : (pageM G row id M)[i]? = some l) : l.length = G.toNat := by
  have hi : i < M.length := by have := (List.getElem?_eq_some_iff.1 hl).1; rwa [pageM_len] at this
  rw [pageM_get hi] at hl
  cases hl
  have hx : (M.getD i []).length = c := hr i _ (by rw [List.getD, List.getElem?_eq_getElem hi]; rfl)
  have he : pageErr G row (i : Int) (M.getD i []).length = 0 := by rw [hx]; exact pageErr_zero hcG hc h0 h1 (by omega)
  unfold pageOf
  rw [if_pos he]
  exact pageBytes_length _ _ _ _ _ (pageErr_none he).1
theorem rowsM_pos {k c : Nat} {P G : Int} {id t N : Nat} {Ds : Mtx} (hok : okS k P G = true) (hcG : roomOf G = (c : Int)) (hN : N = Ds.length) (hrow : (t : Int) + (N : Int) < P) (hlen : ∀ (i : Nat) (l : List UInt8), Ds[i]? = some l → l.length ≤ k * c)
    {i : Nat} {M : Mtx} (hM : (rowsM k c G id t Ds)[i]? = some M) {j : Nat} {l : List UInt8} (hl : M[j]? = some l) : l.length = G.toNat := by
  obtain ⟨h1, h2, h3, h4, h5, h6, _⟩ := okS_facts hok
  have hi : i < Ds.length := by have := (List.getElem?_eq_some_iff.1 hM).1; rwa [rowsM_len] at this
  rw [rowsM_get hi] at hM
  cases hM
  have hd : (Ds.getD i []).length ≤ k * c := hlen i _ (by rw [List.getD, List.getElem?_eq_getElem hi]; rfl)
  have hrl := rowM_len (k := k) (c := c) (by omega) (by omega) hd
  exact pageM_row hcG (by omega) (by omega) (by omega) (by rw [hrl]; omega) (fun i l hl => rowM_row (by omega) (by omega) hd hl) hl
/-- what the writer's closure holds: a box with the writer's place; the writer -/
structure EnvG (w : World) (b0 wb : Nat) (K P G : Int) (id t : Nat) (v : Value) : Prop where
  box : w.cell? ⟨b0, 0, none⟩ = some (.pointer (some ⟨wb, 0, none⟩))
  wr : Cells w wb 98 [.int .i64 K, .int .i64 P, .int .i64 G, .int .u64 (id : Int), .int .i64 (t : Int), v]
theorem EnvG.below {w w' : World} {b0 wb : Nat} {K P G : Int} {id t : Nat} {v : Value} (h : EnvG w b0 wb K P G id t v) (hb : Below w.heap.size w w') : EnvG w' b0 wb K P G id t v :=
  ⟨(hb.cell (p := ⟨b0, 0, none⟩) (World.block_lt_of_cell? _ _ h.box)).trans h.box, h.wr.move (hb.block _ h.wr.lt)⟩
theorem EnvG.drewN {w : World} {b0 wb : Nat} {K P G : Int} {id t : Nat} {v : Value} (h : EnvG w b0 wb K P G id t v) (q : Nat) : EnvG (w.drewN q) b0 wb K P G id t v := ⟨h.box, h.wr⟩
set_option maxRecDepth 20000
theorem info_mtx : (Tryd.prog.info? 34).map (fun i => (i.zero, i.size, i.bytes)) = some (some (.slice none 0 0), 1, 24) := by kernel_rfl
/-- make([][][]byte, n) -/
theorem make_mtxs (n : Nat) (hn : n ≤ 4096) : ∃ cs : Array Value, Hid (cs = (List.replicate n (.slice none 0 0)).toArray) ∧
    ∀ u : World, (Instr.makeSlice 62 (.int .i64 (n : Int)) (.int .i64 (n : Int))).run Tryd.prog u = .ok (.slice (some ⟨u.heap.size, 0, none⟩) n n) (u.alloc (.cells cs 34)) := by
  obtain ⟨i0, hi, hz0, hz1, hz2⟩ := info_parts info_mtx
  refine ⟨_, rfl, fun u => ?_⟩
  have h := run_make (P := Tryd.prog) u 62 34 i0 (.slice none 0 0) Tryd.underlying62 hi hz0 .i64 .i64 (n : Int) (n : Int) (by omega) (Int.le_refl _) (by rw [hz2]; omega) (by omega)
  rw [h]
  simp only [Int.toNat_natCast, hz1, Nat.mul_one]
  congr 3
  apply Array.toList_inj.1
  show (madeCells #[Value.slice none 0 0] n).toList = _
  rw [toList_madeCells_one]
section
set_option maxRecDepth 20000
set_option maxHeartbeats 1600000
variable {w : World} {b0 wb : Nat} {P G : Int} {id t k c : Nat} {v : Value}
theorem grow1_any (n : Nat) (A : Option Addr) (cp : Nat) (d : List UInt8) (he : EnvG w b0 wb (k : Int) P G id t v) (hok : okS k P G = true) (hcG : roomOf G = (c : Int)) (hrow : (t : Int) + (n : Int) + 1 < P) (ht : Tab w) (hr : RB w w.heap.size A d) (hid : id < two64) (hd : d.length ≤ k * c) (hdc : d.length ≤ cp) :
    Calls Tryd.prog 81 #[.int .i64 (n : Int), .slice A d.length cp, .pointer (some ⟨b0, 0, none⟩)] w
      fun e w' => ∃ g, e = .returned (.tuple #[.slice (some ⟨g, 0, none⟩) (k + 2) (k + 2), .int .i64 0]) ∧ RML w' w.heap.size w'.heap.size (some ⟨g, 0, none⟩) (pageM G ((t : Int) + (n : Int) + 1) id (rowM k c d)) ∧ Below w.heap.size w w' := by
  have hP0 := (okS_facts hok).2.2.2.1
  have hw : IntKind.i64.wrap (IntKind.i64.wrap ((t : Int) + (n : Int)) + 1) = (t : Int) + (n : Int) + 1 := by
    rw [IntKind.wrap_i64 ((t : Int) + (n : Int))]
    rw [show ((t : Int) + (n : Int) + 9223372036854775808) % 18446744073709551616 - 9223372036854775808 = (t : Int) + (n : Int) by omega, IntKind.wrap_i64]
    omega
  have Hp : Hid (Calls Tryd.prog 21 #[.agg #[.int .i64 (k : Int), .int .i64 P, .int .i64 G], .int .u64 (id : Int), .int .i64 (IntKind.i64.wrap (IntKind.i64.wrap ((t : Int) + (n : Int)) + 1)), .slice A d.length cp] w.drew fun e w' => ∃ g, e = .returned (.tuple #[.slice (some ⟨g, 0, none⟩) (k + 2) (k + 2), .int .i64 0]) ∧ RML w' w.heap.size w'.heap.size (some ⟨g, 0, none⟩) (pageM G ((t : Int) + (n : Int) + 1) id (rowM k c d)) ∧ Below w.drew.heap.size w.drew w') := by
    rw [hw]
    exact pages_ok (w := w.drew) k c cp P G ((t : Int) + (n : Int) + 1) id A d hok hcG ⟨by omega, hrow⟩ hr hd hdc ht hid
  clear hw hP0
  have hP := (okS_facts hok).2.2.2.1
  have c0 := he.box
  have c1 := he.wr.cell (i := 0) rfl
  have c2 := he.wr.cell (i := 1) rfl
  have c3 := he.wr.cell (i := 2) rfl
  have c4 := he.wr.cell (i := 3) rfl
  have c5 := he.wr.cell (i := 4) rfl
  have d0 : w.drew.cell? ⟨b0, 0, none⟩ = _ := c0
  have d1 : w.drew.cell? ⟨wb, 0, none⟩ = _ := c1
  have d2 : w.drew.cell? ⟨wb, 1, none⟩ = _ := c2
  have d3 : w.drew.cell? ⟨wb, 2, none⟩ = _ := c3
  have d4 : w.drew.cell? ⟨wb, 3, none⟩ = _ := c4
  have d5 : w.drew.cell? ⟨wb, 4, none⟩ = _ := c5
  have ht1 : (t : Int) ≤ 4096 := by omega
  have hn1 : (n : Int) ≤ 4096 := by omega
  have Hb : Hid (∀ W, Below w.drew.heap.size w.drew W → Below w.heap.size w W) := fun W hb => ⟨hb.os, hb.tape, hb.output, hb.size, hb.block⟩
  have HS : Hid (∀ W, Below w.heap.size w W → W.cell? ⟨b0, 0, none⟩ = some (.pointer (some ⟨wb, 0, none⟩)) ∧ W.cell? ⟨wb, 0, none⟩ = some (.int .i64 (k : Int)) ∧ W.cell? ⟨wb, 1, none⟩ = some (.int .i64 P) ∧ W.cell? ⟨wb, 2, none⟩ = some (.int .i64 G) ∧ W.cell? ⟨wb, 3, none⟩ = some (.int .u64 (id : Int)) ∧ W.cell? ⟨wb, 4, none⟩ = some (.int .i64 (t : Int))) := fun W hb => by
    have h9 := he.below hb
    exact ⟨h9.box, h9.wr.cell rfl, h9.wr.cell rfl, h9.wr.cell rfl, h9.wr.cell rfl, h9.wr.cell rfl⟩
  generalize d.length = dl at *
  clear he hok hcG hrow ht hr hid hd hdc hP
  go_enter Tryd.func81, Tryd.ntmps81
  go_wp2_with fail
  go_region_held3 (fun X => X.cell? ⟨b0, 0, none⟩ = some (.pointer (some ⟨wb, 0, none⟩)) ∧ X.cell? ⟨wb, 0, none⟩ = some (.int .i64 (k : Int)) ∧ X.cell? ⟨wb, 1, none⟩ = some (.int .i64 P) ∧ X.cell? ⟨wb, 2, none⟩ = some (.int .i64 G) ∧ X.cell? ⟨wb, 3, none⟩ = some (.int .u64 (id : Int)) ∧ X.cell? ⟨wb, 4, none⟩ = some (.int .i64 (t : Int))) (first | exact ⟨d0, d1, d2, d3, d4, d5⟩ | exact j1) (first
    | (go_at_call 21; refine Hp.out.mono ?_; rintro e w1 ⟨g, rfl, h1, h2⟩; have j1 := HS.out w1 (Hb.out _ h2); have H1 := Lib.hid (And.intro h1 (Hb.out _ h2)); clear h1 h2))
  all_goals
    go_wp2_with fail
    go_ret2
    exact ⟨_, rfl, H1.out⟩
theorem each2_any (A : Option Addr) (cp N : Nat) (M : Mtx) (he : EnvG w b0 wb (k : Int) P G id t v) (hok : okS k P G = true) (hcG : roomOf G = (c : Int)) (ht : Tab w) (hr : RM w w.heap.size A M) (hid : id < two64) (hN : N = M.length) (hN2 : N ≤ 4096) (hrow : (t : Int) + (N : Int) < P)
    (hlen : ∀ (i : Nat) (l : List UInt8), M[i]? = some l → l.length ≤ k * c) :
    Calls Tryd.prog 80 #[.slice A N cp, .func (.func 81) #[] #[.pointer (some ⟨b0, 0, none⟩)]] w
      fun e w' => e = .returned (.tuple #[.slice (some ⟨w.heap.size, 0, none⟩) N N, .int .i64 0]) ∧ RMM w' w.heap.size w'.heap.size (some ⟨w.heap.size, 0, none⟩) (rowsM k c G id t M) ∧ Below w.heap.size w w' := by
  obtain ⟨cs, Hcs, hmk⟩ := make_mtxs N hN2
  have HE := Lib.hid he
  have HT := Lib.hid ht
  have HR := Lib.hid hr
  have Hok := Lib.hid (And.intro hok (And.intro hcG (And.intro hrow hlen)))
  have HN := Lib.hid hN
  have Hid' := Lib.hid hid
  have h0 : Hid (∃ hs : List Value, hs.length = 0 ∧ Cells (w.alloc (.cells cs 34)) w.heap.size 34 (hs ++ List.replicate (N - 0) (.slice none 0 0)) ∧ HdrM (w.alloc (.cells cs 34)) w.heap.size hs (rowsM k c G id t M) ∧ Below w.heap.size w (w.alloc (.cells cs 34))) := by
    refine ⟨[], rfl, ?_, ⟨Nat.zero_le _, fun i l hi => by simp at hi⟩, (Below.refl _ _).alloc (Nat.le_refl _) _⟩
    have := Cells.new w cs 34
    rw [Hcs.out] at this ⊢
    simpa using this
  have hNi : (N : Int) ≤ 4096 := by omega
  clear he ht hr hid hN hok hcG hrow hlen Hcs
  go_enter Tryd.func80, Tryd.ntmps80
  go_wp2_with fail
  go_loopw [16] (fun iv wr => ∃ i : Nat, iv = .int .i64 (i : Int) ∧ i ≤ N ∧ Hid (∃ hs : List Value, hs.length = i ∧ Cells wr w.heap.size 34 (hs ++ List.replicate (N - i) (.slice none 0 0)) ∧ HdrM wr w.heap.size hs (rowsM k c G id t M) ∧ Below w.heap.size w wr)) (fun iv _ => N - (intOf iv).toNat)
  case atStart => exact ⟨0, rfl, Nat.zero_le _, h0.out⟩
  case round =>
    clear h0
    obtain ⟨i, rfl, hi, hst⟩ := hrel
    by_cases hlt : i < N
    · have hlt' : (i : Int) < (N : Int) := by omega
      have hiM : i < M.length := by rw [← HN.out]; exact hlt
      obtain ⟨hs, h1, h2, h3, h4⟩ := hst.out
      obtain ⟨x, hx⟩ : ∃ x, x = M[i] := ⟨_, rfl⟩
      have hMi : M[i]? = some x := by rw [hx]; exact List.getElem?_eq_getElem hiM
      obtain ⟨b, o, A', c', rfl, hb, hcell, hrb, hxc⟩ := (HR.out.below h4) i x hMi
      have hT : Tab wr := HT.out.below h4 HT.out.pos
      have Hcall := Lib.hid (grow1_any (w := wr) (n := i) A' c' x (HE.out.below h4) Hok.out.1 Hok.out.2.1 (by have := Hok.out.2.2.1; omega) hT (hrb.wide h4.size) Hid'.out (Hok.out.2.2.2 i x hMi) hxc)
      have Hn : Hid (∀ w1 g3, RML w1 wr.heap.size w1.heap.size (some ⟨g3, 0, none⟩) (pageM G ((t : Int) + (i : Int) + 1) id (rowM k c x)) → Below wr.heap.size wr w1 → w1.frozen? ⟨w.heap.size, i, none⟩ = false ∧ (∃ u, w1.cell? ⟨w.heap.size, i, none⟩ = some u) ∧
          ∃ hs : List Value, hs.length = i + 1 ∧ Cells (w1.setCell ⟨w.heap.size, i, none⟩ (.slice (some ⟨g3, 0, none⟩) (k + 2) (k + 2))) w.heap.size 34 (hs ++ List.replicate (N - (i + 1)) (.slice none 0 0)) ∧ HdrM (w1.setCell ⟨w.heap.size, i, none⟩ (.slice (some ⟨g3, 0, none⟩) (k + 2) (k + 2))) w.heap.size hs (rowsM k c G id t M) ∧ Below w.heap.size w (w1.setCell ⟨w.heap.size, i, none⟩ (.slice (some ⟨g3, 0, none⟩) (k + 2) (k + 2)))) := fun w1 g3 ho hb1 => by
        have hC := h2.move (hb1.block _ h2.lt)
        have hB := (h4.trans (hb1.mono h4.size)).setCell (p := ⟨w.heap.size, i, none⟩) (Nat.le_refl _) (.slice (some ⟨g3, 0, none⟩) (k + 2) (k + 2))
        have hpl : (pageM G ((t : Int) + (i : Int) + 1) id (rowM k c x)).length = k + 2 := by
          obtain ⟨q1, _, _, _, q5, _⟩ := okS_facts Hok.out.1
          have := Hok.out.2.1
          rw [pageM_len, rowM_len (by omega) (by omega) (Hok.out.2.2.2 i x hMi)]
        have hpg : (rowsM k c G id t M)[hs.length]? = some (pageM G ((t : Int) + (i : Int) + 1) id (rowM k c x)) := by
          rw [h1, rowsM_get hiM, List.getD, hMi]; rfl
        have hset := hC.set i (.slice (some ⟨g3, 0, none⟩) (k + 2) (k + 2))
        have hold : w1.cell? ⟨w.heap.size, i, none⟩ = some (.slice none 0 0) := hC.cell (by rw [List.getElem?_append_right (by omega), h1, Nat.sub_self, List.getElem?_replicate, if_pos (by omega)])
        have hkeepB : ∀ (A : Option Addr) (l : List UInt8), RB w1 w1.heap.size A l → RB (w1.setCell ⟨w.heap.size, i, none⟩ (.slice (some ⟨g3, 0, none⟩) (k + 2) (k + 2))) (w1.setCell ⟨w.heap.size, i, none⟩ (.slice (some ⟨g3, 0, none⟩) (k + 2) (k + 2))).heap.size A l := fun A l hl j y hy => by
          obtain ⟨ad, e1, e2, e3⟩ := hl j y hy
          refine ⟨ad, e1, by simpa [World.setCell] using e2, ?_⟩
          rw [World.cell?_setCell_other _ _ _ _ (fun e => by
            rw [← e, hold] at e3
            cases e3)]
          exact e3
        have hkeep : ∀ (A : Option Addr) (M' : Mtx), (∀ (i' : Nat) (l : List UInt8), M'[i']? = some l → 1 ≤ l.length) → RML w1 w.heap.size w1.heap.size A M' → RML (w1.setCell ⟨w.heap.size, i, none⟩ (.slice (some ⟨g3, 0, none⟩) (k + 2) (k + 2))) w.heap.size (w1.setCell ⟨w.heap.size, i, none⟩ (.slice (some ⟨g3, 0, none⟩) (k + 2) (k + 2))).heap.size A M' := fun A M' hpos hM i' l hl => by
          obtain ⟨b9, o9, A9, c9, e1, e0, e2, e3, e4, e5, e6⟩ := hM i' l hl
          refine ⟨b9, o9, A9, c9, e1, e0, by simpa [World.setCell] using e2, ?_, hkeepB _ _ e4, e5, e6⟩
          rw [World.cell?_setCell_other _ _ _ _ (fun e => by
            rw [← e, hold] at e3
            have := hpos i' l hl
            have e6 : l.length = 0 := by
              have := congrArg (fun v => match v with | some (Value.slice _ n _) => n | _ => 0) e3
              simpa using this.symm
            omega)]
          exact e3
        refine ⟨hC.frozen i, ⟨.slice none 0 0, hold⟩, hs ++ [.slice (some ⟨g3, 0, none⟩) (k + 2) (k + 2)], by simp [h1], ?_, ?_, hB⟩
        · rw [List.set_append_right _ _ (by omega), h1, Nat.sub_self, show N - i = (N - (i + 1)) + 1 by omega, List.replicate_succ, List.set_cons_zero] at hset
          rw [List.append_assoc]
          exact hset
        · have h5 := (h3.below hb1).snoc (c := k + 2) hpg (ho.low h4.size)
          rw [hpl] at h5
          exact ⟨h5.1, fun k' l hk hl => by
            obtain ⟨A9, c9, q1, q2⟩ := h5.2 k' l hk hl
            refine ⟨A9, c9, q1, hkeep _ _ (fun i' l' hl' => ?_) q2⟩
            have h6 := rowsM_pos Hok.out.1 Hok.out.2.1 HN.out Hok.out.2.2.1 Hok.out.2.2.2 hl hl'
            have h7 := (okS_facts Hok.out.1).2.2.2.2.2.2.1
            omega⟩
      generalize x.length = xl at *
      clear hst h1 h2 h3 h4 hMi hx hiM hT hrb hb hlt
      go_wp2_with fail
      refine Hcall.out.mono ?_
      rintro e w1 ⟨g3, rfl, ho, hb1⟩
      obtain ⟨f3, ⟨u3, k3⟩, hn3⟩ := Hn.out w1 g3 ho hb1
      have H3 := Lib.hid hn3
      clear ho hb1 hn3 Hn Hcall hcell
      go_wp2_with fail
      go_roundw
      case rel => exact ⟨i + 1, by go_num, by omega, H3.out⟩
      case measure => simp [intOf]; omega
    · obtain rfl : i = N := by omega
      have Hf : Hid (RMM wr w.heap.size wr.heap.size (some ⟨w.heap.size, 0, none⟩) (rowsM k c G id t M) ∧ Below w.heap.size w wr) := by
        obtain ⟨hs, h1, h2, h3, h4⟩ := hst.out
        rw [Nat.sub_self, List.replicate_zero, List.append_nil] at h2
        exact ⟨h3.rm h2 (by rw [h1, rowsM_len, HN.out]) (Nat.le_refl _), h4⟩
      clear hst hlt
      go_wp2_with fail
      go_ret2
      exact ⟨rfl, Hf.out⟩
end
end Go.Proofs.YtlficcdbnmheeaaDoor

/-
  The writer: Size, Left, NewWriter; what append makes of its rest.
-/
namespace Go.Proofs.YtlficcdbnmheeaaDoor
open Go.RowKit Go.Sort Go.Lib

/-- A WRITER at wb: t rows are told, rest is not -/
structure WrAt (w : World) (wb base : Nat) (k c : Nat) (P G : Int) (id t : Nat) (v : Value) (rest : List UInt8) : Prop where
  wr : Cells w wb 98 [.int .i64 (k : Int), .int .i64 P, .int .i64 G, .int .u64 (id : Int), .int .i64 (t : Int), v]
  own : Own w base v rest
  hok : okS k P G = true
  hcG : roomOf G = (c : Int)
  hid : id < two64
  ht : (t : Int) < P
  hr : rest.length < k * c
  hgl : 0 < base
section
set_option maxRecDepth 20000
set_option maxHeartbeats 1600000
variable {w w' : World} {wb base k c : Nat} {P G : Int} {id t : Nat} {v : Value} {rest : List UInt8}
theorem WrAt.below (h : WrAt w wb base k c P G id t v rest) (hb : Below w.heap.size w w') : WrAt w' wb base k c P G id t v rest :=
  ⟨h.wr.move (hb.block _ h.wr.lt), h.own.below hb, h.hok, h.hcG, h.hid, h.ht, h.hr, h.hgl⟩
theorem WrAt.facts (h : WrAt w wb base k c P G id t v rest) : 1 ≤ k ∧ k ≤ 32 ∧ 13 ≤ c ∧ c ≤ 65535 ∧ (t : Int) ≤ 4095 ∧ P ≤ 4096 ∧ 2 ≤ P ∧ 13 ≤ k * c ∧ k * c ≤ 2097120 ∧ rowS k P G = ((k * c : Nat) : Int) := by
  obtain ⟨h1, h2, h3, h4, h5, h6, _⟩ := okS_facts h.hok
  have h7 := h.hcG
  have h8 := h.ht
  have hb := rowS_bounds h.hok
  have hrv : rowS k P G = ((k * c : Nat) : Int) := by rw [rowS_ok h.hok, h7]; simp
  rw [hrv] at hb
  exact ⟨by omega, by omega, by omega, by omega, by omega, by omega, by omega, by omega, by omega, hrv⟩
theorem size_any (h : WrAt w wb base k c P G id t v rest) : Calls Tryd.prog 34 #[.pointer (some ⟨wb, 0, none⟩)] w fun e w' => e = .returned (.int .i64 ((t * (k * c) + rest.length : Nat) : Int)) ∧ Gr w w' := by
  obtain ⟨h1, h2, h3, h4, h5, h6, h7, h8, h9, hrv⟩ := h.facts
  have hrr := h.hr
  obtain ⟨A, cp, rfl, hc, _, _⟩ := h.own.rb
  have Hr := Lib.hid fun W => row_any (k : Int) P G W
  rw [hrv] at Hr
  unfold shV at Hr
  have hl := h.wr.lt
  have c0 : ∀ n os, (grow (w.drewN n) os).cell? ⟨wb, 0, none⟩ = some (.int .i64 (k : Int)) := fun n os => cell_grown (a := ⟨wb, 0, none⟩) hl (h.wr.cell rfl) n os
  have c1 : ∀ n os, (grow (w.drewN n) os).cell? ⟨wb, 1, none⟩ = some (.int .i64 P) := fun n os => cell_grown (a := ⟨wb, 1, none⟩) hl (h.wr.cell rfl) n os
  have c2 : ∀ n os, (grow (w.drewN n) os).cell? ⟨wb, 2, none⟩ = some (.int .i64 G) := fun n os => cell_grown (a := ⟨wb, 2, none⟩) hl (h.wr.cell rfl) n os
  have c4 : ∀ n os, (grow (w.drewN n) os).cell? ⟨wb, 4, none⟩ = some (.int .i64 (t : Int)) := fun n os => cell_grown (a := ⟨wb, 4, none⟩) hl (h.wr.cell rfl) n os
  have c5 : ∀ n os, (grow (w.drewN n) os).cell? ⟨wb, 5, none⟩ = some (.slice A rest.length cp) := fun n os => cell_grown (a := ⟨wb, 5, none⟩) hl (h.wr.cell rfl) n os
  have HG : Hid (∀ n os, Gr w (grow (w.drewN n) os)) := fun n os => ⟨n, os, rfl⟩
  obtain ⟨R, hR⟩ : ∃ R, R = k * c := ⟨_, rfl⟩
  rw [← hR] at Hr h8 h9 hrr ⊢
  obtain ⟨s, hs⟩ : ∃ s, s = t * R := ⟨_, rfl⟩
  have hsb : s ≤ 4095 * 2097120 := by rw [hs]; exact Nat.mul_le_mul (by omega) h9
  have hm : (t : Int) * (R : Int) = (s : Int) := by rw [hs]; simp
  rw [← hs]
  generalize rest.length = n at *
  have hval : IntKind.i64.wrap (IntKind.i64.wrap ((t : Int) * (R : Int)) + (n : Int)) = ((s + n : Nat) : Int) := by
    rw [hm, show IntKind.i64.wrap (s : Int) = (s : Int) from by rw [IntKind.wrap_i64]; omega, IntKind.wrap_i64]
    omega
  have hval2 : wrap64 (wrap64 ((t : Int) * (R : Int)) + (n : Int)) = ((s + n : Nat) : Int) := by
    have := hval
    simp only [IntWalk.i64_left] at this
    exact this
  clear h hl hc hrv h1 h2 h3 h4 h5 h6 h7 h8 h9 hR hs hrr hm hval
  have Hval := Lib.hid hval2
  clear hval2
  go_enter Tryd.func34, Tryd.ntmps34
  go_wp2_with fail
  refine wp_region_quiet_grown (by kernel_rfl) (by kernel_rfl) ?_
  try simp only [List.append]
  repeat (go_big_quiet_step (first | (go_at_call 14; refine Calls.grown_of (Hr.out _))))
  refine wpQuiet_nil ?_
  intro _ hw'
  obtain ⟨⟨nq, osq⟩, hw''⟩ := hw'
  subst hw''
  go_wp2_with fail
  go_ret
  exact ⟨by have := Hval.out; simpa using this, HG.out _ _⟩
theorem left_any (h : WrAt w wb base k c P G id t v rest) (hP : -9223372036854775808 ≤ P ∧ P ≤ 9223372036854775807) : Calls Tryd.prog 35 #[.pointer (some ⟨wb, 0, none⟩)] w fun e w' => e = .returned (.int .i64 (roomS k P G - ((t * (k * c) + rest.length : Nat) : Int))) ∧ Gr w w' := by
  obtain ⟨h1, h2, h3, h4, h5, h6, h7, h8, h9, hrv⟩ := h.facts
  have hrr := h.hr
  have hs2 : t * (k * c) ≤ 4095 * 2097120 := Nat.mul_le_mul (by omega) h9
  have hr1 : 0 ≤ roomS k P G ∧ roomS k P G ≤ 2097120 * 4095 := by
    unfold roomS
    rw [hrv]
    obtain ⟨p, hp⟩ : ∃ p : Nat, P - 1 = (p : Int) := ⟨(P - 1).toNat, by omega⟩
    rw [hp]
    have h10 : (k * c) * p ≤ 2097120 * 4095 := Nat.mul_le_mul h9 (by omega)
    have h11 : ((k * c : Nat) : Int) * (p : Int) = (((k * c) * p : Nat) : Int) := by simp
    rw [h11]
    omega
  have c0 := h.wr.cell (i := 0) rfl
  have c1 := h.wr.cell (i := 1) rfl
  have c2 := h.wr.cell (i := 2) rfl
  have Hr := Lib.hid (sroom_any (k : Int) P G hP w)
  unfold shV at Hr
  have Hs : Hid (∀ W, Gr w W → Calls Tryd.prog 34 #[.pointer (some ⟨wb, 0, none⟩)] W fun e w' => e = .returned (.int .i64 ((t * (k * c) + rest.length : Nat) : Int)) ∧ Gr W w') := fun W hg => size_any (h.below hg.below)
  have hsz : t * (k * c) + rest.length ≤ 17179869184 := by omega
  generalize t * (k * c) + rest.length = S at *
  generalize roomS k P G = RR at *
  obtain ⟨hr2, hr3⟩ := hr1
  have hr4 : (S : Int) ≤ 17179869184 := by omega
  clear h hrv h1 h2 h3 h4 h5 h6 h7 h8 h9 hrr hs2
  go_enter Tryd.func35, Tryd.ntmps35
  go_wp2_with fail
  refine Hr.out.mono ?_
  rintro e w1 ⟨rfl, hg1⟩
  have Hs1 := Lib.hid (Hs.out w1 hg1)
  have HG1 := Lib.hid hg1
  clear hg1 Hr Hs
  go_wp2_with fail
  refine Hs1.out.mono ?_
  rintro e w2 ⟨rfl, hg2⟩
  have HG2 : Hid (Gr w w2) := HG1.out.trans hg2
  clear hg2 Hs1
  go_wp2_with fail
  go_ret
  exact ⟨rfl, HG2.out⟩
theorem newW_any (K P G : Int) (id : Nat) (w : World) : Calls Tryd.prog 28 #[shV K P G, .int .u64 (id : Int)] w fun e w' => (okS K P G = false ∧ e = .returned (.tuple #[.pointer none, .int .i64 1]) ∧ Below w.heap.size w w') ∨
    (okS K P G = true ∧ ∃ wb, e = .returned (.tuple #[.pointer (some ⟨wb, 0, none⟩), .int .i64 0]) ∧ w.heap.size ≤ wb ∧ Cells w' wb 98 [.int .i64 K, .int .i64 P, .int .i64 G, .int .u64 (id : Int), .int .i64 0, .slice none 0 0] ∧ Below w.heap.size w w') := by
  obtain ⟨W1, hW1⟩ : ∃ W1, W1 = w.alloc (.cells #[.int .i64 K, .int .i64 P, .int .i64 G] 23) := ⟨_, rfl⟩
  have hC1 : Cells W1 w.heap.size 23 [.int .i64 K, .int .i64 P, .int .i64 G] := by rw [hW1]; exact Cells.new w _ _
  have hB1 : Below w.heap.size w W1 := by rw [hW1]; exact (Below.refl _ _).alloc (Nat.le_refl _) _
  have Hc := Lib.hid (check_any K P G W1)
  have HC2 : Hid (∀ W, W = W1.alloc (.cells #[.int .i64 K, .int .i64 P, .int .i64 G] 23) → Cells W w.heap.size 23 [.int .i64 K, .int .i64 P, .int .i64 G] ∧ Below w.heap.size w W) := fun W hW => by rw [hW]; exact ⟨hC1.alloc _, hB1.alloc hB1.size _⟩
  have c0 := hC1.cell (i := 0) rfl
  have c1 := hC1.cell (i := 1) rfl
  have c2 := hC1.cell (i := 2) rfl
  unfold shV at Hc ⊢
  clear hC1 hB1
  rcases hok : okS K P G with _ | _
  · rw [chkS_no hok] at Hc
    clear hok
    go_enter Tryd.func28, Tryd.ntmps28
    go_wp2_with fail
    rw [← hW1]
    clear hW1
    refine Hc.out.mono ?_
    rintro e w1 ⟨rfl, hw1⟩
    have H1 := Lib.hid (HC2.out w1 hw1)
    clear hw1
    go_wp2_with fail
    go_ret2
    exact .inl ⟨by trivial, rfl, H1.out.2⟩
  · rw [chkS_ok hok] at Hc
    clear hok
    go_enter Tryd.func28, Tryd.ntmps28
    go_wp2_with fail
    rw [← hW1]
    clear hW1
    refine Hc.out.mono ?_
    rintro e w1 ⟨rfl, hw1⟩
    have H1 := Lib.hid (HC2.out w1 hw1)
    have d0 := H1.out.1.cell (i := 0) rfl
    have d1 := H1.out.1.cell (i := 1) rfl
    have d2 := H1.out.1.cell (i := 2) rfl
    clear hw1 c0 c1 c2
    go_wp2_with fail
    go_ret2
    exact .inr ⟨by trivial, _, rfl, H1.out.2.size, Cells.new w1 _ _, H1.out.2.alloc H1.out.2.size _⟩
end
end Go.Proofs.YtlficcdbnmheeaaDoor
