/-
  SegUnlike: the law's walk.
-/
import Derived.Test.YtlficcdbnmheeaaDoorSg27
import Derived.Test.YtlficcdbnmheeaaDoorKSg23
import Derived.Test.YtlficcdbnmheeaaDoorKSg9
import Derived.Test.YtlficcdbnmheeaaDoorSg18
namespace Go.Proofs.YtlficcdbnmheeaaDoor
open Go.RowKit Go.Sort Go.Lib

/-- how many of the first t payloads are other ones -/
def cntU (k i t : Nat) : Nat := (if i < t then 1 else 0) + (if k < t then 1 else 0) + (if k + 1 < t then 1 else 0)
theorem cntU_succ {k i t : Nat} (hi : i < k) : cntU k i (t + 1) = cntU k i t + (if difB k i t = true then 1 else 0) := by
  unfold cntU difB
  by_cases h1 : t = i
  · subst h1
    rw [if_pos (by omega), if_neg (by omega), if_neg (by omega), if_neg (by omega), if_neg (by omega), if_neg (by omega), if_pos (by simp)]
  by_cases h2 : t = k
  · subst h2
    rw [if_pos (by omega), if_pos (by omega), if_neg (by omega), if_pos (by omega), if_neg (by omega), if_neg (by omega), if_pos (by simp)]
  by_cases h3 : t = k + 1
  · subst h3
    rw [if_pos (by omega), if_pos (by omega), if_pos (by omega), if_pos (by omega), if_pos (by omega), if_neg (by omega), if_pos (by simp)]
  · rw [if_neg (show ¬ (decide (t = i ∨ t = k ∨ t = k + 1) = true) by simp; omega)]
    have e1 : (if i < t + 1 then 1 else 0) = (if i < t then 1 else 0) := by
      by_cases q : i < t
      · rw [if_pos q, if_pos (by omega)]
      · rw [if_neg q, if_neg (by omega)]
    have e2 : (if k < t + 1 then 1 else 0) = (if k < t then 1 else 0) := by
      by_cases q : k < t
      · rw [if_pos q, if_pos (by omega)]
      · rw [if_neg q, if_neg (by omega)]
    have e3 : (if k + 1 < t + 1 then 1 else 0) = (if k + 1 < t then 1 else 0) := by
      by_cases q : k + 1 < t
      · rw [if_pos q, if_pos (by omega)]
      · rw [if_neg q, if_neg (by omega)]
    rw [e1, e2, e3]; rfl
theorem cntU_end {k i : Nat} (hi : i < k) : cntU k i (k + 2) = 3 := by
  unfold cntU
  rw [if_pos (by omega), if_pos (by omega), if_pos (by omega)]
section
set_option maxRecDepth 20000
set_option maxHeartbeats 8000000
theorem unlike_any (K P G row other at' : Int) (ia ib : Nat) (A : Option Addr) (cp dl : Nat) (d : List UInt8) (hdl : dl = d.length) (hia : ia < two64) (hib : ib < two64) (w : World) (hT : Tab w) (hr : RB w w.heap.size A d) (hc : d.length ≤ cp) :
    Calls Tryd.prog 7 #[shV K P G, .int .u64 (ia : Int), .int .u64 (ib : Int), .int .i64 row, .int .i64 other, .slice A dl cp, .int .i64 at'] w fun e w' => e = .returned (.bool true) ∧ Below w.heap.size w w' := by
  obtain ⟨W1, hW1⟩ : ∃ W1, W1 = w.alloc (.cells #[.int .i64 K, .int .i64 P, .int .i64 G] 23) := ⟨_, rfl⟩
  have hC1 : Cells W1 w.heap.size 23 [.int .i64 K, .int .i64 P, .int .i64 G] := by rw [hW1]; exact Cells.new w _ _
  have hB1 : Below w.heap.size w W1 := by rw [hW1]; exact (Below.refl _ _).alloc (Nat.le_refl _) _
  have HF : Hid (∀ W, Below W1.heap.size W1 W → Below w.heap.size w W ∧ W.cell? ⟨w.heap.size, 0, none⟩ = some (.int .i64 K) ∧ W.cell? ⟨w.heap.size, 1, none⟩ = some (.int .i64 P) ∧ W.cell? ⟨w.heap.size, 2, none⟩ = some (.int .i64 G)) := fun W hb => by
    have hc := hC1.move (hb.block _ hC1.lt)
    exact ⟨hB1.trans (hb.mono hB1.size), hc.cell rfl, hc.cell rfl, hc.cell rfl⟩
  have HG : Hid (∀ W W', Below W1.heap.size W1 W → Gr W W' → Below W1.heap.size W1 W') := fun W W' hb hg => hb.trans (hg.below.mono hb.size)
  have HT : Hid (∀ W, Below W1.heap.size W1 W → Tab W ∧ RB W W.heap.size A d) := fun W hb => by
    have h := hB1.trans (hb.mono hB1.size)
    exact ⟨hT.below h hT.pos, (hr.below h).wide h.size⟩
  have HB : Hid (∀ W W', Below W1.heap.size W1 W → Below W.heap.size W W' → Below W1.heap.size W1 W') := fun W W' hb hg => hb.trans (hg.mono hb.size)
  have Hkn := Lib.hid (known_any W1 (hT.below hB1 hT.pos))
  have Hsm := Lib.hid fun W => small_any K P G W
  have Hck : Hid (∀ W, Calls Tryd.prog 12 #[shV K P G] W fun e w' => e = .returned (.int .i64 (chkS K P G)) ∧ Gr W w') := fun W => (check_any K P G W).mono fun e w' ⟨h, q⟩ => ⟨h, by rw [q]; exact Gr.alloc _ _⟩
  have Hrw := Lib.hid fun W => row_any K P G W
  have Hdl := Lib.hid hdl
  have Hcp := Lib.hid hc
  have HWs : Hid (w.heap.size < W1.heap.size) := hC1.lt
  generalize smallS K P G = SM at *
  rcases SM with _ | _
  · unfold shV at *
    clear hC1 hB1 hT hr hc hia hib hdl
    go_enter Tryd.func7, Tryd.ntmps7
    go_wp2_with fail
    rw [← hW1]
    clear hW1
    refine Hkn.out.mono ?_
    rintro e w2 ⟨rfl, hb2⟩
    have H2 := Lib.hid hb2
    obtain ⟨_, y0, y1, y2⟩ := HF.out w2 hb2
    clear hb2 Hkn
    go_wp2_with fail
    refine (Hsm.out w2).mono ?_
    rintro e w3 ⟨rfl, hg9⟩
    have H3 := Lib.hid (HG.out w2 w3 H2.out hg9)
    clear hg9 y0 y1 y2
    obtain ⟨_, y0, y1, y2⟩ := HF.out w3 H3.out
    go_wp2_with fail
    go_ret
    exact ⟨rfl, (HF.out w3 H3.out).1⟩
  rcases hok : okS K P G with _ | _
  · rw [chkS_no hok] at Hck
    unfold shV at *
    clear hC1 hB1 hT hr hc hia hib hdl hok
    go_enter Tryd.func7, Tryd.ntmps7
    go_wp2_with fail
    rw [← hW1]
    clear hW1
    refine Hkn.out.mono ?_
    rintro e w2 ⟨rfl, hb2⟩
    have H2 := Lib.hid hb2
    obtain ⟨_, y0, y1, y2⟩ := HF.out w2 hb2
    clear hb2 Hkn
    go_wp2_with fail
    refine (Hsm.out w2).mono ?_
    rintro e w3 ⟨rfl, hg9⟩
    have H3 := Lib.hid (HG.out w2 w3 H2.out hg9)
    clear hg9 y0 y1 y2
    obtain ⟨_, y0, y1, y2⟩ := HF.out w3 H3.out
    go_wp2_with fail
    refine (Hck.out w3).mono ?_
    rintro e w4 ⟨rfl, hg9⟩
    have H4 := Lib.hid (HG.out w3 w4 H3.out hg9)
    clear hg9 y0 y1 y2
    obtain ⟨_, y0, y1, y2⟩ := HF.out w4 H4.out
    go_wp2_with fail
    go_ret
    exact ⟨rfl, (HF.out w4 H4.out).1⟩
  rw [chkS_ok hok] at Hck
  by_cases h0 : dl = 0
  · subst h0
    unfold shV at *
    clear hC1 hB1 hT hr hc hia hib hdl hok
    go_enter Tryd.func7, Tryd.ntmps7
    go_wp2_with fail
    rw [← hW1]
    clear hW1
    refine Hkn.out.mono ?_
    rintro e w2 ⟨rfl, hb2⟩
    have H2 := Lib.hid hb2
    obtain ⟨_, y0, y1, y2⟩ := HF.out w2 hb2
    clear hb2 Hkn
    go_wp2_with fail
    refine (Hsm.out w2).mono ?_
    rintro e w3 ⟨rfl, hg9⟩
    have H3 := Lib.hid (HG.out w2 w3 H2.out hg9)
    clear hg9 y0 y1 y2
    obtain ⟨_, y0, y1, y2⟩ := HF.out w3 H3.out
    go_wp2_with fail
    refine (Hck.out w3).mono ?_
    rintro e w4 ⟨rfl, hg9⟩
    have H4 := Lib.hid (HG.out w3 w4 H3.out hg9)
    clear hg9 y0 y1 y2
    obtain ⟨_, y0, y1, y2⟩ := HF.out w4 H4.out
    go_wp2_with fail
    go_ret
    exact ⟨rfl, (HF.out w4 H4.out).1⟩
  have h0' : ((dl : Int) == 0) = false := by simp; omega
  by_cases hlong : rowS K P G < (dl : Int)
  · generalize rowS K P G = RW at *
    unfold shV at *
    clear hC1 hB1 hT hr hc hia hib hdl hok
    go_enter Tryd.func7, Tryd.ntmps7
    go_wp2_with fail
    rw [← hW1]
    clear hW1
    refine Hkn.out.mono ?_
    rintro e w2 ⟨rfl, hb2⟩
    have H2 := Lib.hid hb2
    obtain ⟨_, y0, y1, y2⟩ := HF.out w2 hb2
    clear hb2 Hkn
    go_wp2_with fail
    refine (Hsm.out w2).mono ?_
    rintro e w3 ⟨rfl, hg9⟩
    have H3 := Lib.hid (HG.out w2 w3 H2.out hg9)
    clear hg9 y0 y1 y2
    obtain ⟨_, y0, y1, y2⟩ := HF.out w3 H3.out
    go_wp2_with fail
    refine (Hck.out w3).mono ?_
    rintro e w4 ⟨rfl, hg9⟩
    have H4 := Lib.hid (HG.out w3 w4 H3.out hg9)
    clear hg9 y0 y1 y2
    obtain ⟨_, y0, y1, y2⟩ := HF.out w4 H4.out
    go_wp2_with fail
    refine (Hrw.out w4).mono ?_
    rintro e w5 ⟨rfl, hg9⟩
    have H5 := Lib.hid (HG.out w4 w5 H4.out hg9)
    clear hg9 y0 y1 y2
    obtain ⟨_, y0, y1, y2⟩ := HF.out w5 H5.out
    go_wp2_with fail
    go_ret
    exact ⟨rfl, (HF.out w5 H5.out).1⟩
  obtain ⟨h1, h2, h3, h4, h5, h6, h7, h8⟩ := okS_facts hok
  obtain ⟨k, rfl⟩ : ∃ k : Nat, K = (k : Int) := ⟨K.toNat, by omega⟩
  obtain ⟨c, hcG⟩ : ∃ c : Nat, roomOf G = (c : Int) := ⟨(roomOf G).toNat, by omega⟩
  have hrv : rowS k P G = ((k * c : Nat) : Int) := by rw [rowS_ok hok, hcG]; simp
  have hdk : d.length ≤ k * c := by rw [hrv] at hlong; omega
  have hk1 : 1 ≤ k := by omega
  have hk2 : k ≤ 32 := by omega
  have hkb : (1 : Int) ≤ (k : Int) ∧ (k : Int) ≤ 32 := by omega
  obtain ⟨hkb1, hkb2⟩ := hkb
  have hdb : dl ≤ 2097120 := by have := (rowS_bounds hok).2; omega
  have hdb1 : (dl : Int) ≤ 2097120 := by omega
  have hdb2 : (1 : Int) ≤ (dl : Int) := by omega
  obtain ⟨PX, fx, hPXl, hpx, _⟩ := pages_both k P G row ia d hia
  obtain ⟨PY, fy, hPYl, hpy, _⟩ := pages_both k P G other ib d hib
  rw [← hdl] at hpx hpy
  have HPX := Lib.hid hpx
  have HPY := Lib.hid hpy
  have Hcp' : Hid (dl ≤ cp) := by rw [hdl]; exact hc
  have Hbad : Hid (∀ (id : Nat) (r : Int) W, (r < 1 ∨ P ≤ r) → Calls Tryd.prog 21 #[shV k P G, .int .u64 (id : Int), .int .i64 r, .slice A dl cp] W fun e w' => e = .returned (.tuple #[.slice none 0 0, .int .i64 1]) ∧ Gr W w') := fun id r W hr9 => pages_bad k P G r id dl cp A 1 (.inl ⟨.inr hr9, rfl⟩) W
  have Hgood : Hid (∀ (id : Nat) (r : Int) W (A2 : Option Addr) (c2 : Nat) (d2 : List UInt8), id < two64 → 1 ≤ r ∧ r < P → d2.length = dl → dl ≤ c2 → Tab W → RB W W.heap.size A2 d2 → Calls Tryd.prog 21 #[shV k P G, .int .u64 (id : Int), .int .i64 r, .slice A2 dl c2] W fun e w' => ∃ g, e = .returned (.tuple #[.slice (some ⟨g, 0, none⟩) (k + 2) (k + 2), .int .i64 0]) ∧ RM w' w'.heap.size (some ⟨g, 0, none⟩) (pageM G r id (rowM k c d2)) ∧ Below W.heap.size W w') := fun id r W A2 c2 d2 hid hr9 hl2 hc2 hTW hrW => by
    have := pages_ok k c c2 P G r id A2 d2 hok hcG hr9 hrW (by rw [hl2, hdl]; exact hdk) (by omega) hTW hid
    rw [hl2] at this
    refine this.mono ?_
    rintro e w' ⟨g, he, q1, q2⟩
    exact ⟨g, he, q1.rm, q2⟩
  unfold shV at *
  clear hpx hpy
  by_cases hx : row < 1 ∨ P ≤ row
  · generalize rowS (k : Int) P G = RW at *
    clear hC1 hB1 hT hr hc hdl hok hcG hrv hdk hk1 hk2 hia hib h1 h2 h3 h4 h5 h6 h7 h8 Hgood hdb hdb1 hPXl hPYl
    go_enter Tryd.func7, Tryd.ntmps7
    go_wp2_with fail
    rw [← hW1]
    clear hW1
    refine Hkn.out.mono ?_
    rintro e w2 ⟨rfl, hb2⟩
    have H2 := Lib.hid hb2
    obtain ⟨_, y0, y1, y2⟩ := HF.out w2 hb2
    clear hb2 Hkn
    go_wp2_with fail
    refine (Hsm.out w2).mono ?_
    rintro e w3 ⟨rfl, hg9⟩
    have H3 := Lib.hid (HG.out w2 w3 H2.out hg9)
    clear hg9 y0 y1 y2
    obtain ⟨_, y0, y1, y2⟩ := HF.out w3 H3.out
    go_wp2_with fail
    refine (Hck.out w3).mono ?_
    rintro e w4 ⟨rfl, hg9⟩
    have H4 := Lib.hid (HG.out w3 w4 H3.out hg9)
    clear hg9 y0 y1 y2
    obtain ⟨_, y0, y1, y2⟩ := HF.out w4 H4.out
    go_wp2_with fail
    refine (Hrw.out w4).mono ?_
    rintro e w5 ⟨rfl, hg9⟩
    have H5 := Lib.hid (HG.out w4 w5 H4.out hg9)
    clear hg9 y0 y1 y2
    obtain ⟨_, y0, y1, y2⟩ := HF.out w5 H5.out
    go_wp2_with fail
    refine (Hbad.out ia row w5 hx).mono ?_
    rintro e w6 ⟨rfl, hg9⟩
    have H6 := Lib.hid (HG.out w5 w6 H5.out hg9)
    clear hg9 y0 y1 y2
    obtain ⟨_, y0, y1, y2⟩ := HF.out w6 H6.out
    go_wp2_with fail
    refine (HPY.out w6 A cp (HT.out w6 H6.out).1 (HT.out w6 H6.out).2 Hcp'.out).mono ?_
    rintro e w7 ⟨A7, c7, rfl, _, hb7⟩
    have H7 := Lib.hid (HB.out w6 w7 H6.out hb7)
    clear hb7
    go_wp2_with fail
    go_ret
    exact ⟨rfl, (HF.out w7 H7.out).1⟩
  by_cases hy : other < 1 ∨ P ≤ other
  · generalize rowS (k : Int) P G = RW at *
    have hx' : 1 ≤ row ∧ row < P := by omega
    clear hC1 hB1 hT hr hc hdl hok hcG hrv hdk hk1 hk2 hib h1 h2 h3 h4 h5 h6 h7 h8 hdb hdb1 hPXl hPYl hx Hgood
    go_enter Tryd.func7, Tryd.ntmps7
    go_wp2_with fail
    rw [← hW1]
    clear hW1
    refine Hkn.out.mono ?_
    rintro e w2 ⟨rfl, hb2⟩
    have H2 := Lib.hid hb2
    obtain ⟨_, y0, y1, y2⟩ := HF.out w2 hb2
    clear hb2 Hkn
    go_wp2_with fail
    refine (Hsm.out w2).mono ?_
    rintro e w3 ⟨rfl, hg9⟩
    have H3 := Lib.hid (HG.out w2 w3 H2.out hg9)
    clear hg9 y0 y1 y2
    obtain ⟨_, y0, y1, y2⟩ := HF.out w3 H3.out
    go_wp2_with fail
    refine (Hck.out w3).mono ?_
    rintro e w4 ⟨rfl, hg9⟩
    have H4 := Lib.hid (HG.out w3 w4 H3.out hg9)
    clear hg9 y0 y1 y2
    obtain ⟨_, y0, y1, y2⟩ := HF.out w4 H4.out
    go_wp2_with fail
    refine (Hrw.out w4).mono ?_
    rintro e w5 ⟨rfl, hg9⟩
    have H5 := Lib.hid (HG.out w4 w5 H4.out hg9)
    clear hg9 y0 y1 y2
    obtain ⟨_, y0, y1, y2⟩ := HF.out w5 H5.out
    go_wp2_with fail
    refine (HPX.out w5 A cp (HT.out w5 H5.out).1 (HT.out w5 H5.out).2 Hcp'.out).mono ?_
    rintro e w6 ⟨A6, c6, rfl, _, hb6⟩
    have H6 := Lib.hid (HB.out w5 w6 H5.out hb6)
    clear hb6 y0 y1 y2
    obtain ⟨_, y0, y1, y2⟩ := HF.out w6 H6.out
    go_wp2_with fail
    refine (Hbad.out ib other w6 hy).mono ?_
    rintro e w7 ⟨rfl, hg9⟩
    have H7 := Lib.hid (HG.out w6 w7 H6.out hg9)
    clear hg9
    by_cases hf : fx = 0
    · subst hf
      go_wp2_with fail
      go_ret
      exact ⟨rfl, (HF.out w7 H7.out).1⟩
    · have hf' : (fx != 0) = true := by simpa using hf
      go_wp2_with fail
      go_ret
      exact ⟨rfl, (HF.out w7 H7.out).1⟩
  have hx' : 1 ≤ row ∧ row < P := by omega
  have hy' : 1 ≤ other ∧ other < P := by omega
  have HE : Hid (∀ (i j : Nat) (x y : List UInt8), (pageM G row ia (rowM k c d))[i]? = some x → (pageM G other ib (rowM k c d))[j]? = some y → (x = y ↔ (ia = ib ∧ row = other ∧ i = j))) := fun i j x y hxi hyj => by
    have hl := rowM_len (k := k) (c := c) (d := d) hk1 (by omega) hdk
    have hi : i < (rowM k c d).length := by have := (List.getElem?_eq_some_iff.1 hxi).1; rwa [pageM_len] at this
    have hj : j < (rowM k c d).length := by have := (List.getElem?_eq_some_iff.1 hyj).1; rwa [pageM_len] at this
    rw [pageM_get hi] at hxi
    rw [pageM_get hj] at hyj
    cases hxi
    cases hyj
    have ri := rowM_row (k := k) (c := c) (d := d) hk1 (by omega) hdk (List.getElem?_eq_getElem hi)
    have rj := rowM_row (k := k) (c := c) (d := d) hk1 (by omega) hdk (List.getElem?_eq_getElem hj)
    have gi : (rowM k c d).getD i [] = (rowM k c d)[i] := by rw [List.getD, List.getElem?_eq_getElem hi]; rfl
    have gj : (rowM k c d).getD j [] = (rowM k c d)[j] := by rw [List.getD, List.getElem?_eq_getElem hj]; rfl
    rw [pageOf_eq hcG (by omega) (by rw [gi]; exact ri) (by rw [gj]; exact rj) (by omega) (by omega) (by omega) (by omega) (by omega) (by omega) hia hib]
    exact ⟨fun q => ⟨q.1, q.2.1, q.2.2.1⟩, fun q => ⟨q.1, q.2.1, q.2.2, by rw [q.2.2]⟩⟩
  have HD : Hid (∀ (q t : Nat) (x y : List UInt8), q < dl → (pageM G row ia (rowM k c d))[t]? = some x → (pageM G row ia (rowM k c (flipL d q)))[t]? = some y → (x = y ↔ difB k (q / c) t = false)) := fun q t x y hq hxi hyj => by
    have hq2 : q < d.length := by omega
    have hl := rowM_len (k := k) (c := c) (d := d) hk1 (by omega) hdk
    have hdk' : (flipL d q).length ≤ k * c := by rw [flipL_len]; exact hdk
    have hl' := rowM_len (k := k) (c := c) (d := flipL d q) hk1 (by omega) hdk'
    have hi : t < (rowM k c d).length := by have := (List.getElem?_eq_some_iff.1 hxi).1; rwa [pageM_len] at this
    have hj : t < (rowM k c (flipL d q)).length := by have := (List.getElem?_eq_some_iff.1 hyj).1; rwa [pageM_len] at this
    rw [pageM_get hi] at hxi
    rw [pageM_get hj] at hyj
    cases hxi
    cases hyj
    have ri := rowM_row (k := k) (c := c) (d := d) hk1 (by omega) hdk (List.getElem?_eq_getElem hi)
    have rj := rowM_row (k := k) (c := c) (d := flipL d q) hk1 (by omega) hdk' (List.getElem?_eq_getElem hj)
    have gi : (rowM k c d).getD t [] = (rowM k c d)[t] := by rw [List.getD, List.getElem?_eq_getElem hi]; rfl
    have gj : (rowM k c (flipL d q)).getD t [] = (rowM k c (flipL d q))[t] := by rw [List.getD, List.getElem?_eq_getElem hj]; rfl
    rw [pageOf_eq hcG (by omega) (by rw [gi]; exact ri) (by rw [gj]; exact rj) (by omega) (by omega) (by omega) (by omega) (by omega) (by omega) hia hia]
    rw [← rowM_flip hk1 hk2 (by omega) hdk hq2 t (by omega)]
    exact ⟨fun q => q.2.2.2, fun q => ⟨rfl, rfl, rfl, q⟩⟩
  have HLX : Hid ((pageM G row ia (rowM k c d)).length = k + 2 ∧ (pageM G other ib (rowM k c d)).length = k + 2 ∧ (∀ q, (pageM G row ia (rowM k c (flipL d q))).length = k + 2) ∧ 1 ≤ c ∧ dl ≤ k * c ∧ 1 ≤ k ∧ k ≤ 32 ∧ dl ≤ 2097120 ∧ dl = d.length ∧ 1 ≤ dl) := ⟨by rw [pageM_len]; exact rowM_len hk1 (by omega) hdk, by rw [pageM_len]; exact rowM_len hk1 (by omega) hdk, fun q => by rw [pageM_len]; exact rowM_len hk1 (by omega) (by rw [flipL_len]; exact hdk), by omega, by omega, hk1, hk2, hdb, hdl, by omega⟩
  have Hids : Hid (ia < two64 ∧ ib < two64 ∧ (1 ≤ row ∧ row < P) ∧ (1 ≤ other ∧ other < P)) := ⟨hia, hib, hx', hy'⟩
  have HPZ : Hid (∀ (q : Nat) W (A2 : Option Addr) (c2 : Nat), q < dl → dl ≤ c2 → Tab W → RB W W.heap.size A2 (flipL d q) → Calls Tryd.prog 21 #[.agg #[.int .i64 (k : Int), .int .i64 P, .int .i64 G], .int .u64 (ia : Int), .int .i64 row, .slice A2 dl c2] W fun e w' => ∃ g, e = .returned (.tuple #[.slice (some ⟨g, 0, none⟩) (k + 2) (k + 2), .int .i64 0]) ∧ RM w' w'.heap.size (some ⟨g, 0, none⟩) (pageM G row ia (rowM k c (flipL d q))) ∧ Below W.heap.size W w') := fun q W A2 c2 hq hc2 hTW hrW => Hgood.out ia row W A2 c2 (flipL d q) hia hx' (by rw [flipL_len]; exact hdl.symm) hc2 hTW hrW
  generalize rowS (k : Int) P G = RW at *
  clear hC1 hB1 hT hr hc hdl hok hcG hrv hdk hk1 hk2 h1 h2 h3 h4 h5 h6 h7 h8 hdb hPXl hPYl hx hy hx' hy' hia hib HPX HPY Hbad
  go_enter Tryd.func7, Tryd.ntmps7
  go_wp2_with fail
  rw [← hW1]
  clear hW1
  refine Hkn.out.mono ?_
  rintro e w2 ⟨rfl, hb2⟩
  have H2 := Lib.hid hb2
  obtain ⟨_, y0, y1, y2⟩ := HF.out w2 hb2
  clear hb2 Hkn
  go_wp2_with fail
  refine (Hsm.out w2).mono ?_
  rintro e w3 ⟨rfl, hg9⟩
  have H3 := Lib.hid (HG.out w2 w3 H2.out hg9)
  clear hg9 y0 y1 y2
  obtain ⟨_, y0, y1, y2⟩ := HF.out w3 H3.out
  go_wp2_with fail
  refine (Hck.out w3).mono ?_
  rintro e w4 ⟨rfl, hg9⟩
  have H4 := Lib.hid (HG.out w3 w4 H3.out hg9)
  clear hg9 y0 y1 y2
  obtain ⟨_, y0, y1, y2⟩ := HF.out w4 H4.out
  go_wp2_with fail
  refine (Hrw.out w4).mono ?_
  rintro e w5 ⟨rfl, hg9⟩
  have H5 := Lib.hid (HG.out w4 w5 H4.out hg9)
  clear hg9 y0 y1 y2
  obtain ⟨_, y0, y1, y2⟩ := HF.out w5 H5.out
  go_wp2_with fail
  refine (Hgood.out ia row w5 A cp d Hids.out.1 Hids.out.2.2.1 Hdl.out.symm Hcp'.out (HT.out w5 H5.out).1 (HT.out w5 H5.out).2).mono ?_
  rintro e w6 ⟨gx, rfl, hrx, hb6⟩
  have H6 := Lib.hid (HB.out w5 w6 H5.out hb6)
  have HRX0 := Lib.hid hrx
  clear hb6 y0 y1 y2 hrx
  obtain ⟨_, y0, y1, y2⟩ := HF.out w6 H6.out
  go_wp2_with fail
  refine (Hgood.out ib other w6 A cp d Hids.out.2.1 Hids.out.2.2.2 Hdl.out.symm Hcp'.out (HT.out w6 H6.out).1 (HT.out w6 H6.out).2).mono ?_
  rintro e w7 ⟨gy, rfl, hry, hb7⟩
  have H7 := Lib.hid (HB.out w6 w7 H6.out hb7)
  have HRX : Hid (RM w7 w7.heap.size (some ⟨gx, 0, none⟩) (pageM G row ia (rowM k c d))) := (HRX0.out.below hb7).wide hb7.size
  have HRY := Lib.hid hry
  clear hb7 y0 y1 y2 hry HRX0 Hgood
  obtain ⟨_, y0, y1, y2⟩ := HF.out w7 H7.out
  go_wp2_with fail
  go_loopw [19] (fun iv wr => ∃ i q : Nat, iv = .int .i64 (i : Int) ∧ i ≤ k + 2 ∧ Hid (wr = w7.drewN q)) (fun iv _ => (k + 2) - (intOf iv).toNat)
  case atStart => exact ⟨0, 0, rfl, by omega, (show w7 = w7.drewN 0 from by simp [World.drewN])⟩
  case round =>
    obtain ⟨i, q0, rfl, hi, hrel⟩ := hrel
    by_cases hlt : i < k + 2
    · have hlt' : (i : Int) < (k : Int) + 2 := by omega
      generalize wr = W2 at *
      have Hrel0 := hrel
      clear hrel
      go_wp2_with fail
      go_loopw [20] (fun jv wr => ∃ j q : Nat, jv = .int .i64 (j : Int) ∧ j ≤ k + 2 ∧ Hid (wr = w7.drewN q)) (fun jv _ => (k + 2) - (intOf jv).toNat)
      case atStart => exact ⟨0, q0, rfl, by omega, Hrel0⟩
      case round =>
        clear Hrel0
        obtain ⟨j, q, rfl, hj, hrel⟩ := hrel
        by_cases hlt2 : j < k + 2
        · have hlt2' : (j : Int) < (k : Int) + 2 := by omega
          obtain ⟨l, hxl⟩ : ∃ l, (pageM G row ia (rowM k c d))[i]? = some l := ⟨_, List.getElem?_eq_getElem (by rw [HLX.out.1]; exact hlt)⟩
          obtain ⟨l2, hyl⟩ : ∃ l, (pageM G other ib (rowM k c d))[j]? = some l := ⟨_, List.getElem?_eq_getElem (by rw [HLX.out.2.1]; exact hlt2)⟩
          obtain ⟨b1, o1, A1, c1, ex, _, hcx, hrx, _⟩ := HRX.out i l hxl
          obtain ⟨b2, o2, A2, c2, ey, _, hcy, hry, _⟩ := HRY.out j l2 hyl
          cases ex
          cases ey
          have hee := HE.out i j l l2 hxl hyl
          rw [Nat.zero_add] at hcx hcy
          have g1 : wr.cell? ⟨gx, i, none⟩ = some (.slice A1 l.length c1) := by rw [hrel.out]; exact hcx
          have g2 : wr.cell? ⟨gy, j, none⟩ = some (.slice A2 l2.length c2) := by rw [hrel.out]; exact hcy
          have t1 := eql_str_conv wr w7.heap.size A1 l c1 (by rw [hrel.out]; exact hrx.drewN q)
          have t2 := eql_str_conv wr w7.heap.size A2 l2 c2 (by rw [hrel.out]; exact hry.drewN q)
          have Hn : Hid (∀ nq, wr.drewN nq = w7.drewN (q + nq)) := fun nq => by rw [hrel.out]; simp [World.drewN, Nat.add_assoc]
          by_cases hall : l = l2
          · obtain ⟨rfl, rfl, rfl⟩ := hee.1 hall
            subst hall
            have s1 : ((ia : Int) == (ia : Int)) = true := by simp
            have s2 : (row == row) = true := by simp
            have s3 : ((i : Int) == (i : Int)) = true := by simp
            generalize (⟨l.toArray⟩ : ByteArray) = X at t1 t2
            generalize l.length = m at *
            clear hxl hyl hcx hcy hrx hry hrel hee hlt hlt2 HE
            go_wp2_with fail
            go_quiet (fail)
            go_wp2_with fail
            go_roundw
            case rel => exact ⟨i + 1, q + nq, by go_num, by omega, Hn.out nq⟩
            case measure => simp [intOf]; omega
          · have hXY : ¬ (⟨l.toArray⟩ : ByteArray) = ⟨l2.toArray⟩ := fun e => hall (by
              have := congrArg (fun s : ByteArray => s.data.toList) e
              simpa using this)
            generalize (⟨l.toArray⟩ : ByteArray) = X at t1 hXY
            generalize (⟨l2.toArray⟩ : ByteArray) = Y at t2 hXY
            have hXY' : (X.toList == Y.toList) = false := by rw [eq_text]; exact decide_eq_false hXY
            generalize l.length = m at *
            generalize l2.length = m2 at *
            have hne : ¬ (ia = ib ∧ row = other ∧ i = j) := fun q9 => hall (hee.2 q9)
            clear hxl hyl hcx hcy hrx hry hrel hee hall HE
            by_cases e1 : ia = ib
            · subst e1
              have s1 : ((ia : Int) == (ia : Int)) = true := by simp
              by_cases e2 : row = other
              · subst e2
                have s2 : (row == row) = true := by simp
                have e3 : ¬ i = j := fun q9 => hne ⟨rfl, rfl, q9⟩
                have s3 : ((i : Int) == (j : Int)) = false := by simp; omega
                have s3' : ¬ (i : Int) = (j : Int) := by omega
                clear hlt hlt2 hne
                go_wp2_with fail
                go_quiet (fail)
                go_wp2_with fail
                go_roundw
                case rel => exact ⟨j + 1, q + nq, by go_num, by omega, Hn.out nq⟩
                case measure => simp [intOf]; omega
              · have s2 : (row == other) = false := by simpa using e2
                clear hlt hlt2 hne
                go_wp2_with fail
                go_quiet (fail)
                go_wp2_with fail
                go_roundw
                case rel => exact ⟨j + 1, q + nq, by go_num, by omega, Hn.out nq⟩
                case measure => simp [intOf]; omega
            · have s1 : ((ia : Int) == (ib : Int)) = false := by simp; omega
              have s1' : ¬ (ia : Int) = (ib : Int) := by omega
              clear hlt hlt2 hne
              go_wp2_with fail
              go_quiet (fail)
              go_wp2_with fail
              go_roundw
              case rel => exact ⟨j + 1, q + nq, by go_num, by omega, Hn.out nq⟩
              case measure => simp [intOf]; omega
        · obtain rfl : j = k + 2 := by omega
          have hlt2' : ¬ ((k : Int) + 2 < (k : Int) + 2) := by omega
          clear hlt2
          go_wp2_with fail
          go_roundw
          case rel => exact ⟨i + 1, q, by go_num, by omega, hrel⟩
          case measure => simp [intOf]; omega
    · obtain rfl : i = k + 2 := by omega
      have hlt' : ¬ ((k : Int) + 2 < (k : Int) + 2) := by omega
      clear hlt
      generalize wr = W2 at *
      have H9 : Hid (Below W1.heap.size W1 W2 ∧ Below w7.heap.size w7 W2) := by
        rw [hrel.out]
        exact ⟨drewN_below H7.out q0, drewN_below (Below.refl _ _) q0⟩
      clear hrel HE HRY y0 y1 y2
      obtain ⟨_, y0, y1, y2⟩ := HF.out W2 H9.out.1
      obtain ⟨hr1, hr2⟩ := rem_small at' dl HLX.out.2.2.2.2.2.2.2.2.2
      go_upto_region 18 with fail
      generalize at'.tmod (dl : Int) = r at *
      go_upto_if 111 with fail
      go_cut [6] (fun v wx => W2 = wx ∧ ∃ q : Nat, v = .int .i64 (q : Int) ∧ Hid (q < dl))
      case first => as_aux_lemma =>
        by_cases hn : r < 0
        · obtain ⟨q, hq⟩ : ∃ q : Nat, r + (dl : Int) = (q : Int) := ⟨(r + dl).toNat, by omega⟩
          have Hq : Hid (IntKind.i64.wrap (r + (dl : Int)) = (q : Int) ∧ q < dl) := ⟨by rw [hq, IntKind.wrap_i64]; omega, by omega⟩
          clear hq hr1 hr2
          go_wp2_with fail
          go_meet
          exact ⟨rfl, q, by first | rw [Hq.out.1] | (have := Hq.out.1; simp only [IntWalk.i64_left] at this; simp [this]), Hq.out.2⟩
        · obtain ⟨q, rfl⟩ : ∃ q : Nat, r = (q : Int) := ⟨r.toNat, by omega⟩
          have Hq : Hid (q < dl) := by show _ < _; omega
          clear hr1 hr2
          go_wp2_with fail
          go_meet
          exact ⟨rfl, q, rfl, Hq⟩
      case rest =>
      obtain ⟨rfl, q, rfl, Hq⟩ := hcut
      clear hr1 hr2
      have Hrb2 : Hid (RB (W2.alloc (.cells #[] 5)) W2.heap.size A d) := (HT.out W2 H9.out.1).2.below ((Below.refl _ _).alloc (Nat.le_refl _) _)
      obtain ⟨x8, hx8⟩ : ∃ x8, d[q]? = some x8 := ⟨_, List.getElem?_eq_getElem (by rw [← Hdl.out]; exact Hq.out)⟩
      obtain ⟨y8, hy8⟩ : ∃ y8 : Nat, (x8 ^^^ 1).toNat = y8 := ⟨_, rfl⟩
      have hxor : bits .xor .u8 (x8.toNat : Int) 1 = (y8 : Int) := by rw [← hy8, bx_nat]; exact u8_xor_nat _ _ (u8_lt x8) (by decide)
      have Hy8 := Lib.hid hy8
      clear hy8
      have HA8 : Hid (∀ v8 w8, Own w8 W2.heap.size v8 ([] ++ d) → Below W2.heap.size (W2.alloc (.cells #[] 5)) w8 → ∃ g cap, v8 = .slice (some ⟨g, 0, none⟩) dl cap ∧ w8.cell? ⟨g, q, none⟩ = some (.int .u8 (x8.toNat : Int)) ∧ w8.frozen? ⟨g, q, none⟩ = false ∧
          ((w8.setCell ⟨g, q, none⟩ (.int .u8 (y8 : Int))).cell? ⟨w.heap.size, 0, none⟩ = some (.int .i64 (k : Int)) ∧ (w8.setCell ⟨g, q, none⟩ (.int .u8 (y8 : Int))).cell? ⟨w.heap.size, 1, none⟩ = some (.int .i64 P) ∧ (w8.setCell ⟨g, q, none⟩ (.int .u8 (y8 : Int))).cell? ⟨w.heap.size, 2, none⟩ = some (.int .i64 G)) ∧
          Hid (dl ≤ cap ∧ RB (w8.setCell ⟨g, q, none⟩ (.int .u8 (y8 : Int))) (w8.setCell ⟨g, q, none⟩ (.int .u8 (y8 : Int))).heap.size (some ⟨g, 0, none⟩) (flipL d q) ∧ Below W2.heap.size W2 (w8.setCell ⟨g, q, none⟩ (.int .u8 (y8 : Int))))) := fun v8 w8 ho hb => by
        have hq := Hq.out
        have hdl := Hdl.out
        have ho' : Own w8 W2.heap.size v8 d := ho
        obtain ⟨g, cap, e, hg1, hg2, hg3, hcl, hfr⟩ := ho'.form (by omega)
        rw [← hdl] at e hg3
        subst e
        have hset := ho'.setB q (x8 ^^^ 1)
        rw [Hy8.out] at hset
        have hfl : d.set q (x8 ^^^ 1) = flipL d q := by
          unfold flipL
          rw [List.getD_eq_getElem?_getD, hx8]; rfl
        rw [hfl] at hset
        have hbel : Below W2.heap.size W2 (w8.setCell ⟨g, q, none⟩ (.int .u8 (y8 : Int))) := (((Below.refl _ _).alloc (Nat.le_refl _) (.cells #[] 5)).trans hb).setCell (p := ⟨g, q, none⟩) hg1 _
        obtain ⟨A9, c9, e9, _, hrb9, _⟩ := hset.rb
        have e10 := (Value.slice.inj e9).1
        rw [← e10] at hrb9
        have hxq : d[q]'(by omega) = x8 := by
          have := List.getElem?_eq_getElem (l := d) (i := q) (by omega)
          rw [hx8] at this
          exact (Option.some.inj this).symm
        refine ⟨g, cap, rfl, by rw [hcl q (by omega), hxq], hfr q, (HF.out _ (HB.out _ _ H9.out.1 hbel)).2, hg3, hrb9, hbel⟩
      have hql : (q : Int) < (dl : Int) := by have := Hq.out; omega
      clear hx8 y0 y1 y2
      go_wp2_with (at_builtin; refine app_bytes rfl (.tmp 116) (.tmp 117) rfl W2.heap.size _ [] rfl (Own.made W2 _ (Nat.le_refl _)) _ A dl cp d rfl Hdl.out Hrb2.out (by have := HLX.out; have := Hdl.out; simp; omega) (by simp) ?_; intro v8 w8 hown8 hbel8 _; obtain ⟨g8, cap8, rfl, z1, z2, ⟨y0, y1, y2⟩, H8⟩ := HA8.out v8 w8 hown8 hbel8; clear hown8 hbel8)
      obtain ⟨W9, hW9⟩ : ∃ W9, W9 = w8.setCell ⟨g8, q, none⟩ (.int .u8 (y8 : Int)) := ⟨_, rfl⟩
      rw [← hW9] at H8 ⊢
      have H10 : Hid (Below W1.heap.size W1 W9 ∧ Below w7.heap.size w7 W9) := ⟨HB.out _ _ H9.out.1 H8.out.2.2, H9.out.2.trans (H8.out.2.2.mono H9.out.2.size)⟩
      clear hW9 y0 y1 y2 z1 z2 HA8 hxor
      refine (HPZ.out q W9 (some ⟨g8, 0, none⟩) cap8 Hq.out H8.out.1 (HT.out W9 H10.out.1).1 H8.out.2.1).mono ?_
      rintro e w10 ⟨gz, rfl, hrz, hb10⟩
      have H11 : Hid (Below W1.heap.size W1 w10 ∧ RM w10 w7.heap.size (some ⟨gx, 0, none⟩) (pageM G row ia (rowM k c d)) ∧ RM w10 w10.heap.size (some ⟨gz, 0, none⟩) (pageM G row ia (rowM k c (flipL d q)))) := ⟨HB.out _ _ H10.out.1 hb10, HRX.out.below (H10.out.2.trans (hb10.mono H10.out.2.size)), hrz⟩
      have H11s : Hid (w7.heap.size ≤ w10.heap.size) := Nat.le_trans H10.out.2.size hb10.size
      have Hik : Hid (q / c < k ∧ q < dl) := ⟨Nat.div_lt_of_lt_mul (by have h9 := HLX.out.2.2.2.2.1; have hq := Hq.out; rw [Nat.mul_comm]; omega), Hq.out⟩
      have HDq := Lib.hid fun (t : Nat) (x y : List UInt8) => HD.out q t x y Hik.out.2
      generalize q / c = iq at *
      clear hrz hb10 H8 H10 H9 HPZ HRX HD
      go_wp2_with fail
      go_loopw [24, 23] (fun iv nv wr => ∃ t q2 : Nat, iv = .int .i64 (t : Int) ∧ t ≤ k + 2 ∧ nv = .int .i64 (cntU k iq t : Int) ∧ Hid (wr = w10.drewN q2)) (fun iv _ _ => (k + 2) - (intOf iv).toNat)
      case atStart => exact ⟨0, 0, rfl, by omega, by simp [cntU], (show w10 = w10.drewN 0 from by simp [World.drewN])⟩
      case round =>
        obtain ⟨t, q2, rfl, ht, rfl, hrel⟩ := hrel
        by_cases hlt : t < k + 2
        · have hlt' : (t : Int) < (k : Int) + 2 := by omega
          obtain ⟨l, hxl⟩ : ∃ l, (pageM G row ia (rowM k c d))[t]? = some l := ⟨_, List.getElem?_eq_getElem (by rw [HLX.out.1]; exact hlt)⟩
          obtain ⟨l2, hyl⟩ : ∃ l, (pageM G row ia (rowM k c (flipL d q)))[t]? = some l := ⟨_, List.getElem?_eq_getElem (by rw [HLX.out.2.2.1 q]; exact hlt)⟩
          obtain ⟨b1, o1, A1, c1, ex, _, hcx, hrx, _⟩ := H11.out.2.1 t l hxl
          obtain ⟨b2, o2, A2, c2, ey, _, hcy, hry, _⟩ := H11.out.2.2 t l2 hyl
          cases ex
          cases ey
          have hee := HDq.out t l l2 hxl hyl
          rw [Nat.zero_add] at hcx hcy
          have g1 : wr.cell? ⟨gx, t, none⟩ = some (.slice A1 l.length c1) := by rw [hrel.out]; exact hcx
          have g2 : wr.cell? ⟨gz, t, none⟩ = some (.slice A2 l2.length c2) := by rw [hrel.out]; exact hcy
          have t1 := eql_str_conv wr w10.heap.size A1 l c1 (by rw [hrel.out]; exact (hrx.drewN q2).wide H11s.out)
          have t2 := eql_str_conv wr w10.heap.size A2 l2 c2 (by rw [hrel.out]; exact hry.drewN q2)
          have Hn : Hid (∀ nq, wr.drewN nq = w10.drewN (q2 + nq)) := fun nq => by rw [hrel.out]; simp [World.drewN, Nat.add_assoc]
          have Hc3 : Hid (cntU k iq t ≤ 3) := by show _ ≤ _; unfold cntU; split <;> split <;> split <;> omega
          by_cases hall : l = l2
          · have hcn : Hid (cntU k iq (t + 1) = cntU k iq t) := by
              show _ = _
              rw [cntU_succ Hik.out.1, hee.1 hall]; rfl
            subst hall
            generalize (⟨l.toArray⟩ : ByteArray) = X at t1 t2
            generalize l.length = m at *
            clear hxl hyl hcx hcy hrx hry hrel hee hlt
            go_wp2_with fail
            go_quiet (fail)
            go_wp2_with fail
            go_roundw
            case rel => exact ⟨t + 1, q2 + nq, by go_num, by omega, by rw [hcn.out], Hn.out nq⟩
            case measure => simp [intOf]; omega
          · have hcn : Hid (cntU k iq (t + 1) = cntU k iq t + 1) := by
              show _ = _
              rw [cntU_succ Hik.out.1]
              have hd9 : difB k iq t = true := by
                rcases hz : difB k iq t with _ | _
                · exact absurd (hee.2 hz) hall
                · rfl
              rw [hd9]; rfl
            have hXY : ¬ (⟨l.toArray⟩ : ByteArray) = ⟨l2.toArray⟩ := fun e => hall (by
              have := congrArg (fun s : ByteArray => s.data.toList) e
              simpa using this)
            generalize (⟨l.toArray⟩ : ByteArray) = X at t1 hXY
            generalize (⟨l2.toArray⟩ : ByteArray) = Y at t2 hXY
            have hXY' : (X.toList == Y.toList) = false := by rw [eq_text]; exact decide_eq_false hXY
            generalize l.length = m at *
            generalize l2.length = m2 at *
            have hc3 : (cntU k iq t : Int) ≤ 3 := by have := Hc3.out; omega
            have Hcn2 : Hid ((cntU k iq (t + 1) : Int) = (cntU k iq t : Int) + 1) := by show _ = _; rw [hcn.out]; omega
            clear hxl hyl hcx hcy hrx hry hrel hee hlt hall Hc3
            generalize hz : cntU k iq t = ct at *
            clear hz
            go_wp2_with fail
            go_quiet (fail)
            go_wp2_with fail
            go_roundw
            case rel => exact ⟨t + 1, q2 + nq, by go_num, by omega, by rw [Hcn2.out], Hn.out nq⟩
            case measure => simp [intOf]; omega
        · obtain rfl : t = k + 2 := by omega
          have hlt' : ¬ ((k : Int) + 2 < (k : Int) + 2) := by omega
          have Hf : Hid (Below w.heap.size w wr) := by
            rw [hrel.out]
            exact drewN_below (HF.out w10 H11.out.1).1 q2
          rw [cntU_end Hik.out.1]
          clear hlt hrel
          go_wp2_with fail
          go_ret
          exact ⟨rfl, Hf.out⟩
end
end Go.Proofs.YtlficcdbnmheeaaDoor
