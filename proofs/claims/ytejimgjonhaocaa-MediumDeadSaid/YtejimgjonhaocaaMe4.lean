/-
  Deep: how many mediums lie upon one another.
-/
import Derived.Test.YtejimgjonhaocaaMe3
import Derived.Sort.Grow
namespace Go.Proofs.Ytejimgjonhaocaa
open Go.RowKit Go.Maps Go.Lib Go.Sort

/-- a row's cells, or those of none -/
def rowC (L : List Md) (n : Nat) : List Value := match look L n with
  | some m => [.int .u64 (m.id : Int), .int .u64 (m.tgt : Int), .int .i64 (m.off : Int), .int .i64 (m.size : Int), .bool m.fixed, .int .i64 (ups L n : Nat)]
  | none => [.int .u64 0, .int .u64 0, .int .i64 0, .int .i64 0, .bool false, .int .i64 0]
theorem rowC_len (L : List Md) (n : Nat) : (rowC L n).length = 6 := by unfold rowC; split <;> rfl
theorem TabG.fetchL {w : World} {tb mb dep nxt N : Nat} {L : List Md} (h : TabG w tb mb dep nxt (rowG L) N) {n : Nat} (hn : n < T64) : (Instr.lookup 65 (.map (some mb)) (.int .u64 (n : Int)) true).run Try.prog w = .ok (.tuple #[.agg (rowC L n).toArray, .bool (look L n).isSome]) w := by
  have := h.fetch hn
  rw [this]
  unfold rowG rowC rowV rowZ
  cases look L n <;> rfl
theorem set6 {w : World} {b : Nat} {t : TypeId} {x0 x1 x2 x3 x4 x5 : Value} (h : Cells w b t [x0, x1, x2, x3, x4, x5]) (y0 y1 y2 y3 y4 y5 : Value) : Cells ((((((w.setCell ⟨b, 0, none⟩ y0).setCell ⟨b, 1, none⟩ y1).setCell ⟨b, 2, none⟩ y2).setCell ⟨b, 3, none⟩ y3).setCell ⟨b, 4, none⟩ y4).setCell ⟨b, 5, none⟩ y5) b t [y0, y1, y2, y3, y4, y5] :=
  (((((h.set 0 y0).set 1 y1).set 2 y2).set 3 y3).set 4 y4).set 5 y5
theorem below_set1 {B : Nat} {w w' : World} (h : Below B w w') {b : Nat} (hb : B ≤ b) (i : Nat) (y : Value) : Below B w (w'.setCell ⟨b, i, none⟩ y) :=
  ⟨h.os, h.tape, h.output, by have := h.size; simpa [World.setCell] using this, fun k hk => (Below.heap_setCell _ _ _ _ (by show k ≠ b; omega)).trans (h.block k hk)⟩
theorem below_set6 {B : Nat} {w w' : World} (h : Below B w w') {b : Nat} (hb : B ≤ b) (y0 y1 y2 y3 y4 y5 : Value) : Below B w ((((((w'.setCell ⟨b, 0, none⟩ y0).setCell ⟨b, 1, none⟩ y1).setCell ⟨b, 2, none⟩ y2).setCell ⟨b, 3, none⟩ y3).setCell ⟨b, 4, none⟩ y4).setCell ⟨b, 5, none⟩ y5) :=
  below_set1 (below_set1 (below_set1 (below_set1 (below_set1 (below_set1 h hb _ _) hb _ _) hb _ _) hb _ _) hb _ _) hb _ _
theorem grown_of_below {w w' : World} (h : Below w.heap.size w w') (hd : w.drawn ≤ w'.drawn) : ∃ q os, w' = grow (w.drewN q) os := by
  refine ⟨w'.drawn - w.drawn, w'.heap.extract w.heap.size w'.heap.size, ?_⟩
  have hh : w'.heap = w.heap ++ w'.heap.extract w.heap.size w'.heap.size := by
    apply Array.ext_getElem?
    intro i
    have hs := h.size
    by_cases hi : i < w.heap.size
    · rw [Array.getElem?_append_left hi]; exact h.block i hi
    · rw [Array.getElem?_append_right (by omega), Array.getElem?_extract]
      by_cases hi2 : i < w'.heap.size
      · rw [if_pos (by omega)]; congr 1; omega
      · rw [if_neg (by omega), Array.getElem?_eq_none (by omega)]
  obtain ⟨heap, tape, drawn, os, output⟩ := w'
  have e1 := h.os
  have e2 := h.tape
  have e3 := h.output
  simp only at e1 e2 e3 hh hd
  simp only [grow, World.drewN, World.mk.injEq]
  exact ⟨hh, e2, by omega, e1, e3⟩
theorem drawn_set1 (w : World) (p : Addr) (y : Value) : (w.setCell p y).drawn = w.drawn := rfl
theorem le_set6 {n : Nat} {w : World} (h : n ≤ w.drawn) (b : Nat) (y0 y1 y2 y3 y4 y5 : Value) : n ≤ ((((((w.setCell ⟨b, 0, none⟩ y0).setCell ⟨b, 1, none⟩ y1).setCell ⟨b, 2, none⟩ y2).setCell ⟨b, 3, none⟩ y3).setCell ⟨b, 4, none⟩ y4).setCell ⟨b, 5, none⟩ y5).drew.drawn := by
  show n ≤ _ + 1
  rw [drawn_set1, drawn_set1, drawn_set1, drawn_set1, drawn_set1, drawn_set1]
  omega
/-- Deep under way: it stands at k, its row at B -/
structure DpSt (w wr : World) (L : List Md) (D c k B : Nat) : Prop where
  hc : Cells wr B 75 (rowC L k)
  hb : Below w.heap.size w wr
  hB : w.heap.size ≤ B
  hk : k < T64
  hd : c + deepL L k = D
  hg : w.drawn ≤ wr.drawn
theorem rowC_some {L : List Md} {k : Nat} {m : Md} (h : look L k = some m) : rowC L k = [.int .u64 (m.id : Int), .int .u64 (m.tgt : Int), .int .i64 (m.off : Int), .int .i64 (m.size : Int), .bool m.fixed, .int .i64 (ups L k : Nat)] := by unfold rowC; rw [h]
theorem rowC_none {L : List Md} {k : Nat} (h : look L k = none) : rowC L k = [.int .u64 0, .int .u64 0, .int .i64 0, .int .i64 0, .bool false, .int .i64 0] := by unfold rowC; rw [h]
theorem rowC_form (L : List Md) (k : Nat) : ∃ (a b c d : Int) (f : Bool) (u : Int), rowC L k = [.int .u64 a, .int .u64 b, .int .i64 c, .int .i64 d, .bool f, .int .i64 u] := by
  unfold rowC; split <;> exact ⟨_, _, _, _, _, _, rfl⟩
section
set_option maxRecDepth 20000
set_option maxHeartbeats 1600000
variable {w w' : World} {tb mb dep nxt N : Nat} {L : List Md}
theorem deep_any (h : TabG w tb mb dep nxt (rowG L) N) (ho : Ok dep nxt L) (hx : nxt ≤ 1000000) {n : Nat} (hn : n < T64) :
    Calls Try.prog 14 #[.pointer (some ⟨tb, 0, none⟩), .int .u64 (n : Int)] w fun e w' => e = .returned (.int .i64 (deepL L n : Nat)) ∧ ∃ q os, w' = grow (w.drewN q) os := by
  have c2 := h.t2
  have H := Lib.hid h
  have Ho := Lib.hid ho
  have Hn := Lib.hid hn
  have hD : deepL L n ≤ 64 := Nat.le_trans (deepL_le ho n) ho.d2
  obtain ⟨D, hDe⟩ : ∃ D, D = deepL L n := ⟨_, rfl⟩
  rw [← hDe] at hD ⊢
  have hlk := h.fetchL hn
  obtain ⟨ok, hok⟩ : ∃ ok, ok = (look L n).isSome := ⟨_, rfl⟩
  rw [← hok] at hlk
  obtain ⟨x0, x1, x2, x3, x4, x5, hcs⟩ := rowC_form L n
  rw [hcs] at hlk
  have H0 : Hid (DpSt w (w.alloc (.cells #[.int .u64 x0, .int .u64 x1, .int .i64 x2, .int .i64 x3, .bool x4, .int .i64 x5] 75)) L D 0 n w.heap.size) := ⟨by rw [hcs]; exact Cells.new w _ _, (Below.refl _ _).alloc (Nat.le_refl _) _, Nat.le_refl _, hn, by omega, Nat.le_refl _⟩
  have Hok := Lib.hid hok
  clear h ho hn hok hDe hcs
  go_enter Try.func14, Try.ntmps14
  go_wp2_with fail
  generalize w.alloc (.cells #[.int .u64 x0, .int .u64 x1, .int .i64 x2, .int .i64 x3, .bool x4, .int .i64 x5] 75) = w1 at *
  clear hlk c2
  obtain ⟨B0, hB0⟩ : ∃ B, B = w.heap.size := ⟨_, rfl⟩
  rw [← hB0] at H0 ⊢
  have HB0 := Lib.hid hB0
  clear hB0
  go_loopw [5, 6, 7] (fun nv pv ov wr => ∃ (c k B : Nat), nv = .int .i64 (c : Int) ∧ pv = .pointer (some ⟨B, 0, none⟩) ∧ ov = .bool (look L k).isSome ∧ Hid (DpSt w wr L D c k B)) (fun nv _ _ _ => D - (intOf nv).toNat)
  case atStart => exact ⟨0, n, B0, rfl, rfl, by rw [Hok.out], by have := H0; rwa [HB0.out] at this ⊢⟩
  case round =>
    obtain ⟨c, k, B, rfl, rfl, rfl, Hs⟩ := hrel
    cases hm : look L k with
    | none =>
      have Hf : Hid (c = D) := by have := Hs.out.hd; rw [deepL_none hm] at this; exact this
      have Hb := Lib.hid (grown_of_below Hs.out.hb Hs.out.hg)
      clear hm Hs
      go_wp2_with fail
      go_ret
      exact ⟨by simp [Hf.out], Hb.out⟩
    | some m =>
      obtain ⟨q1, q2⟩ := look_mem hm
      have hdn : c + (1 + deepL L m.tgt) = D := by have := Hs.out.hd; rw [deepL_some Ho.out.down Ho.out.look_zero hm] at this; exact this
      have hc1 : (c : Int) ≤ 64 := by omega
      have htg : m.tgt < T64 := Nat.lt_of_lt_of_le (Ho.out.down m q1) (by have := Hs.out.hk; omega)
      have Hd := Lib.hid (And.intro hdn htg)
      have Hc := Hs.out.hc
      rw [rowC_some hm] at Hc
      have k0 := Hc.cell (i := 0) rfl
      have k1 := Hc.cell (i := 1) rfl
      have k2 := Hc.cell (i := 2) rfl
      have k3 := Hc.cell (i := 3) rfl
      have k4 := Hc.cell (i := 4) rfl
      have k5 := Hc.cell (i := 5) rfl
      have Hb := Lib.hid Hs.out.hb
      have Hg := Lib.hid Hs.out.hg
      have HTr := Lib.hid (H.out.below Hb.out)
      have c2 := HTr.out.t2
      clear hm Hs hdn htg Hc q1 q2
      have hlt := (HTr.out.mc.lt)
      go_wp2_with fail
      obtain ⟨y0, y1, y2, y3, y4, y5, hcy⟩ := rowC_form L m.tgt
      obtain ⟨ok2, hok2⟩ : ∃ ok, ok = (look L m.tgt).isSome := ⟨_, rfl⟩
      have Hy : Hid (rowC L m.tgt = [.int .u64 y0, .int .u64 y1, .int .i64 y2, .int .i64 y3, .bool y4, .int .i64 y5] ∧ ok2 = (look L m.tgt).isSome) := ⟨hcy, hok2⟩
      have Ht2 := Lib.hid (HTr.out.alloc (.cells #[.int .u64 (m.id : Int), .int .u64 (m.tgt : Int), .int .i64 (m.off : Int), .int .i64 (m.size : Int), .bool m.fixed, .int .i64 (ups L k : Nat)] 75))
      have Hc2 := Lib.hid (Cells.new wr #[.int .u64 (m.id : Int), .int .u64 (m.tgt : Int), .int .i64 (m.off : Int), .int .i64 (m.size : Int), .bool m.fixed, .int .i64 (ups L k : Nat)] 75)
      have Hb2 : Hid (Below w.heap.size w (wr.alloc (.cells #[.int .u64 (m.id : Int), .int .u64 (m.tgt : Int), .int .i64 (m.off : Int), .int .i64 (m.size : Int), .bool m.fixed, .int .i64 (ups L k : Nat)] 75)) ∧ w.heap.size ≤ wr.heap.size ∧ w.drawn ≤ (wr.alloc (.cells #[.int .u64 (m.id : Int), .int .u64 (m.tgt : Int), .int .i64 (m.off : Int), .int .i64 (m.size : Int), .bool m.fixed, .int .i64 (ups L k : Nat)] 75)).drawn) := ⟨Hb.out.alloc Hb.out.size _, Hb.out.size, Hg.out⟩
      have hlk := (Ht2.out.drew).fetchL Hd.out.2
      rw [hcy, ← hok2] at hlk
      clear k0 k1 k2 k3 k4 k5 c2 Hb Hg hok2 hcy hlt HTr
      generalize (wr.alloc (.cells #[.int .u64 (m.id : Int), .int .u64 (m.tgt : Int), .int .i64 (m.off : Int), .int .i64 (m.size : Int), .bool m.fixed, .int .i64 (ups L k : Nat)] 75)) = w2 at *
      generalize wr.heap.size = B2 at *
      have c2 := Ht2.out.t2
      have k1 := Hc2.out.cell (i := 1) rfl
      have f0 := Hc2.out.frozen 0
      have f1 := Hc2.out.frozen 1
      have f2 := Hc2.out.frozen 2
      have f3 := Hc2.out.frozen 3
      have f4 := Hc2.out.frozen 4
      have f5 := Hc2.out.frozen 5
      have j0 := Hc2.out.cell (i := 0) rfl
      have j2 := Hc2.out.cell (i := 2) rfl
      have j3 := Hc2.out.cell (i := 3) rfl
      have j4 := Hc2.out.cell (i := 4) rfl
      have j5 := Hc2.out.cell (i := 5) rfl
      go_region_with (fail)
      all_goals
        go_simp
        go_wp2_with fail
        go_roundw
        case rel =>
          refine ⟨c + 1, m.tgt, B2, rfl, rfl, by rw [Hy.out.2], ?_⟩
          exact ⟨by rw [Hy.out.1]; exact (set6 Hc2.out _ _ _ _ _ _).drew, (below_set6 Hb2.out.1 Hb2.out.2.1 _ _ _ _ _ _).drew, Hb2.out.2.1, Hd.out.2, by have := Hd.out.1; omega, le_set6 Hb2.out.2.2 _ _ _ _ _ _ _⟩
        case measure => have := Hd.out.1; simp [intOf]; omega
end
end Go.Proofs.Ytejimgjonhaocaa
