/-
  take walked: block by block.
-/
import Derived.Test.YtabhpgacnenacaaDoorSh4
namespace Go.Proofs.YtabhpgacnenacaaDoor
open Go.RowKit

/-- a digest's cells -/
def dgC (v : W8) (n : Nat) (rest : List UInt8) : List Value := v8 v ++ (.int .i64 (n : Int) :: bvs rest)
theorem dgC_len (v : W8) (n : Nat) (rest : List UInt8) : (dgC v n rest).length = 9 + rest.length := by simp [dgC, v8, bvs]; omega
theorem dgC_words (v u : W8) (n : Nat) (rest : List UInt8) : spl (dgC v n rest) 0 (v8 u) = dgC u n rest := by simp [spl, dgC, v8]
theorem dgC_at (v : W8) (n : Nat) (rest : List UInt8) (j : Nat) : (dgC v n rest)[9 + j]? = (bvs rest)[j]? := by
  rw [show 9 + j = j + 1 + 1 + 1 + 1 + 1 + 1 + 1 + 1 + 1 from by omega]
  simp [dgC, v8]
theorem dgC_rest (v : W8) (n : Nat) (rest x : List UInt8) (k : Nat) : spl (dgC v n rest) (9 + k) (bvs x) = dgC v n (rest.take k ++ x ++ rest.drop (k + x.length)) := by
  obtain ⟨hd, hhd⟩ : ∃ hd, hd = v8 v ++ [Value.int .i64 (n : Int)] := ⟨_, rfl⟩
  have hl : hd.length = 9 := by rw [hhd]; simp [v8]
  have e : ∀ r, dgC v n r = hd ++ bvs r := fun r => by rw [hhd]; simp [dgC]
  rw [e, e]
  unfold spl
  rw [← hl, List.take_length_add_append, Nat.add_assoc, List.drop_length_add_append]
  simp [bvs]
/-- THE SLICE AT A READS AS l, below B, and not where block g has its words -/
def RX (w : World) (B g : Nat) (A : Option Addr) (l : List UInt8) : Prop :=
  ∀ k x, l[k]? = some x → ∃ b o, A = some ⟨b, o, none⟩ ∧ b < B ∧ (b ≠ g ∨ 9 ≤ o) ∧ w.cell? ⟨b, o + k, none⟩ = some (bv x)
theorem RX.rb {w : World} {B g : Nat} {A : Option Addr} {l : List UInt8} (h : RX w B g A l) : RB w B A l := fun k x hx => by
  obtain ⟨b, o, rfl, h1, _, h3⟩ := h k x hx
  exact ⟨_, rfl, h1, by rw [add_flat]; exact h3⟩
theorem RX.take {w : World} {B g : Nat} {A : Option Addr} {l : List UInt8} (h : RX w B g A l) (n : Nat) : RX w B g A (l.take n) := fun k x hx => by
  rw [List.getElem?_take] at hx
  split at hx
  · exact h k x hx
  · cases hx
theorem RX.cutFlat {w : World} {B g b o : Nat} {l : List UInt8} (h : RX w B g (some ⟨b, o, none⟩) l) (n : Nat) : RX w B g (some ⟨b, o + n, none⟩) (l.drop n) := fun k x hx => by
  rw [List.getElem?_drop] at hx
  obtain ⟨b', o', e, h1, h2, h3⟩ := h _ _ hx
  cases e
  exact ⟨b, o + n, rfl, h1, by omega, by rw [Nat.add_assoc]; exact h3⟩
theorem RX.nil (w : World) (B g : Nat) (A : Option Addr) : RX w B g A [] := fun k x h => by simp at h
/-- it goes on where only g's words have turned -/
theorem RX.turn {w w' : World} {B g : Nat} {A : Option Addr} {l : List UInt8} {t : TypeId} {v u : W8} {n : Nat} {rest : List UInt8} (h : RX w B g A l) (h1 : Cells w g t (dgC v n rest)) (h2 : Cells w' g t (dgC u n rest)) (hk : Kept (fun b => b ≠ g) w w') (hB : B ≤ w.heap.size) : RX w' B g A l := fun k x hx => by
  obtain ⟨b, o, e, q1, q2, q3⟩ := h k x hx
  refine ⟨b, o, e, q1, q2, ?_⟩
  by_cases hb : b = g
  · subst hb
    have ho : 9 ≤ o := by rcases q2 with q | q; exact absurd rfl q; exact q
    obtain ⟨j, hj⟩ : ∃ j, o + k = 9 + j := ⟨o + k - 9, by omega⟩
    rw [hj] at q3 ⊢
    rw [cell_of_row w b _ _ _ _ h1, List.getElem?_toArray, dgC_at] at q3
    rw [cell_of_row w' b _ _ _ _ h2, List.getElem?_toArray, dgC_at]
    exact q3
  · exact (World.cell?_of_block (w := w) (hk.block b (Nat.lt_of_lt_of_le q1 hB) hb)).trans q3
theorem with_any' (v : W8) (b o : Nat) (l : List UInt8) (c : Nat) (w : World) (hT : NT w) (hl : l.length = 64) (hc : 64 ≤ c) (hr : RB w w.heap.size (some ⟨b, o, none⟩) l) :
    Calls Tryd.prog 28 #[.agg (v8 v).toArray, .slice (some ⟨b, o, none⟩) 64 c] w fun e w' => e = .returned (.agg (v8 (withL numsL v l)).toArray) ∧ Below w.heap.size w w' := with_any v b o l c w hT hl hc hr
/-- take under way -/
structure TkSt (w wr : World) (g : Nat) (v : W8) (n : Nat) (rest : List UInt8) (A : Option Addr) (l : List UInt8) : Prop where
  c : Cells wr g 51 (dgC v n rest)
  r : RX wr w.heap.size g A l
  k : Kept (fun b => b ≠ g) w wr
theorem TkSt.below {w wr w1 w5 : World} {g n : Nat} {v : W8} {rest l : List UInt8} {A : Option Addr} (h : TkSt w wr g v n rest A l) (e : Below wr.heap.size wr w1) (b : Below w1.heap.size w1 w5) : TkSt w w5 g v n rest A l := by
  have hb := e.trans (b.mono e.size)
  exact ⟨h.c.move (hb.block g h.c.lt), fun k x hx => by
    obtain ⟨b0, o0, e0, q1, q2, q3⟩ := h.r k x hx
    exact ⟨b0, o0, e0, q1, q2, (hb.cell (p := ⟨b0, o0 + k, none⟩) (Nat.lt_of_lt_of_le q1 h.k.size)).trans q3⟩, h.k.below hb⟩
theorem TkSt.store {w wr w' : World} {g n : Nat} {v u : W8} {rest l : List UInt8} {A : Option Addr} (h : TkSt w wr g v n rest A l) (hc : Cells w' g 51 (spl (dgC v n rest) 0 (v8 u))) (hk : Kept (fun b => b ≠ g) wr w') : TkSt w w' g u n rest A l := by
  rw [dgC_words] at hc
  exact ⟨hc, h.r.turn h.c hc hk h.k.size, h.k.trans (hk.mono fun b _ q => q)⟩
/-- eight words stored one by one -/
abbrev set8 (w : World) (g : Nat) (u : W8) : World := ((((((((w.setCell ⟨g, 0, none⟩ (.int .u32 (nv u.a))).setCell ⟨g, 1, none⟩ (.int .u32 (nv u.b))).setCell ⟨g, 2, none⟩ (.int .u32 (nv u.c))).setCell ⟨g, 3, none⟩ (.int .u32 (nv u.d))).setCell ⟨g, 4, none⟩ (.int .u32 (nv u.e))).setCell ⟨g, 5, none⟩ (.int .u32 (nv u.f))).setCell ⟨g, 6, none⟩ (.int .u32 (nv u.g))).setCell ⟨g, 7, none⟩ (.int .u32 (nv u.h)))
theorem cells_set8 {w : World} {g n : Nat} {v : W8} {rest : List UInt8} {t : TypeId} (h : Cells w g t (dgC v n rest)) (u : W8) : Cells (set8 w g u) g t (dgC u n rest) := by
  have := ((((((((h.set 0 (.int .u32 (nv u.a))).set 1 (.int .u32 (nv u.b))).set 2 (.int .u32 (nv u.c))).set 3 (.int .u32 (nv u.d))).set 4 (.int .u32 (nv u.e))).set 5 (.int .u32 (nv u.f))).set 6 (.int .u32 (nv u.g))).set 7 (.int .u32 (nv u.h)))
  simp only [dgC, v8, List.cons_append, List.nil_append, List.set_cons_zero, List.set_cons_succ] at this
  exact this
theorem kept_set8 (w : World) (g : Nat) (u : W8) : Kept (fun b => b ≠ g) w (set8 w g u) := (((((((((Kept.refl _ _).setCell (by simp) _).setCell (by simp) _).setCell (by simp) _).setCell (by simp) _).setCell (by simp) _).setCell (by simp) _).setCell (by simp) _).setCell (by simp) _)
theorem TkSt.store8 {w wr : World} {g n : Nat} {v : W8} {rest l : List UInt8} {A : Option Addr} (h : TkSt w wr g v n rest A l) (u : W8) : TkSt w (set8 wr g u) g u n rest A l := by
  have hc := cells_set8 h.c u
  have hk := kept_set8 wr g u
  exact ⟨hc, h.r.turn h.c hc hk h.k.size, h.k.trans (hk.mono fun b _ q => q)⟩
theorem blocksN_snoc (j : Nat) : ∀ (v : W8) (l : List UInt8), blocksN (j + 1) v l = withL numsL (blocksN j v l) ((l.drop (64 * j)).take 64) := by
  induction j with
  | zero => intro v l; rfl
  | succ j ih =>
    intro v l
    show blocksN (j + 1) (withL numsL v (l.take 64)) (l.drop 64) = _
    rw [ih, List.drop_drop, show 64 * (j + 1) = 64 + 64 * j from by omega]
    rfl
section
set_option maxRecDepth 100000
set_option maxHeartbeats 1000000
theorem take_any (g n k : Nat) (v : W8) (rest : List UInt8) (A : Option Addr) (l : List UInt8) (c : Nat) (w : World) (hT : NT w) (hg : Cells w g 51 (dgC v n rest)) (hgt : 0 ≠ g) (hl : l.length = 64 * k) (hk : k ≤ 1000000) (hc : l.length ≤ c) (hcm : c ≤ 9223372036854775807) (hr : RX w w.heap.size g A l) :
    Calls Tryd.prog 23 #[.pointer (some ⟨g, 0, none⟩), .slice A l.length c] w fun e w' => e = .returned (.tuple #[]) ∧ Cells w' g 51 (dgC (blocksN k v l) n rest) ∧ Kept (fun b => b ≠ g) w w' := by
  have HT := Lib.hid hT
  have H0 : Hid (TkSt w w g v n rest A l ∧ 0 ≠ g) := ⟨⟨hg, hr, Kept.refl _ _⟩, hgt⟩
  have HK := Lib.hid (And.intro hk hl)
  obtain ⟨m, hm⟩ : ∃ m, m = l.length := ⟨_, rfl⟩
  rw [← hm] at hc ⊢
  have hm0 : m = 64 * k := by omega
  clear hT hg hr hl hk hm hgt
  go_enter Tryd.func23, Tryd.ntmps23
  go_wp2_with fail
  go_loopg [1] k (fun gx sv wr => ∃ (j r : Nat) (A' : Option Addr) (c' : Nat), sv = .slice A' (64 * r) c' ∧ j + r = k ∧ r ≤ gx ∧ 64 * r ≤ c' ∧ c' ≤ 9223372036854775807 ∧ Hid (TkSt w wr g (blocksN j v l) n rest A' (l.drop (64 * j))))
  case atStart => exact ⟨0, k, A, c, by rw [hm0], by omega, Nat.le_refl _, by omega, by omega, H0.out.1⟩
  case round =>
    obtain ⟨j, r, A', c', rfl, hjr, hrg, hrc, hcm', Hs⟩ := hrel
    by_cases hr0 : r = 0
    case pos =>
      subst hr0
      obtain rfl : j = k := by omega
      go_wp2_with fail
      go_end0
      exact ⟨rfl, Hs.out.c, Hs.out.k⟩
    case neg =>
    obtain ⟨q, hq⟩ : ∃ q, q = 64 * r := ⟨_, rfl⟩
    have hll : (l.drop (64 * j)).length = q := by rw [List.length_drop]; have := HK.out.2; omega
    rw [← hq] at hrc ⊢
    have hq64 : 64 ≤ q := by omega
    have hqi : 0 < (q : Int) := by omega
    obtain ⟨b', o', rfl, hb', -, -⟩ := Hs.out.r 0 _ (List.getElem?_eq_getElem (by omega))
    obtain ⟨V, hV⟩ : ∃ V, V = blocksN j v l := ⟨_, rfl⟩
    obtain ⟨ll, hll2⟩ : ∃ ll, ll = l.drop (64 * j) := ⟨_, rfl⟩
    rw [← hV, ← hll2] at Hs
    rw [← hll2] at hll
    have Hnx : Hid (blocksN (j + 1) v l = withL numsL V (ll.take 64) ∧ l.drop (64 * (j + 1)) = ll.drop 64) :=
      ⟨by rw [blocksN_snoc, hV, hll2], by rw [hll2, List.drop_drop]; congr 1⟩
    have Hw : Hid (∀ w1, Below wr.heap.size wr w1 → Calls Tryd.prog 28 #[.agg #[.int .u32 (nv V.a), .int .u32 (nv V.b), .int .u32 (nv V.c), .int .u32 (nv V.d), .int .u32 (nv V.e), .int .u32 (nv V.f), .int .u32 (nv V.g), .int .u32 (nv V.h)], .slice (some ⟨b', o', none⟩) 64 c'] w1 fun e w' => e = .returned (.agg #[.int .u32 (nv (withL numsL V (ll.take 64)).a), .int .u32 (nv (withL numsL V (ll.take 64)).b), .int .u32 (nv (withL numsL V (ll.take 64)).c), .int .u32 (nv (withL numsL V (ll.take 64)).d), .int .u32 (nv (withL numsL V (ll.take 64)).e), .int .u32 (nv (withL numsL V (ll.take 64)).f), .int .u32 (nv (withL numsL V (ll.take 64)).g), .int .u32 (nv (withL numsL V (ll.take 64)).h)]) ∧ Below w1.heap.size w1 w') := by
      intro w1 h1
      refine with_any' V b' o' _ c' w1 ?_ (by rw [List.length_take]; omega) (by omega) ?_
      · have hk := Hs.out.k
        refine NT.below (w := wr) ⟨fun i x hx => ?_, Nat.lt_of_lt_of_le HT.out.2 hk.size⟩ h1 (Nat.le_refl _)
        exact (World.cell?_of_block (w := w) (hk.block _ HT.out.2 H0.out.2)).trans (HT.out.1 i x hx)
      · exact ((Hs.out.r.take 64).rb.wide Hs.out.k.size).below h1 |>.wide h1.size
    obtain ⟨U, hU⟩ : ∃ U, U = withL numsL V (ll.take 64) := ⟨_, rfl⟩
    have Hst : Hid (∀ w1 w5, Below wr.heap.size wr w1 → Below w1.heap.size w1 w5 → TkSt w (set8 w5 g U) g U n rest (some ⟨b', o', none⟩) ll) := fun w1 w5 e b => (Hs.out.below e b).store8 U
    have HC := Lib.hid (fun w1 w5 (e : Below wr.heap.size wr w1) (b : Below w1.heap.size w1 w5) => (Hs.out.below e b).c)
    rw [← hU] at Hw Hnx
    have c0 := Hs.out.c.cell (i := 0) rfl
    have c1 := Hs.out.c.cell (i := 1) rfl
    have c2 := Hs.out.c.cell (i := 2) rfl
    have c3 := Hs.out.c.cell (i := 3) rfl
    have c4 := Hs.out.c.cell (i := 4) rfl
    have c5 := Hs.out.c.cell (i := 5) rfl
    have c6 := Hs.out.c.cell (i := 6) rfl
    have c7 := Hs.out.c.cell (i := 7) rfl
    have Hq := Lib.hid (And.intro hq (And.intro hll (And.intro hjr (And.intro hrg (And.intro hV hll2)))))
    clear hV hll2 hq hll hjr hrg Hs hr0 hm0 hb' hU
    by_cases hc64 : c' = 64
    case pos =>
      subst hc64
      have hq64b : q = 64 := by omega
      have hr1 : r = 1 := by have := Hq.out.1; omega
      subst hq64b hr1
      go_wp2_with fail
      go_region_with (go_at_call 28; refine (Hw.out _ ?_).mono ?_; exact ⟨rfl, rfl, rfl, Nat.le_refl _, fun _ _ => rfl⟩; rintro e w5 ⟨rfl, b5⟩; have B5 := Lib.hid b5; have D5 := HC.out wr.drew w5 ⟨rfl, rfl, rfl, Nat.le_refl _, fun _ _ => rfl⟩ b5; have d0 := D5.cell (i := 0) rfl; have f0 := D5.frozen 0; have d1 := D5.cell (i := 1) rfl; have f1 := D5.frozen 1; have d2 := D5.cell (i := 2) rfl; have f2 := D5.frozen 2; have d3 := D5.cell (i := 3) rfl; have f3 := D5.frozen 3; have d4 := D5.cell (i := 4) rfl; have f4 := D5.frozen 4; have d5 := D5.cell (i := 5) rfl; have f5 := D5.frozen 5; have d6 := D5.cell (i := 6) rfl; have f6 := D5.frozen 6; have d7 := D5.cell (i := 7) rfl; have f7 := D5.frozen 7; clear b5 D5)
      have H6 : Hid (TkSt w (set8 w5 g U) g U n rest (some ⟨b', o', none⟩) ll) := Hst.out wr.drew w5 ⟨rfl, rfl, rfl, Nat.le_refl _, fun _ _ => rfl⟩ B5.out
      unfold set8 at H6
      go_wp2_with fail
      go_roundg 0
      case measure => have := Hq.out; omega
      case rel =>
        refine ⟨j + 1, 0, some ⟨b', o', none⟩, 0, rfl, by have := Hq.out; omega, Nat.le_refl _, by omega, by omega, ?_⟩
        rw [Hnx.out.1, Hnx.out.2, List.drop_of_length_le (by have := Hq.out; omega)]
        exact ⟨H6.out.c, RX.nil _ _ _ _, H6.out.k⟩
    case neg =>
      have hc65 : 64 < c' := by omega
      have hc64i : (64 : Int) ≤ (c' : Int) := by omega
      have hq64i : (64 : Int) ≤ (q : Int) := by omega
      go_wp2_with fail
      go_region_with (go_at_call 28; refine (Hw.out _ ?_).mono ?_; exact ⟨rfl, rfl, rfl, Nat.le_refl _, fun _ _ => rfl⟩; rintro e w5 ⟨rfl, b5⟩; have B5 := Lib.hid b5; have D5 := HC.out wr.drew w5 ⟨rfl, rfl, rfl, Nat.le_refl _, fun _ _ => rfl⟩ b5; have d0 := D5.cell (i := 0) rfl; have f0 := D5.frozen 0; have d1 := D5.cell (i := 1) rfl; have f1 := D5.frozen 1; have d2 := D5.cell (i := 2) rfl; have f2 := D5.frozen 2; have d3 := D5.cell (i := 3) rfl; have f3 := D5.frozen 3; have d4 := D5.cell (i := 4) rfl; have f4 := D5.frozen 4; have d5 := D5.cell (i := 5) rfl; have f5 := D5.frozen 5; have d6 := D5.cell (i := 6) rfl; have f6 := D5.frozen 6; have d7 := D5.cell (i := 7) rfl; have f7 := D5.frozen 7; clear b5 D5)
      have H6 : Hid (TkSt w (set8 w5 g U) g U n rest (some ⟨b', o', none⟩) ll) := Hst.out wr.drew w5 ⟨rfl, rfl, rfl, Nat.le_refl _, fun _ _ => rfl⟩ B5.out
      unfold set8 at H6
      go_wp2_with fail
      go_roundg (r - 1)
      case measure => have := Hq.out; omega
      case rel =>
        have e : q - 64 = 64 * (r - 1) := by have := Hq.out; omega
        refine ⟨j + 1, r - 1, some ⟨b', o' + 64, none⟩, c' - 64, by rw [← e], by have := Hq.out; omega, Nat.le_refl _, by omega, by omega, ?_⟩
        rw [Hnx.out.1, Hnx.out.2]
        exact ⟨H6.out.c, H6.out.r.cutFlat 64, H6.out.k⟩
end
end Go.Proofs.YtabhpgacnenacaaDoor
