/-
  A hash as digits.
-/
import Derived.Test.YtabhpgacnenacaaDoorSh10
import Derived.Test.YtabhpgacnenacaaDoorZText
namespace Go.Proofs.YtabhpgacnenacaaDoor
open Go.RowKit

def digL : List UInt8 := [48, 49, 50, 51, 52, 53, 54, 55, 56, 57, 97, 98, 99, 100, 101, 102]
/-- two digits -/
def hex1 (x : UInt8) : List UInt8 := [digL.getD (x.toNat / 16) 0, digL.getD (x.toNat % 16) 0]
def hexL (l : List UInt8) : List UInt8 := l.flatMap hex1
theorem hexL_len (l : List UInt8) : (hexL l).length = 2 * l.length := by
  induction l with
  | nil => rfl
  | cons a l ih => show (hex1 a ++ hexL l).length = _; rw [List.length_append, ih]; simp [hex1]; omega
theorem hexL_snoc (l : List UInt8) (x : UInt8) : hexL (l ++ [x]) = hexL l ++ hex1 x := by simp [hexL]
theorem run_index_by (l : List UInt8) (i : Nat) (x : UInt8) (h : l[i]? = some x) (h32 : i < 32) (w : World) :
    (Instr.index 28 (.agg (bvs l).toArray) (.int .i64 (i : Int))).run Tryd.prog w = .ok (.int .u8 (x.toNat : Int)) w := by
  have hi : i < l.length := (List.getElem?_eq_some_iff.1 h).1
  have hs : (sizeOf 5).run Tryd.prog w = .ok 1 w := by kernel_rfl
  have ha : (isAgg 5).run Tryd.prog w = .ok false w := by kernel_rfl
  have hm := bvs_at h
  have hi32 : (i : Int) < 32 := by omega
  simp [Instr.index, asIntOf, run_underlying Tryd.underlying28, hs, ha, hi32, part, hm]
  intro hh
  omega
theorem run_digit (w : World) : ∀ k : Nat, k < 16 → (Instr.index 9 (.string ⟨#[48, 49, 50, 51, 52, 53, 54, 55, 56, 57, 97, 98, 99, 100, 101, 102]⟩) (.int .u8 (k : Int))).run Tryd.prog w = .ok (.int .u8 ((digL.getD k 0).toNat : Int)) w
  | 0, _ => by kernel_rfl
  | 1, _ => by kernel_rfl
  | 2, _ => by kernel_rfl
  | 3, _ => by kernel_rfl
  | 4, _ => by kernel_rfl
  | 5, _ => by kernel_rfl
  | 6, _ => by kernel_rfl
  | 7, _ => by kernel_rfl
  | 8, _ => by kernel_rfl
  | 9, _ => by kernel_rfl
  | 10, _ => by kernel_rfl
  | 11, _ => by kernel_rfl
  | 12, _ => by kernel_rfl
  | 13, _ => by kernel_rfl
  | 14, _ => by kernel_rfl
  | 15, _ => by kernel_rfl
  | n + 16, h => by omega
section
set_option maxRecDepth 100000
set_option maxHeartbeats 1000000
theorem string_any (l : List UInt8) (w : World) (hl : l.length = 32) : Calls Tryd.prog 16 #[.agg (bvs l).toArray] w fun e w' => e = .returned (.string ⟨(hexL l).toArray⟩) ∧ Below w.heap.size w w' := by
  obtain ⟨us, hus⟩ : ∃ us, us = bvs l := ⟨_, rfl⟩
  have hn : us.length = 32 := by rw [hus, bvs_length, hl]
  obtain ⟨W0, hW0⟩ : ∃ W0, W0 = (w.alloc (.cells us.toArray 28)).alloc (.cells #[.int .u8 0, .int .u8 0, .int .u8 0, .int .u8 0, .int .u8 0, .int .u8 0, .int .u8 0, .int .u8 0, .int .u8 0, .int .u8 0, .int .u8 0, .int .u8 0, .int .u8 0, .int .u8 0, .int .u8 0, .int .u8 0, .int .u8 0, .int .u8 0, .int .u8 0, .int .u8 0, .int .u8 0, .int .u8 0, .int .u8 0, .int .u8 0, .int .u8 0, .int .u8 0, .int .u8 0, .int .u8 0, .int .u8 0, .int .u8 0, .int .u8 0, .int .u8 0, .int .u8 0, .int .u8 0, .int .u8 0, .int .u8 0, .int .u8 0, .int .u8 0, .int .u8 0, .int .u8 0, .int .u8 0, .int .u8 0, .int .u8 0, .int .u8 0, .int .u8 0, .int .u8 0, .int .u8 0, .int .u8 0, .int .u8 0, .int .u8 0, .int .u8 0, .int .u8 0, .int .u8 0, .int .u8 0, .int .u8 0, .int .u8 0, .int .u8 0, .int .u8 0, .int .u8 0, .int .u8 0, .int .u8 0, .int .u8 0, .int .u8 0, .int .u8 0] 49) := ⟨_, rfl⟩
  have H0 : Hid (Cells W0 (w.heap.size + 1) 49 (bvs (padB 64 (hexL (l.take 0)))) ∧ Below w.heap.size w W0 ∧ Cells W0 w.heap.size 28 us) := by
    rw [hW0]
    refine ⟨?_, ((Below.refl _ _).alloc (Nat.le_refl _) _).alloc (by simp) _, (Cells.new w us.toArray _).alloc _⟩
    have := Cells.new (w.alloc (.cells us.toArray 28)) #[.int .u8 0, .int .u8 0, .int .u8 0, .int .u8 0, .int .u8 0, .int .u8 0, .int .u8 0, .int .u8 0, .int .u8 0, .int .u8 0, .int .u8 0, .int .u8 0, .int .u8 0, .int .u8 0, .int .u8 0, .int .u8 0, .int .u8 0, .int .u8 0, .int .u8 0, .int .u8 0, .int .u8 0, .int .u8 0, .int .u8 0, .int .u8 0, .int .u8 0, .int .u8 0, .int .u8 0, .int .u8 0, .int .u8 0, .int .u8 0, .int .u8 0, .int .u8 0, .int .u8 0, .int .u8 0, .int .u8 0, .int .u8 0, .int .u8 0, .int .u8 0, .int .u8 0, .int .u8 0, .int .u8 0, .int .u8 0, .int .u8 0, .int .u8 0, .int .u8 0, .int .u8 0, .int .u8 0, .int .u8 0, .int .u8 0, .int .u8 0, .int .u8 0, .int .u8 0, .int .u8 0, .int .u8 0, .int .u8 0, .int .u8 0, .int .u8 0, .int .u8 0, .int .u8 0, .int .u8 0, .int .u8 0, .int .u8 0, .int .u8 0, .int .u8 0] 49
    rw [World.size_alloc] at this
    exact this
  have hix := fun (i : Nat) (x : UInt8) (h : l[i]? = some x) (h32 : i < 32) => run_index_by l i x h h32
  rw [← hus] at hix ⊢
  have Hix := Lib.hid hix
  have hag : ∀ w, (isAgg 28).run Tryd.prog w = .ok true w := fun _ => by kernel_rfl
  have hsz : ∀ w, (sizeOf 28).run Tryd.prog w = .ok us.length w := by rw [hn]; exact fun _ => by kernel_rfl
  have HH := Lib.hid (And.intro hag hsz)
  have HW0 := Lib.hid (And.intro hW0 (And.intro hl hn))
  clear hW0 hix hag hsz hus hl hn
  go_enter Tryd.func16, Tryd.ntmps16
  go_wp2_with (rw [← HW0.out.1]; refine ld_row rfl 28 (.tmp 1) rfl rfl H0.out.2.2 HH.out.1 HH.out.2 ?_)
  go_loopw [7] (fun iv wr => ∃ i : Nat, iv = .int .i64 (i : Int) ∧ i ≤ 32 ∧ Hid (Cells wr (w.heap.size + 1) 49 (bvs (padB 64 (hexL (l.take i)))) ∧ Below w.heap.size w wr)) (fun iv _ => 32 - (intOf iv).toNat)
  case atStart => exact ⟨0, rfl, Nat.zero_le _, H0.out.1, H0.out.2.1⟩
  case round =>
    obtain ⟨i, rfl, hi, Hs⟩ := hrel
    clear H0
    by_cases hlt : i < 32
    case pos =>
      obtain ⟨x, hx⟩ : ∃ x, l[i]? = some x := ⟨_, List.getElem?_eq_getElem (by rw [HW0.out.2.1]; exact hlt)⟩
      have hix := Hix.out i x hx hlt
      obtain ⟨j, hj⟩ : ∃ j, j = 2 * i := ⟨_, rfl⟩
      have y1 : (2 : Int) * (i : Int) = (j : Int) := by omega
      obtain ⟨X, hX⟩ : ∃ X, X = x.toNat := ⟨_, rfl⟩
      have hX2 : X < 256 := by rw [hX]; exact x.toNat_lt
      obtain ⟨a, ha⟩ : ∃ a, a = X / 16 := ⟨_, rfl⟩
      obtain ⟨b, hb⟩ : ∃ b, b = X % 16 := ⟨_, rfl⟩
      have y2 : (X : Int) / 16 = (a : Int) := by omega
      have y3 : bits .and .u8 (X : Int) 15 = (b : Int) := by
        have := u8_and_nat X 15 hX2 (by omega)
        rw [nat_mask4] at this
        rw [hb]
        exact this
      have da := fun w => run_digit w a (by omega)
      have db := fun w => run_digit w b (by omega)
      have h2 : hexL (l.take (i + 1)) = hexL (l.take i) ++ [digL.getD a 0, digL.getD b 0] := by
        rw [List.take_add_one, hx]
        show hexL (l.take i ++ [x]) = _
        rw [hexL_snoc]
        unfold hex1
        rw [← hX, ← ha, ← hb]
      have hl : (hexL (l.take i)).length = j := by rw [hexL_len, List.length_take, HW0.out.2.1]; omega
      have k0 : wr.cell? ⟨w.heap.size + 1, j, none⟩ = some (.int .u8 ((0 : UInt8).toNat : Int)) := by
        have := padB_at (n := 64) (l := hexL (l.take i)) (by omega)
        rw [hl] at this
        exact Hs.out.1.cell (bvs_at this)
      have k1 : wr.cell? ⟨w.heap.size + 1, j + 1, none⟩ = some (.int .u8 ((0 : UInt8).toNat : Int)) := by
        refine Hs.out.1.cell (bvs_at ?_)
        unfold padB
        rw [List.getElem?_append_right (by omega), hl, List.getElem?_replicate, if_pos (by omega)]
      have f0 := Hs.out.1.frozen j
      have f1 := Hs.out.1.frozen (j + 1)
      have Hn : Hid (∀ w1, w1.heap = wr.heap → Below wr.heap.size wr w1 → Cells ((w1.setCell ⟨w.heap.size + 1, j, none⟩ (.int .u8 ((digL.getD a 0).toNat : Int))).setCell ⟨w.heap.size + 1, j + 1, none⟩ (.int .u8 ((digL.getD b 0).toNat : Int))) (w.heap.size + 1) 49 (bvs (padB 64 (hexL (l.take (i + 1))))) ∧ Below w.heap.size w ((w1.setCell ⟨w.heap.size + 1, j, none⟩ (.int .u8 ((digL.getD a 0).toNat : Int))).setCell ⟨w.heap.size + 1, j + 1, none⟩ (.int .u8 ((digL.getD b 0).toNat : Int)))) := by
        intro w1 e1 hb1
        have hb2 : Below w.heap.size w w1 := Hs.out.2.trans (hb1.mono Hs.out.2.size)
        refine ⟨?_, (hb2.setCell (by simp) _).setCell (by simp) _⟩
        have h := (Hs.out.1.move (w' := w1) (by rw [e1])).set j (.int .u8 ((digL.getD a 0).toNat : Int)) |>.set (j + 1) (.int .u8 ((digL.getD b 0).toNat : Int))
        rw [bvs_set, bvs_set] at h
        have e2 := padB_set (n := 64) (l := hexL (l.take i)) (by omega) (digL.getD a 0)
        have e3 := padB_set (n := 64) (l := hexL (l.take i) ++ [digL.getD a 0]) (by simp; omega) (digL.getD b 0)
        rw [hl] at e2
        rw [List.length_append, hl] at e3
        rw [e2] at h
        rw [show j + 1 = j + [digL.getD a 0].length from rfl, e3] at h
        rw [h2, show hexL (l.take i) ++ [digL.getD a 0, digL.getD b 0] = hexL (l.take i) ++ [digL.getD a 0] ++ [digL.getD b 0] from by simp]
        exact h
      have y4 : (j : Int) < 63 := by omega
      have y5 : j < 64 ∧ j + 1 < 64 := by omega
      obtain ⟨y6, y7⟩ := y5
      have y8 : (i : Int) < 32 := by omega
      have x1 : (j : Int) < 64 := by omega
      have x2 : (j : Int) + 1 < 64 := by omega
      have x3 : 0 ≤ (j : Int) + 1 := by omega
      have x4 : IntKind.i64.wrap ((j : Int) + 1) = (j : Int) + 1 := IntWalk.i64_in _ (by omega)
      have x5 : IntKind.i64.wrap (2 * (i : Int)) = (j : Int) := by rw [IntWalk.i64_in _ (by omega)]; omega
      have x6 : ((j : Int) + 1).toNat = j + 1 := by omega
      have x7 : IntKind.i64.wrap (j : Int) = (j : Int) := IntWalk.i64_in _ (by omega)
      have y9 : (X : Int) < 256 := by omega
      rw [← hX] at hix
      clear hx hj hX hX2 ha hb h2 hl
      generalize (digL.getD a 0).toNat = da2 at *
      generalize (digL.getD b 0).toNat = db2 at *
      go_wp2_with fail
      go_region_with (fail)
      all_goals
        go_wp2_with fail
        go_roundw
        case rel =>
          have h := Hn.out wr rfl (Below.refl _ _)
          exact ⟨i + 1, (by first | rfl | simp), by omega, Lib.hid ⟨h.1, h.2.trans ⟨rfl, rfl, rfl, Nat.le_refl _, fun _ _ => rfl⟩⟩⟩
        case measure => simp [intOf]; omega
    case neg =>
      have hge : ¬ (i : Int) < 32 := by omega
      have e32 : l.take i = l := List.take_of_length_le (by rw [HW0.out.2.1]; omega)
      have hfull : padB 64 (hexL l) = hexL l := padB_full (by rw [hexL_len, HW0.out.2.1])
      have hrb : RB wr wr.heap.size (some ⟨w.heap.size + 1, 0, none⟩) (hexL l) := by
        intro k x hx
        refine ⟨_, rfl, Hs.out.1.lt, ?_⟩
        rw [add_flat, Nat.zero_add]
        refine Hs.out.1.cell (bvs_at ?_)
        rw [e32, hfull, hx]
      have hcv : (convert 24 9 (.slice (some ⟨w.heap.size + 1, 0, none⟩) 64 64)).run Tryd.prog wr = .ok (.string ⟨(hexL l).toArray⟩) wr := by
        have := text_run wr wr.heap.size (some ⟨w.heap.size + 1, 0, none⟩) (hexL l) 64 hrb
        rw [hexL_len, HW0.out.2.1] at this
        exact this
      have Hb := Lib.hid Hs.out.2
      clear Hs hrb e32 hfull hlt hi
      obtain ⟨sx, hsx⟩ : ∃ sx, sx = (⟨(hexL l).toArray⟩ : ByteArray) := ⟨_, rfl⟩
      rw [← hsx] at hcv
      have Hsx := Lib.hid hsx
      clear hsx
      go_wp2_with fail
      go_ret
      exact ⟨by rw [← Hsx.out]; rfl, Hb.out⟩
end
end Go.Proofs.YtabhpgacnenacaaDoor
