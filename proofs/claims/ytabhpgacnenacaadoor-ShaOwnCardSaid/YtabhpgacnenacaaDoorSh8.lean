/-
  The words' bytes.
-/
import Derived.Test.YtabhpgacnenacaaDoorSh4
namespace Go.Proofs.YtabhpgacnenacaaDoor
open Go.RowKit

theorem hashL_at (v : W8) : ∀ i : Nat, i < 32 → (hashL v)[i]? = some ((v.list.getD (i / 4) 0 >>> UInt32.ofNat (8 * (3 - i % 4))).toUInt8)
  | 0, _ => rfl
  | 1, _ => rfl
  | 2, _ => rfl
  | 3, _ => rfl
  | 4, _ => rfl
  | 5, _ => rfl
  | 6, _ => rfl
  | 7, _ => rfl
  | 8, _ => rfl
  | 9, _ => rfl
  | 10, _ => rfl
  | 11, _ => rfl
  | 12, _ => rfl
  | 13, _ => rfl
  | 14, _ => rfl
  | 15, _ => rfl
  | 16, _ => rfl
  | 17, _ => rfl
  | 18, _ => rfl
  | 19, _ => rfl
  | 20, _ => rfl
  | 21, _ => rfl
  | 22, _ => rfl
  | 23, _ => rfl
  | 24, _ => rfl
  | 25, _ => rfl
  | 26, _ => rfl
  | 27, _ => rfl
  | 28, _ => rfl
  | 29, _ => rfl
  | 30, _ => rfl
  | 31, _ => rfl
  | n + 32, h => by omega
theorem hashL_len (v : W8) : (hashL v).length = 32 := rfl
theorem u8_of32 (y : UInt32) : IntKind.u8.wrap (nv y) = (y.toUInt8.toNat : Int) := by
  unfold nv
  rw [IntKind.wrap_u8', UInt32.toNat_toUInt8]
  omega
/-- bytes with zeros behind them, n in all -/
def padB (n : Nat) (l : List UInt8) : List UInt8 := l ++ List.replicate (n - l.length) 0
theorem padB_at {n : Nat} {l : List UInt8} (h : l.length < n) : (padB n l)[l.length]? = some 0 := by
  unfold padB
  rw [List.getElem?_append_right (Nat.le_refl _), Nat.sub_self, List.getElem?_replicate, if_pos (by omega)]
theorem padB_set {n : Nat} {l : List UInt8} (h : l.length < n) (x : UInt8) : (padB n l).set l.length x = padB n (l ++ [x]) := by
  unfold padB
  rw [List.set_append_right _ _ (Nat.le_refl _), Nat.sub_self]
  obtain ⟨k, hk⟩ : ∃ k, n - l.length = k + 1 := ⟨n - l.length - 1, by omega⟩
  rw [hk, List.replicate_succ, List.set_cons_zero, List.append_assoc]
  congr 2
  simp
  omega
theorem padB_full {n : Nat} {l : List UInt8} (h : l.length = n) : padB n l = l := by unfold padB; rw [h]; simp
theorem padB_len {n : Nat} {l : List UInt8} (h : l.length ≤ n) : (padB n l).length = n := by simp [padB]; omega
theorem bvs_at {l : List UInt8} {i : Nat} {x : UInt8} (h : l[i]? = some x) : (bvs l)[i]? = some (.int .u8 (x.toNat : Int)) := by simp [bvs, h, bv]
theorem bvs_set (l : List UInt8) (i : Nat) (x : UInt8) : (bvs l).set i (.int .u8 (x.toNat : Int)) = bvs (l.set i x) := by simp [bvs, List.map_set, bv]
section
set_option maxRecDepth 100000
set_option maxHeartbeats 1000000
theorem hash_any (v : W8) (w : World) : Calls Tryd.prog 24 #[.agg #[.int .u32 (nv v.a), .int .u32 (nv v.b), .int .u32 (nv v.c), .int .u32 (nv v.d), .int .u32 (nv v.e), .int .u32 (nv v.f), .int .u32 (nv v.g), .int .u32 (nv v.h)]] w fun e w' => e = .returned (.agg (bvs (hashL v)).toArray) ∧ Below w.heap.size w w' := by
  obtain ⟨W0, hW0⟩ : ∃ W0, W0 = ((w.alloc (.cells #[.int .u32 (nv v.a), .int .u32 (nv v.b), .int .u32 (nv v.c), .int .u32 (nv v.d), .int .u32 (nv v.e), .int .u32 (nv v.f), .int .u32 (nv v.g), .int .u32 (nv v.h)] 48)).alloc (.cells #[.int .u8 0, .int .u8 0, .int .u8 0, .int .u8 0, .int .u8 0, .int .u8 0, .int .u8 0, .int .u8 0, .int .u8 0, .int .u8 0, .int .u8 0, .int .u8 0, .int .u8 0, .int .u8 0, .int .u8 0, .int .u8 0, .int .u8 0, .int .u8 0, .int .u8 0, .int .u8 0, .int .u8 0, .int .u8 0, .int .u8 0, .int .u8 0, .int .u8 0, .int .u8 0, .int .u8 0, .int .u8 0, .int .u8 0, .int .u8 0, .int .u8 0, .int .u8 0] 28)).alloc (.cells #[.int .u8 0, .int .u8 0, .int .u8 0, .int .u8 0, .int .u8 0, .int .u8 0, .int .u8 0, .int .u8 0, .int .u8 0, .int .u8 0, .int .u8 0, .int .u8 0, .int .u8 0, .int .u8 0, .int .u8 0, .int .u8 0, .int .u8 0, .int .u8 0, .int .u8 0, .int .u8 0, .int .u8 0, .int .u8 0, .int .u8 0, .int .u8 0, .int .u8 0, .int .u8 0, .int .u8 0, .int .u8 0, .int .u8 0, .int .u8 0, .int .u8 0, .int .u8 0] 28) := ⟨_, rfl⟩
  have H0 : Hid (Cells W0 w.heap.size 48 (v8 v) ∧ Cells W0 (w.heap.size + 1) 28 (bvs (padB 32 [])) ∧ Cells W0 (w.heap.size + 2) 28 (bvs (padB 32 ((hashL v).take 0))) ∧ Below w.heap.size w W0) := by
    rw [hW0]
    refine ⟨((Cells.new w _ _).alloc _).alloc _, ?_, ?_, (((Below.refl _ _).alloc (Nat.le_refl _) _).alloc (by simp) _).alloc (by simp; omega) _⟩
    · have := (Cells.new (w.alloc (.cells #[.int .u32 (nv v.a), .int .u32 (nv v.b), .int .u32 (nv v.c), .int .u32 (nv v.d), .int .u32 (nv v.e), .int .u32 (nv v.f), .int .u32 (nv v.g), .int .u32 (nv v.h)] 48)) #[.int .u8 0, .int .u8 0, .int .u8 0, .int .u8 0, .int .u8 0, .int .u8 0, .int .u8 0, .int .u8 0, .int .u8 0, .int .u8 0, .int .u8 0, .int .u8 0, .int .u8 0, .int .u8 0, .int .u8 0, .int .u8 0, .int .u8 0, .int .u8 0, .int .u8 0, .int .u8 0, .int .u8 0, .int .u8 0, .int .u8 0, .int .u8 0, .int .u8 0, .int .u8 0, .int .u8 0, .int .u8 0, .int .u8 0, .int .u8 0, .int .u8 0, .int .u8 0] 28).alloc (.cells #[.int .u8 0, .int .u8 0, .int .u8 0, .int .u8 0, .int .u8 0, .int .u8 0, .int .u8 0, .int .u8 0, .int .u8 0, .int .u8 0, .int .u8 0, .int .u8 0, .int .u8 0, .int .u8 0, .int .u8 0, .int .u8 0, .int .u8 0, .int .u8 0, .int .u8 0, .int .u8 0, .int .u8 0, .int .u8 0, .int .u8 0, .int .u8 0, .int .u8 0, .int .u8 0, .int .u8 0, .int .u8 0, .int .u8 0, .int .u8 0, .int .u8 0, .int .u8 0] 28)
      rw [World.size_alloc] at this
      exact this
    · have := Cells.new ((w.alloc (.cells #[.int .u32 (nv v.a), .int .u32 (nv v.b), .int .u32 (nv v.c), .int .u32 (nv v.d), .int .u32 (nv v.e), .int .u32 (nv v.f), .int .u32 (nv v.g), .int .u32 (nv v.h)] 48)).alloc (.cells #[.int .u8 0, .int .u8 0, .int .u8 0, .int .u8 0, .int .u8 0, .int .u8 0, .int .u8 0, .int .u8 0, .int .u8 0, .int .u8 0, .int .u8 0, .int .u8 0, .int .u8 0, .int .u8 0, .int .u8 0, .int .u8 0, .int .u8 0, .int .u8 0, .int .u8 0, .int .u8 0, .int .u8 0, .int .u8 0, .int .u8 0, .int .u8 0, .int .u8 0, .int .u8 0, .int .u8 0, .int .u8 0, .int .u8 0, .int .u8 0, .int .u8 0, .int .u8 0] 28)) #[.int .u8 0, .int .u8 0, .int .u8 0, .int .u8 0, .int .u8 0, .int .u8 0, .int .u8 0, .int .u8 0, .int .u8 0, .int .u8 0, .int .u8 0, .int .u8 0, .int .u8 0, .int .u8 0, .int .u8 0, .int .u8 0, .int .u8 0, .int .u8 0, .int .u8 0, .int .u8 0, .int .u8 0, .int .u8 0, .int .u8 0, .int .u8 0, .int .u8 0, .int .u8 0, .int .u8 0, .int .u8 0, .int .u8 0, .int .u8 0, .int .u8 0, .int .u8 0] 28
      rw [World.size_alloc, World.size_alloc] at this
      exact this
  have HW0 := Lib.hid hW0
  clear hW0
  go_enter Tryd.func24, Tryd.ntmps24
  go_wp2_with fail
  rw [← HW0.out]
  go_loopw [5] (fun iv wr => ∃ i : Nat, iv = .int .i64 (i : Int) ∧ i ≤ 32 ∧ Hid (Cells wr w.heap.size 48 (v8 v) ∧ Cells wr (w.heap.size + 1) 28 (bvs (padB 32 [])) ∧ Cells wr (w.heap.size + 2) 28 (bvs (padB 32 ((hashL v).take i))) ∧ Below w.heap.size w wr)) (fun iv _ => 32 - (intOf iv).toNat)
  case atStart => exact ⟨0, rfl, Nat.zero_le _, H0⟩
  case round =>
    obtain ⟨i, rfl, hi, Hs⟩ := hrel
    clear H0
    by_cases hlt : i < 32
    case pos =>
      obtain ⟨q, hq⟩ : ∃ q, q = i / 4 := ⟨_, rfl⟩
      obtain ⟨s, hs⟩ : ∃ s, s = 8 * (3 - i % 4) := ⟨_, rfl⟩
      obtain ⟨r, hr⟩ : ∃ r, r = i % 4 := ⟨_, rfl⟩
      obtain ⟨x, hx⟩ : ∃ x, v.list[q]? = some x := ⟨_, List.getElem?_eq_getElem (by show q < 8; omega)⟩
      have hat := hashL_at v i hlt
      rw [← hq, ← hs, show v.list.getD q 0 = x from by rw [List.getD_eq_getElem?_getD, hx]; rfl] at hat
      have z1 : (i : Int) / 4 = (q : Int) := by omega
      have z2 : (i : Int) % 4 = (r : Int) := by omega
      have z3 : (8 : Int) * (3 - (r : Int)) = (s : Int) := by omega
      have z4 : (s : Int) ≤ 24 := by omega
      have z5 : (q : Int) < 8 := by omega
      have z5n : q < 8 := by omega
      have z6 : (r : Int) ≤ 3 := by omega
      have z7 : (i : Int) < 32 := by omega
      have sh := u32_shr x s (by omega)
      have sw := u8_of32 (x >>> UInt32.ofNat s)
      have k0 := Hs.out.1.cell (wv_at (ms := v.list) hx)
      have hl : ((hashL v).take i).length = i := by rw [List.length_take, hashL_len]; omega
      have k1 : wr.cell? ⟨w.heap.size + 2, i, none⟩ = some (.int .u8 ((0 : UInt8).toNat : Int)) := by
        have := padB_at (n := 32) (l := (hashL v).take i) (by omega)
        rw [hl] at this
        exact Hs.out.2.2.1.cell (bvs_at this)
      have f1 := Hs.out.2.2.1.frozen i
      have Hn : Hid (∀ w', w' = wr.setCell ⟨w.heap.size + 2, i, none⟩ (.int .u8 ((x >>> UInt32.ofNat s).toUInt8.toNat : Int)) → Cells w' w.heap.size 48 (v8 v) ∧ Cells w' (w.heap.size + 1) 28 (bvs (padB 32 [])) ∧ Cells w' (w.heap.size + 2) 28 (bvs (padB 32 ((hashL v).take (i + 1)))) ∧ Below w.heap.size w w') := by
        rintro w' rfl
        have h := Hs.out
        refine ⟨h.1.move (Below.heap_setCell _ _ _ _ (by simp)), h.2.1.move (Below.heap_setCell _ _ _ _ (by simp)), ?_, h.2.2.2.setCell (by simp) _⟩
        have := h.2.2.1.set i (.int .u8 ((x >>> UInt32.ofNat s).toUInt8.toNat : Int))
        rw [bvs_set] at this
        have e := padB_set (n := 32) (l := (hashL v).take i) (by omega) (x >>> UInt32.ofNat s).toUInt8
        rw [hl] at e
        rw [e] at this
        rw [List.take_add_one, hat]
        exact this
      clear hq hs hr hx hat hl
      generalize (x >>> UInt32.ofNat s).toUInt8.toNat = y at *
      go_wp2_with fail
      rw [show w.heap.size + 1 + 1 = w.heap.size + 2 from rfl]
      go_roundw
      case rel => exact ⟨i + 1, (by first | rfl | simp), by omega, Hn.out _ rfl⟩
      case measure => simp [intOf]; omega
    case neg =>
      have hge : ¬ (i : Int) < 32 := by omega
      obtain rfl : i = 32 := by omega
      have H3 : Hid (Cells wr (w.heap.size + 1) 28 (bvs (padB 32 [])) ∧ Cells wr (w.heap.size + 2) 28 (bvs (hashL v)) ∧ Below w.heap.size w wr) :=
        ⟨Hs.out.2.1, by have h := Hs.out.2.2.1; rw [List.take_of_length_le (by rw [hashL_len]; omega), padB_full (hashL_len v)] at h; exact h, Hs.out.2.2.2⟩
      obtain ⟨us, hus⟩ : ∃ us, us = bvs (hashL v) := ⟨_, rfl⟩
      rw [← hus] at H3
      have hn : us.length = 32 := by rw [hus, bvs_length]; rfl
      have hag : ∀ w, (isAgg 28).run Tryd.prog w = .ok true w := fun _ => by kernel_rfl
      have hsz : ∀ w, (sizeOf 28).run Tryd.prog w = .ok us.length w := by rw [hn]; exact fun _ => by kernel_rfl
      have HH := Lib.hid (And.intro hag (And.intro hsz (And.intro (show ∀ u ∈ us, u.oneCell' = true by rw [hus]; exact bvs_one _) (show us.length = (bvs (padB 32 [])).length by rw [hn, bvs_length, padB_len (by simp)]))))
      have Hus := Lib.hid hus
      clear Hs hlt hi hag hsz hn hus
      go_wp2_with (first
        | (refine ld_row rfl 28 (.tmp 3) rfl rfl H3.out.2.1 HH.out.1 HH.out.2.1 ?_)
        | (refine st_row rfl 28 (.tmp 2) (.tmp 21) rfl rfl rfl H3.out.1 HH.out.2.1 HH.out.2.2.2 HH.out.2.2.1 ?_; intro w5 h5 k5; have H5 := Lib.hid (And.intro h5 k5); clear h5 k5))
      refine bodyPost_ret (v := .agg us.toArray) (res_row rfl _ rfl H5.out.1 HH.out.1 HH.out.2.1) rfl ⟨by rw [Hus.out], ?_⟩
      exact ⟨H5.out.2.os.trans H3.out.2.2.os, H5.out.2.tape.trans H3.out.2.2.tape, H5.out.2.output.trans H3.out.2.2.output, Nat.le_trans H3.out.2.2.size H5.out.2.size, fun k hk => (H5.out.2.block k (Nat.lt_of_lt_of_le hk H3.out.2.2.size) (by show k ≠ w.heap.size + 1; omega)).trans (H3.out.2.2.block k hk)⟩
end
end Go.Proofs.YtabhpgacnenacaaDoor
