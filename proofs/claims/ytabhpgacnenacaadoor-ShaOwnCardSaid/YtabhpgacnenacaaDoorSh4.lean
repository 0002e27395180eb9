/-
  with walked: the words behind one more block.
-/
import Derived.Test.YtabhpgacnenacaaDoorSh3
namespace Go.Proofs.YtabhpgacnenacaaDoor
open Go.RowKit

/-- THE NUMBERS OF THE ROUNDS LIE THERE -/
def NT (w : World) : Prop := (∀ r x, numsL[r]? = some x → w.cell? ⟨0, r, none⟩ = some (.int .u32 (nv x))) ∧ 0 < w.heap.size
theorem NT.below {w w' : World} {B : Nat} (h : NT w) (hb : Below B w w') (hB : w.heap.size ≤ B) : NT w' :=
  ⟨fun r x hx => (hb.cell (p := ⟨0, r, none⟩) (Nat.lt_of_lt_of_le h.2 hB)).trans (h.1 r x hx), Nat.lt_of_lt_of_le h.2 hb.size⟩
/-- eight words as a value -/
def v8 (v : W8) : List Value := [.int .u32 (nv v.a), .int .u32 (nv v.b), .int .u32 (nv v.c), .int .u32 (nv v.d), .int .u32 (nv v.e), .int .u32 (nv v.f), .int .u32 (nv v.g), .int .u32 (nv v.h)]
theorem v8_wv (v : W8) : v8 v = wv v.list := rfl
theorem v8_one (v : W8) : ∀ u ∈ v8 v, u.oneCell' = true := by rw [v8_wv]; exact wv_one _
theorem run_index_arr (T : TypeId) (ms : List UInt32) (i : Nat) (m : UInt32) (h : ms[i]? = some m) (h64 : i < 64) (hu : Tryd.prog.underlying T = some (.array 64 46)) (w : World) :
    (Instr.index T (.agg (wv ms).toArray) (.int .i64 (i : Int))).run Tryd.prog w = .ok (.int .u32 (nv m)) w := by
  have hi : i < ms.length := (List.getElem?_eq_some_iff.1 h).1
  have hs : (sizeOf 46).run Tryd.prog w = .ok 1 w := by kernel_rfl
  have ha : (isAgg 46).run Tryd.prog w = .ok false w := by kernel_rfl
  have hm := wv_at h
  have hi64 : (i : Int) < 64 := by omega
  simp [Instr.index, asIntOf, run_underlying hu, hs, ha, hi64, part, hm]
  intro hh
  omega
theorem turn2q (x : UInt32) (w : World) (n : Nat) : Calls Tryd.prog 32 #[.int .u32 (nv x), .int .i64 2] (w.drewN n) fun e w'' => e = .returned (.int .u32 (nv (rot x 2))) ∧ ∃ m, w'' = w.drewN m := Calls.quiet_of_same (turn2 x _)
theorem turn6q (x : UInt32) (w : World) (n : Nat) : Calls Tryd.prog 32 #[.int .u32 (nv x), .int .i64 6] (w.drewN n) fun e w'' => e = .returned (.int .u32 (nv (rot x 6))) ∧ ∃ m, w'' = w.drewN m := Calls.quiet_of_same (turn6 x _)
theorem turn11q (x : UInt32) (w : World) (n : Nat) : Calls Tryd.prog 32 #[.int .u32 (nv x), .int .i64 11] (w.drewN n) fun e w'' => e = .returned (.int .u32 (nv (rot x 11))) ∧ ∃ m, w'' = w.drewN m := Calls.quiet_of_same (turn11 x _)
theorem turn13q (x : UInt32) (w : World) (n : Nat) : Calls Tryd.prog 32 #[.int .u32 (nv x), .int .i64 13] (w.drewN n) fun e w'' => e = .returned (.int .u32 (nv (rot x 13))) ∧ ∃ m, w'' = w.drewN m := Calls.quiet_of_same (turn13 x _)
theorem turn22q (x : UInt32) (w : World) (n : Nat) : Calls Tryd.prog 32 #[.int .u32 (nv x), .int .i64 22] (w.drewN n) fun e w'' => e = .returned (.int .u32 (nv (rot x 22))) ∧ ∃ m, w'' = w.drewN m := Calls.quiet_of_same (turn22 x _)
theorem turn25q (x : UInt32) (w : World) (n : Nat) : Calls Tryd.prog 32 #[.int .u32 (nv x), .int .i64 25] (w.drewN n) fun e w'' => e = .returned (.int .u32 (nv (rot x 25))) ∧ ∃ m, w'' = w.drewN m := Calls.quiet_of_same (turn25 x _)
section
attribute [local go_sem] u32_xor u32_and u32_or u32_add u32_cpl
set_option maxRecDepth 100000
set_option maxHeartbeats 2000000
theorem with_any (v : W8) (b o : Nat) (l : List UInt8) (c : Nat) (w : World) (hT : NT w) (hl : l.length = 64) (hc : 64 ≤ c) (hr : RB w w.heap.size (some ⟨b, o, none⟩) l) :
    Calls Tryd.prog 28 #[.agg #[.int .u32 (nv v.a), .int .u32 (nv v.b), .int .u32 (nv v.c), .int .u32 (nv v.d), .int .u32 (nv v.e), .int .u32 (nv v.f), .int .u32 (nv v.g), .int .u32 (nv v.h)], .slice (some ⟨b, o, none⟩) 64 c] w fun e w' => e = .returned (.agg (v8 (withL numsL v l)).toArray) ∧ Below w.heap.size w w' := by
  have HT := Lib.hid hT
  have Hr := Lib.hid (And.intro hr (And.intro hl hc))
  clear hT hr hl hc
  go_enter Tryd.func28, Tryd.ntmps28
  go_wp2_with fail
  go_quiet (fail)
  go_wp2_with fail
  obtain ⟨W1, hW1⟩ : ∃ W, W = (((w.alloc (.cells #[.int .u32 (nv v.a), .int .u32 (nv v.b), .int .u32 (nv v.c), .int .u32 (nv v.d), .int .u32 (nv v.e), .int .u32 (nv v.f), .int .u32 (nv v.g), .int .u32 (nv v.h)] 48)).alloc (.cells #[.int .u32 0, .int .u32 0, .int .u32 0, .int .u32 0, .int .u32 0, .int .u32 0, .int .u32 0, .int .u32 0] 48)).drewN nq) := ⟨_, rfl⟩
  have H1 : Hid (Cells W1 w.heap.size 48 (v8 v) ∧ Cells W1 (w.heap.size + 1) 48 (v8 ⟨0, 0, 0, 0, 0, 0, 0, 0⟩) ∧ Below w.heap.size w W1) := by
    rw [hW1]
    refine ⟨(Cells.new w _ _).alloc _, ?_, (((Below.refl _ _).alloc (Nat.le_refl _) _).alloc (by simp) _).trans ⟨rfl, rfl, rfl, Nat.le_refl _, fun _ _ => rfl⟩⟩
    have := Cells.new (w.alloc (.cells #[.int .u32 (nv v.a), .int .u32 (nv v.b), .int .u32 (nv v.c), .int .u32 (nv v.d), .int .u32 (nv v.e), .int .u32 (nv v.f), .int .u32 (nv v.g), .int .u32 (nv v.h)] 48)) #[.int .u32 0, .int .u32 0, .int .u32 0, .int .u32 0, .int .u32 0, .int .u32 0, .int .u32 0, .int .u32 0] 48
    rw [World.size_alloc] at this
    exact this
  rw [← hW1]
  clear hW1
  have Hsp := Lib.hid (spread_any b o l c W1 Hr.out.2.1 Hr.out.2.2 ((Hr.out.1.below H1.out.2.2).wide H1.out.2.2.size))
  go_wp2_with fail
  refine Hsp.out.mono ?_
  rintro e W2 ⟨rfl, b2⟩
  have H2 : Hid (Cells W2 w.heap.size 48 (v8 v) ∧ Cells W2 (w.heap.size + 1) 48 (v8 ⟨0, 0, 0, 0, 0, 0, 0, 0⟩) ∧ Below w.heap.size w W2) :=
    ⟨H1.out.1.move (b2.block _ H1.out.1.lt), H1.out.2.1.move (b2.block _ H1.out.2.1.lt), H1.out.2.2.trans (b2.mono H1.out.2.2.size)⟩
  obtain ⟨ms, hms⟩ : ∃ ms, ms = spreadL l := ⟨_, rfl⟩
  have Hms : Hid (ms = spreadL l ∧ ms.length = 64) := ⟨hms, by rw [hms]; unfold spreadL; rw [grow_len, words4_len 16 l Hr.out.2.1]⟩
  have hix := fun (i : Nat) (m : UInt32) (h : ms[i]? = some m) (h64 : i < 64) => run_index_arr 54 ms i m h h64 Tryd.underlying54
  rw [← hms]
  have Hix := Lib.hid hix
  generalize (wv ms).toArray = am at *
  clear hms hix b2 H1 Hsp W1
  go_wp2_with fail
  go_loopw [5, 6, 7, 8, 9, 10, 11, 12, 37] (fun va vb vc vd ve vf vg vh iv wr => ∃ (i : Nat) (u : W8), iv = .int .i64 (i : Int) ∧ i ≤ 64 ∧ va = .int .u32 (nv u.a) ∧ vb = .int .u32 (nv u.b) ∧ vc = .int .u32 (nv u.c) ∧ vd = .int .u32 (nv u.d) ∧ ve = .int .u32 (nv u.e) ∧ vf = .int .u32 (nv u.f) ∧ vg = .int .u32 (nv u.g) ∧ vh = .int .u32 (nv u.h) ∧ Hid (u = rnds v (numsL.take i) (ms.take i) ∧ ∃ q, wr = W2.drewN q)) (fun _ _ _ _ _ _ _ _ iv _ => 64 - (intOf iv).toNat)
  case atStart => exact ⟨0, v, rfl, Nat.zero_le _, rfl, rfl, rfl, rfl, rfl, rfl, rfl, rfl, rfl, 0, rfl⟩
  case round =>
    obtain ⟨i, u, rfl, hi, rfl, rfl, rfl, rfl, rfl, rfl, rfl, rfl, Hu⟩ := hrel
    by_cases hlt : i < 64
    case pos =>
      obtain ⟨m, hm⟩ : ∃ m, ms[i]? = some m := ⟨_, List.getElem?_eq_getElem (by rw [Hms.out.2]; exact hlt)⟩
      obtain ⟨k, hk⟩ : ∃ m, numsL[i]? = some m := ⟨_, List.getElem?_eq_getElem hlt⟩
      have hx := Hix.out i m hm hlt
      have kt : wr.cell? ⟨0, i, none⟩ = some (.int .u32 (nv k)) := by
        obtain ⟨q, e⟩ := Hu.out.2
        rw [e]
        exact (H2.out.2.2.cell (p := ⟨0, i, none⟩) HT.out.2).trans (HT.out.1 i k hk)
      have Hn : Hid (rnd u k m = rnds v (numsL.take (i + 1)) (ms.take (i + 1)) ∧ ∃ q, wr = W2.drewN q) := by
        refine ⟨?_, Hu.out.2⟩
        rw [List.take_add_one, List.take_add_one, hm, hk, Hu.out.1]
        refine (rnds_snoc v _ _ k m ?_).symm
        rw [List.length_take, List.length_take, Hms.out.2]
        rfl
      have hi64 : (i : Int) < 64 := by omega
      clear hm hk Hu
      obtain ⟨ua, ub, uc, ud, ue, uf, ug, uh⟩ := u
      unfold rnd at Hn
      dsimp only at Hn ⊢
      go_wp2_with fail
      go_quiet ((go_at_call 32; first | with_reducible exact turn6q _ _ _ | with_reducible exact turn11q _ _ _ | with_reducible exact turn25q _ _ _))
      go_wp2_with (go_at_call 32; first
        | ((with_reducible refine (turn2 _ _).mono ?_); rintro e w' ⟨rfl, rfl⟩)
        | ((with_reducible refine (turn13 _ _).mono ?_); rintro e w' ⟨rfl, rfl⟩)
        | ((with_reducible refine (turn22 _ _).mono ?_); rintro e w' ⟨rfl, rfl⟩))
      go_roundw
      case rel =>
        refine ⟨i + 1, _, (by first | rfl | simp), by omega, rfl, rfl, rfl, rfl, rfl, rfl, rfl, rfl, Hn.out.1, ?_⟩
        obtain ⟨q, e⟩ := Hn.out.2
        exact ⟨q + nq, by rw [e, World.drewN_drewN]⟩
      case measure => simp [intOf]; omega
    case neg =>
      have e64 : i = 64 := by omega
      have hge : ¬ (i : Int) < 64 := by omega
      have Hv : Hid (u = rnds v numsL (spreadL l)) := by
        have h := Hu.out.1
        rw [e64, List.take_of_length_le (by exact Nat.le_refl _), List.take_of_length_le (by rw [Hms.out.2]; exact Nat.le_refl _), Hms.out.1] at h
        exact h
      have H3 : Hid (Cells wr w.heap.size 48 (v8 v) ∧ Cells wr (w.heap.size + 1) 48 (v8 ⟨0, 0, 0, 0, 0, 0, 0, 0⟩) ∧ Below w.heap.size w wr) := by
        obtain ⟨q, e⟩ := Hu.out.2
        rw [e]
        exact ⟨H2.out.1, H2.out.2.1, H2.out.2.2.trans ⟨rfl, rfl, rfl, Nat.le_refl _, fun _ _ => rfl⟩⟩
      have c0 := H3.out.1.cell (i := 0) rfl
      have c1 := H3.out.1.cell (i := 1) rfl
      have c2 := H3.out.1.cell (i := 2) rfl
      have c3 := H3.out.1.cell (i := 3) rfl
      have c4 := H3.out.1.cell (i := 4) rfl
      have c5 := H3.out.1.cell (i := 5) rfl
      have c6 := H3.out.1.cell (i := 6) rfl
      have c7 := H3.out.1.cell (i := 7) rfl
      clear Hu e64 hlt hi
      obtain ⟨us, hus⟩ : ∃ us, us = v8 (v.plus u) := ⟨_, rfl⟩
      have hsz : ∀ w, (sizeOf 48).run Tryd.prog w = .ok us.length w := by rw [hus]; exact fun _ => by kernel_rfl
      have hag : ∀ w, (isAgg 48).run Tryd.prog w = .ok true w := fun _ => by kernel_rfl
      have HH := Lib.hid (And.intro hag (And.intro hsz (And.intro (show ∀ u ∈ us, u.oneCell' = true by rw [hus]; exact v8_one _) (show us.length = (v8 ⟨0, 0, 0, 0, 0, 0, 0, 0⟩).length by rw [hus]; rfl))))
      have Hus := Lib.hid hus
      have hev : us.toArray = #[.int .u32 (nv (v.a + u.a)), .int .u32 (nv (v.b + u.b)), .int .u32 (nv (v.c + u.c)), .int .u32 (nv (v.d + u.d)), .int .u32 (nv (v.e + u.e)), .int .u32 (nv (v.f + u.f)), .int .u32 (nv (v.g + u.g)), .int .u32 (nv (v.h + u.h))] := by rw [hus]; rfl
      have Hev := Lib.hid hev
      clear hag hsz hus hev
      go_wp2_with (refine st_row rfl 48 (.tmp 4) (.tmp 133) rfl rfl (congrArg Value.agg Hev.out.symm) H3.out.2.1 HH.out.2.1 HH.out.2.2.2 HH.out.2.2.1 ?_; intro w5 h5 k5; have H5 := Lib.hid (And.intro h5 k5); clear h5 k5)
      refine bodyPost_ret (v := .agg us.toArray) (res_row rfl _ rfl H5.out.1 HH.out.1 HH.out.2.1) rfl ⟨?_, ?_⟩
      · rw [Hus.out, Hv.out]; rfl
      · exact ⟨H5.out.2.os.trans H3.out.2.2.os, H5.out.2.tape.trans H3.out.2.2.tape, H5.out.2.output.trans H3.out.2.2.output, Nat.le_trans H3.out.2.2.size H5.out.2.size, fun k hk => (H5.out.2.block k (Nat.lt_of_lt_of_le hk H3.out.2.2.size) (by show k ≠ w.heap.size + 1; omega)).trans (H3.out.2.2.block k hk)⟩
end
end Go.Proofs.YtabhpgacnenacaaDoor
