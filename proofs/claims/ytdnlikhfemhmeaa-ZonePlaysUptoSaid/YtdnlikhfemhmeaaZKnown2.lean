/-
  The law's chapter example, walked.
-/
import Derived.Test.YtdnlikhfemhmeaaZKnown
namespace Go.Proofs.Ytdnlikhfemhmeaa
open Go.RowKit

/-- two zones: a and b pages, f and g of them firm -/
def Dk (a f b g : Nat) : Drv := ⟨[⟨List.replicate a zs, f⟩, ⟨List.replicate b zs, g⟩], 3, 32, false⟩
def Pk (off : Bool) (n l : Nat) (x : List Int) : Pow := ⟨off, n, l, x⟩

set_option maxRecDepth 20000 in
set_option maxHeartbeats 1000000 in
theorem lawCut_any (w : World) : Calls Try.prog 24 #[] w fun e w' => e = .returned (.bool true) ∧ Below w.heap.size w w' := by
  obtain ⟨cs, Hcs, hmk0⟩ := make_run 32 (by omega)
  have hmk : ∀ u : World, (Instr.makeSlice 46 (.int .i64 32) (.int .i64 32)).run Try.prog u = .ok (.slice (some ⟨u.heap.size, 0, none⟩) 32 32) (u.alloc (.cells cs 5)) := hmk0
  have Hb := Lib.hid (begin_pow w)
  clear hmk0
  go_enter Try.func24, Try.ntmps24
  go_wp2_with fail
  refine Hb.out.mono ?_
  rintro e w1 ⟨rfl, O1, hc1⟩
  have Hn : Hid (Calls Try.prog 9 #[.pointer (some ⟨w.heap.size, 0, none⟩), .int .i64 2, .int .i64 3, .int .i64 32] w1 fun e w' => ∃ d O', e = .returned (.tuple #[.pointer (some ⟨d, 0, none⟩), .int .i64 0]) ∧ Cl w w' O' w.heap.size (Pk false 0 0 []) [(d, Dk 0 0 0 0)]) :=
    hc1.new 2 3 32 (by simp) (by omega) (by omega) (by omega) (by omega) (by omega) (by omega)
  clear hc1
  go_wp2_with fail
  refine Hn.out.mono ?_
  rintro e w2 ⟨d, O2, rfl, hc2⟩
  have Hk0 : Hid (KS w w.heap.size w2.heap.size (Pk false 0 0 []) [(d, Dk 0 0 0 0)] (w2.alloc (.cells cs 5))) := ⟨O2, hc2.alloc _, Pg.new hc2.1 cs Hcs.out⟩
  clear hc2 Hn
  go_wp2_with fail
  have H3 : Hid (Calls Try.prog 16 #[.pointer (some ⟨d, 0, none⟩), .int .i64 0, .slice (some ⟨w2.heap.size, 0, none⟩) 32 32] (w2.alloc (.cells cs 5)) fun e w' => e = .returned (.int .i64 0) ∧ KS w w.heap.size w2.heap.size (Pk false 1 0 []) [(d, Dk 1 0 0 0)] w') :=
    Hk0.out.append (i := 0) rfl 0 (by simp) (by decide) (by decide)
  refine H3.out.mono ?_
  rintro e w3 ⟨rfl, hk3⟩
  have Hk3 := Lib.hid hk3
  clear hk3 H3 Hk0
  go_wp2_with fail
  have H4 : Hid (Calls Try.prog 16 #[.pointer (some ⟨d, 0, none⟩), .int .i64 0, .slice (some ⟨w2.heap.size, 0, none⟩) 32 32] w3 fun e w' => e = .returned (.int .i64 0) ∧ KS w w.heap.size w2.heap.size (Pk false 2 0 []) [(d, Dk 2 0 0 0)] w') :=
    Hk3.out.append (i := 0) rfl 0 (by simp) (by decide) (by decide)
  refine H4.out.mono ?_
  rintro e w4 ⟨rfl, hk4⟩
  have Hk4 := Lib.hid hk4
  clear hk4 H4 Hk3
  go_wp2_with fail
  have H5 : Hid (Calls Try.prog 17 #[.pointer (some ⟨d, 0, none⟩)] w4 fun e w' => e = .returned (.int .i64 0) ∧ KS w w.heap.size w2.heap.size (Pk false 3 0 []) [(d, Dk 2 2 0 0)] w') :=
    Hk4.out.flush (i := 0) rfl (by simp) (by decide) (by decide)
  refine H5.out.mono ?_
  rintro e w5 ⟨rfl, hk5⟩
  have Hk5 := Lib.hid hk5
  clear hk5 H5 Hk4
  go_wp2_with fail
  have H6 : Hid (Calls Try.prog 16 #[.pointer (some ⟨d, 0, none⟩), .int .i64 1, .slice (some ⟨w2.heap.size, 0, none⟩) 32 32] w5 fun e w' => e = .returned (.int .i64 0) ∧ KS w w.heap.size w2.heap.size (Pk false 4 0 []) [(d, Dk 2 2 1 0)] w') :=
    Hk5.out.append (i := 0) rfl 1 (by simp) (by decide) (by decide)
  refine H6.out.mono ?_
  rintro e w6 ⟨rfl, hk6⟩
  have Hk6 := Lib.hid hk6
  clear hk6 H6 Hk5
  go_wp2_with fail
  have H7 : Hid (Calls Try.prog 20 #[.pointer (some ⟨w.heap.size, 0, none⟩), .int .i64 1, .slice (some ⟨w6.heap.size, 0, none⟩) 1 1] (w6.alloc (.cells #[.int .i64 0] 3)) fun e w' => e = .returned (.tuple #[]) ∧ KS w w.heap.size w2.heap.size (Pk false 4 1 [0]) [(d, Dk 2 2 1 0)] w') :=
    Hk6.out.arm1 1 0
  refine H7.out.mono ?_
  rintro e w7 ⟨rfl, hk7⟩
  have Hk7 := Lib.hid hk7
  clear hk7 H7 Hk6
  go_wp2_with fail
  have H8 : Hid (Calls Try.prog 16 #[.pointer (some ⟨d, 0, none⟩), .int .i64 0, .slice (some ⟨w2.heap.size, 0, none⟩) 32 32] w7 fun e w' => e = .returned (.int .i64 8) ∧ KS w w.heap.size w2.heap.size (Pk true 4 0 []) [(d, Dk 2 2 0 0)] w') :=
    Hk7.out.append (i := 0) rfl 0 (by simp) (by decide) (by decide)
  refine H8.out.mono ?_
  rintro e w8 ⟨rfl, hk8⟩
  have Hk8 := Lib.hid hk8
  clear hk8 H8 Hk7
  go_wp2_with fail
  have H9 : Hid (Calls Try.prog 21 #[.pointer (some ⟨w.heap.size, 0, none⟩)] w8 fun e w' => e = .returned (.bool true) ∧ w8 = w') := Hk8.out.off
  refine H9.out.mono ?_
  rintro e w' ⟨rfl, rfl⟩
  clear H9
  go_wp2_with fail
  have H10 : Hid (Calls Try.prog 22 #[.pointer (some ⟨w.heap.size, 0, none⟩)] w8 fun e w' => e = .returned (.tuple #[]) ∧ KS w w.heap.size w2.heap.size (Pk false 4 0 []) [(d, Dk 2 2 0 0)] w') := Hk8.out.on
  refine H10.out.mono ?_
  rintro e w9 ⟨rfl, hk9⟩
  have Hk9 := Lib.hid hk9
  clear hk9 H10 Hk8
  go_wp2_with fail
  have H11 : Hid (Calls Try.prog 19 #[.pointer (some ⟨d, 0, none⟩), .int .i64 0] w9 fun e w' => e = .returned (.tuple #[.int .i64 2, .int .i64 0]) ∧ w9 = w') := Hk9.out.pointer (i := 0) rfl 0
  refine H11.out.mono ?_
  rintro e w' ⟨rfl, rfl⟩
  clear H11
  go_wp2_with fail
  have H12 : Hid (Calls Try.prog 19 #[.pointer (some ⟨d, 0, none⟩), .int .i64 1] w9 fun e w' => e = .returned (.tuple #[.int .i64 0, .int .i64 0]) ∧ w9 = w') := Hk9.out.pointer (i := 0) rfl 1
  refine H12.out.mono ?_
  rintro e w' ⟨rfl, rfl⟩
  clear H12
  go_wp2_with fail
  have H13 : Hid (Calls Try.prog 23 #[.pointer (some ⟨w.heap.size, 0, none⟩)] w9 fun e w' => e = .returned (.int .i64 4) ∧ w9 = w') := Hk9.out.writes
  refine H13.out.mono ?_
  rintro e w' ⟨rfl, rfl⟩
  clear H13
  go_wp2_with fail
  go_ret
  exact ⟨rfl, Hk9.out.fin⟩

theorem KS.below {w0 w w' : World} {pw b : Nat} {P : Pow} {ds : List (Nat × Drv)} (h : KS w0 pw b P ds w) (hb : Below w.heap.size w w') : Below w0.heap.size w0 w' := by
  obtain ⟨O, h1, h2⟩ := h
  exact h1.2.2.trans (hb.mono h1.2.2.size)
set_option maxRecDepth 20000 in
set_option maxHeartbeats 1000000 in
theorem known_any (w : World) : Calls Try.prog 6 #[] w fun e w' => e = .returned (.bool true) ∧ Below w.heap.size w w' := by
  obtain ⟨cs, Hcs, hmk0⟩ := make_run 32 (by omega)
  have hmk : ∀ u : World, (Instr.makeSlice 46 (.int .i64 32) (.int .i64 32)).run Try.prog u = .ok (.slice (some ⟨u.heap.size, 0, none⟩) 32 32) (u.alloc (.cells cs 5)) := hmk0
  have Hb := Lib.hid (begin_pow w)
  clear hmk0
  go_enter Try.func6, Try.ntmps6
  go_wp2_with fail
  refine Hb.out.mono ?_
  rintro e w1 ⟨rfl, O1, hc1⟩
  have Hn : Hid (Calls Try.prog 9 #[.pointer (some ⟨w.heap.size, 0, none⟩), .int .i64 2, .int .i64 3, .int .i64 32] w1 fun e w' => ∃ d O', e = .returned (.tuple #[.pointer (some ⟨d, 0, none⟩), .int .i64 0]) ∧ Cl w w' O' w.heap.size (Pk false 0 0 []) [(d, Dk 0 0 0 0)]) :=
    hc1.new 2 3 32 (by simp) (by omega) (by omega) (by omega) (by omega) (by omega) (by omega)
  clear hc1
  go_wp2_with fail
  refine Hn.out.mono ?_
  rintro e w2 ⟨d, O2, rfl, hc2⟩
  have Hk0 : Hid (KS w w.heap.size w2.heap.size (Pk false 0 0 []) [(d, Dk 0 0 0 0)] (w2.alloc (.cells cs 5))) := ⟨O2, hc2.alloc _, Pg.new hc2.1 cs Hcs.out⟩
  clear hc2 Hn
  go_wp2_with fail
  have H3 : Hid (Calls Try.prog 16 #[.pointer (some ⟨d, 0, none⟩), .int .i64 0, .slice (some ⟨w2.heap.size, 0, none⟩) 32 32] (w2.alloc (.cells cs 5)) fun e w' => e = .returned (.int .i64 0) ∧ KS w w.heap.size w2.heap.size (Pk false 1 0 []) [(d, Dk 1 0 0 0)] w') :=
    Hk0.out.append (i := 0) rfl 0 (by simp) (by decide) (by decide)
  refine H3.out.mono ?_
  rintro e w3 ⟨rfl, hk3⟩
  have Hk3 := Lib.hid hk3
  clear hk3 H3 Hk0
  go_wp2_with fail
  have H4 : Hid (Calls Try.prog 16 #[.pointer (some ⟨d, 0, none⟩), .int .i64 0, .slice (some ⟨w2.heap.size, 0, none⟩) 32 32] w3 fun e w' => e = .returned (.int .i64 0) ∧ KS w w.heap.size w2.heap.size (Pk false 2 0 []) [(d, Dk 2 0 0 0)] w') :=
    Hk3.out.append (i := 0) rfl 0 (by simp) (by decide) (by decide)
  refine H4.out.mono ?_
  rintro e w4 ⟨rfl, hk4⟩
  have Hk4 := Lib.hid hk4
  clear hk4 H4 Hk3
  go_wp2_with fail
  have H5 : Hid (Calls Try.prog 17 #[.pointer (some ⟨d, 0, none⟩)] w4 fun e w' => e = .returned (.int .i64 0) ∧ KS w w.heap.size w2.heap.size (Pk false 3 0 []) [(d, Dk 2 2 0 0)] w') :=
    Hk4.out.flush (i := 0) rfl (by simp) (by decide) (by decide)
  refine H5.out.mono ?_
  rintro e w5 ⟨rfl, hk5⟩
  have Hk5 := Lib.hid hk5
  clear hk5 H5 Hk4
  go_wp2_with fail
  have H6 : Hid (Calls Try.prog 16 #[.pointer (some ⟨d, 0, none⟩), .int .i64 0, .slice (some ⟨w2.heap.size, 0, none⟩) 32 32] w5 fun e w' => e = .returned (.int .i64 0) ∧ KS w w.heap.size w2.heap.size (Pk false 4 0 []) [(d, Dk 3 2 0 0)] w') :=
    Hk5.out.append (i := 0) rfl 0 (by simp) (by decide) (by decide)
  refine H6.out.mono ?_
  rintro e w6 ⟨rfl, hk6⟩
  have Hk6 := Lib.hid hk6
  clear hk6 H6 Hk5
  go_wp2_with fail
  have H7 : Hid (Calls Try.prog 16 #[.pointer (some ⟨d, 0, none⟩), .int .i64 0, .slice (some ⟨w2.heap.size, 0, none⟩) 32 32] w6 fun e w' => e = .returned (.int .i64 5) ∧ KS w w.heap.size w2.heap.size (Pk false 4 0 []) [(d, Dk 3 2 0 0)] w') :=
    Hk6.out.append (i := 0) rfl 0 (by simp) (by decide) (by decide)
  refine H7.out.mono ?_
  rintro e w7 ⟨rfl, hk7⟩
  have Hk7 := Lib.hid hk7
  clear hk7 H7 Hk6
  go_wp2_with fail
  have H11 : Hid (Calls Try.prog 19 #[.pointer (some ⟨d, 0, none⟩), .int .i64 0] w7 fun e w' => e = .returned (.tuple #[.int .i64 3, .int .i64 0]) ∧ w7 = w') := Hk7.out.pointer (i := 0) rfl 0
  refine H11.out.mono ?_
  rintro e w' ⟨rfl, rfl⟩
  clear H11
  go_wp2_with fail
  have H9 : Hid (Calls Try.prog 21 #[.pointer (some ⟨w.heap.size, 0, none⟩)] w7 fun e w' => e = .returned (.bool false) ∧ w7 = w') := Hk7.out.off
  refine H9.out.mono ?_
  rintro e w' ⟨rfl, rfl⟩
  clear H9
  go_wp2_with fail
  have Hc := Lib.hid (lawCut_any w7)
  refine Hc.out.mono ?_
  rintro e w8 ⟨rfl, hb8⟩
  have Hb8 := Lib.hid hb8
  clear hb8 Hc
  go_wp2_with fail
  go_ret
  exact ⟨rfl, Hk7.out.below Hb8.out⟩
end Go.Proofs.Ytdnlikhfemhmeaa
