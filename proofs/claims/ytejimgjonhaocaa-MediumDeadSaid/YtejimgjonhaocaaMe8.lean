/-
  Make walked.
-/
import Derived.Test.YtejimgjonhaocaaMe7
import Derived.Shelf.SlSortCmp.QuietGrown
import Derived.BigQuiet
namespace Go.Proofs.Ytejimgjonhaocaa
open Go.RowKit Go.Maps Go.Lib Go.Sort

theorem below_grow (w : World) (n : Nat) (os : Array Obj) : Below w.heap.size w (grow (w.drewN n) os) :=
  ⟨rfl, rfl, rfl, by simp [grow, World.drewN], fun b hb => by simp [grow, World.drewN]; rw [Array.getElem?_append_left hb]⟩
theorem TabG.grown {w : World} {tb mb dep nxt N : Nat} {g : Gm} (h : TabG w tb mb dep nxt g N) (n : Nat) (os : Array Obj) : TabG (grow (w.drewN n) os) tb mb dep nxt g N := h.below (below_grow w n os)
section
set_option maxRecDepth 20000
set_option maxHeartbeats 1600000
variable {w w' : World} {tb mb dep nxt N : Nat} {L : List Md}
/-- Make's first look, refused: 1 -/
theorem make_bad (h : TabG w tb mb dep nxt (rowG L) N) (sz a : Int) {t : Nat} (ht : t < T64) (hbad : ¬ (1 ≤ sz ∧ sz ≤ 1048576) ∨ ¬ (0 ≤ a ∧ a ≤ 1048576) ∨ (t = 0 ∧ a ≠ 0)) :
    Calls Try.prog 23 #[.pointer (some ⟨tb, 0, none⟩), .int .i64 sz, .int .u64 (t : Int), .int .i64 a] w fun e w' => e = .returned (.tuple #[.int .u64 0, .int .i64 1]) ∧ Below w.heap.size w w' := by
  have c2 := h.t2
  have hlk := h.fetchL ht
  obtain ⟨x0, x1, x2, x3, x4, x5, hcs⟩ := rowC_form L t
  rw [hcs] at hlk
  obtain ⟨ok, hok⟩ : ∃ ok, ok = (look L t).isSome := ⟨_, rfl⟩
  rw [← hok] at hlk
  have Hm := Lib.hid fun w => mayHave_any sz w
  have Hl := Lib.hid fun w => mayLie_any a w
  have He : Hid (Below w.heap.size w (w.alloc (.cells #[.int .u64 x0, .int .u64 x1, .int .i64 x2, .int .i64 x3, .bool x4, .int .i64 x5] 75))) := (Below.refl _ _).alloc (Nat.le_refl _) _
  clear h ht hcs hok
  by_cases h1 : 1 ≤ sz ∧ sz ≤ 1048576
  · rw [decide_eq_true h1] at Hm
    by_cases h2 : 0 ≤ a ∧ a ≤ 1048576
    · rw [decide_eq_true h2] at Hl
      obtain ⟨h3, h4⟩ : t = 0 ∧ a ≠ 0 := by rcases hbad with q | q | q <;> first | exact absurd h1 q | exact absurd h2 q | exact q
      subst h3
      rw [show ((0 : Nat) : Int) = 0 from rfl] at hlk ⊢
      have h5 : ¬ a = 0 := h4
      clear hbad h1 h2 h4
      go_enter Try.func23, Try.ntmps23
      go_wp2_with (first
        | (go_at_call 36; refine (Hm.out _).mono ?_; rintro e w2 ⟨rfl, rfl⟩)
        | (go_at_call 37; refine (Hl.out _).mono ?_; rintro e w2 ⟨rfl, rfl⟩))
      go_ret2
      exact ⟨rfl, He.out⟩
    · rw [decide_eq_false h2] at Hl
      clear hbad h1 h2
      go_enter Try.func23, Try.ntmps23
      go_wp2_with (first
        | (go_at_call 36; refine (Hm.out _).mono ?_; rintro e w2 ⟨rfl, rfl⟩)
        | (go_at_call 37; refine (Hl.out _).mono ?_; rintro e w2 ⟨rfl, rfl⟩))
      go_ret2
      exact ⟨rfl, He.out⟩
  · rw [decide_eq_false h1] at Hm
    clear hbad h1
    go_enter Try.func23, Try.ntmps23
    go_wp2_with (first
      | (go_at_call 36; refine (Hm.out _).mono ?_; rintro e w2 ⟨rfl, rfl⟩)
      | (go_at_call 37; refine (Hl.out _).mono ?_; rintro e w2 ⟨rfl, rfl⟩))
    go_ret2
    exact ⟨rfl, He.out⟩
/-- .. there is no such target: 4 -/
theorem make_none (h : TabG w tb mb dep nxt (rowG L) N) {sz a : Int} (h1 : 1 ≤ sz ∧ sz ≤ 1048576) (h2 : 0 ≤ a ∧ a ≤ 1048576) {t : Nat} (ht : t < T64) (h0 : t ≠ 0) (hm : look L t = none) :
    Calls Try.prog 23 #[.pointer (some ⟨tb, 0, none⟩), .int .i64 sz, .int .u64 (t : Int), .int .i64 a] w fun e w' => e = .returned (.tuple #[.int .u64 0, .int .i64 4]) ∧ Below w.heap.size w w' := by
  have c2 := h.t2
  have hlk := h.fetch_none ht (rowG_none hm)
  unfold rowZ at hlk
  have Hm := Lib.hid fun w => mayHave_any sz w
  have Hl := Lib.hid fun w => mayLie_any a w
  rw [decide_eq_true h1] at Hm
  rw [decide_eq_true h2] at Hl
  have hz : ¬ (t : Int) = 0 := by omega
  have He : Hid (Below w.heap.size w (w.alloc (.cells #[.int .u64 0, .int .u64 0, .int .i64 0, .int .i64 0, .bool false, .int .i64 0] 75))) := (Below.refl _ _).alloc (Nat.le_refl _) _
  clear h ht hm h1 h2 h0
  go_enter Try.func23, Try.ntmps23
  go_wp2_with (first
    | (go_at_call 36; refine (Hm.out _).mono ?_; rintro e w2 ⟨rfl, rfl⟩)
    | (go_at_call 37; refine (Hl.out _).mono ?_; rintro e w2 ⟨rfl, rfl⟩))
  go_ret2
  exact ⟨rfl, He.out⟩
/-- .. it is not fixed: 11 -/
theorem make_read (h : TabG w tb mb dep nxt (rowG L) N) {sz a : Int} (h1 : 1 ≤ sz ∧ sz ≤ 1048576) (h2 : 0 ≤ a ∧ a ≤ 1048576) {t : Nat} (ht : t < T64) (h0 : t ≠ 0) {u : Md} (hm : look L t = some u) (hf : u.fixed = false) :
    Calls Try.prog 23 #[.pointer (some ⟨tb, 0, none⟩), .int .i64 sz, .int .u64 (t : Int), .int .i64 a] w fun e w' => e = .returned (.tuple #[.int .u64 0, .int .i64 11]) ∧ Below w.heap.size w w' := by
  have c2 := h.t2
  have hlk := h.fetch_some ht (rowG_some hm)
  unfold rowV at hlk
  rw [hf] at hlk
  have Hm := Lib.hid fun w => mayHave_any sz w
  have Hl := Lib.hid fun w => mayLie_any a w
  rw [decide_eq_true h1] at Hm
  rw [decide_eq_true h2] at Hl
  have hz : ¬ (t : Int) = 0 := by omega
  have He : Hid (Below w.heap.size w (w.alloc (.cells #[.int .u64 (u.id : Int), .int .u64 (u.tgt : Int), .int .i64 (u.off : Int), .int .i64 (u.size : Int), .bool false, .int .i64 (ups L t : Nat)] 75))) := (Below.refl _ _).alloc (Nat.le_refl _) _
  clear h ht hm h1 h2 h0 hf
  go_enter Try.func23, Try.ntmps23
  go_wp2_with (first
    | (go_at_call 36; refine (Hm.out _).mono ?_; rintro e w2 ⟨rfl, rfl⟩)
    | (go_at_call 37; refine (Hl.out _).mono ?_; rintro e w2 ⟨rfl, rfl⟩))
  go_ret2
  exact ⟨rfl, He.out⟩
/-- .. it would be too deep: 2 -/
theorem make_many (h : TabG w tb mb dep nxt (rowG L) N) (ho : Ok dep nxt L) (hx : nxt ≤ 1000000) {sz a : Int} (h1 : 1 ≤ sz ∧ sz ≤ 1048576) (h2 : 0 ≤ a ∧ a ≤ 1048576) {t : Nat} (ht : t < T64) (h0 : t ≠ 0) {u : Md} (hm : look L t = some u) (hf : u.fixed = true) (hd : dep ≤ deepL L t) :
    Calls Try.prog 23 #[.pointer (some ⟨tb, 0, none⟩), .int .i64 sz, .int .u64 (t : Int), .int .i64 a] w fun e w' => e = .returned (.tuple #[.int .u64 0, .int .i64 2]) ∧ Below w.heap.size w w' := by
  have c2 := h.t2
  have hlk := h.fetch_some ht (rowG_some hm)
  unfold rowV at hlk
  rw [hf] at hlk
  have Hm := Lib.hid fun w => mayHave_any sz w
  have Hl := Lib.hid fun w => mayLie_any a w
  rw [decide_eq_true h1] at Hm
  rw [decide_eq_true h2] at Hl
  have hz : ¬ (t : Int) = 0 := by omega
  have H1 := Lib.hid (h.alloc (.cells #[.int .u64 (u.id : Int), .int .u64 (u.tgt : Int), .int .i64 (u.off : Int), .int .i64 (u.size : Int), .bool true, .int .i64 (ups L t : Nat)] 75))
  have He : Hid (Below w.heap.size w (w.alloc (.cells #[.int .u64 (u.id : Int), .int .u64 (u.tgt : Int), .int .i64 (u.off : Int), .int .i64 (u.size : Int), .bool true, .int .i64 (ups L t : Nat)] 75))) := (Below.refl _ _).alloc (Nat.le_refl _) _
  have Hdp := Lib.hid fun W (hW : TabG W tb mb dep nxt (rowG L) N) => deep_any hW ho hx ht
  have k4 : (w.alloc (.cells #[.int .u64 (u.id : Int), .int .u64 (u.tgt : Int), .int .i64 (u.off : Int), .int .i64 (u.size : Int), .bool true, .int .i64 (ups L t : Nat)] 75)).cell? ⟨w.heap.size, 4, none⟩ = some (.bool true) := (Cells.new w _ _).cell rfl
  have hd1 : (dep : Int) ≤ (deepL L t : Nat) := by omega
  obtain ⟨d, hdl⟩ : ∃ d, d = deepL L t := ⟨_, rfl⟩
  rw [← hdl] at Hdp hd1
  clear h ht hm h1 h2 h0 hf hd hdl ho
  go_enter Try.func23, Try.ntmps23
  go_wp2_with (first
    | (go_at_call 36; refine (Hm.out _).mono ?_; rintro e w2 ⟨rfl, rfl⟩)
    | (go_at_call 37; refine (Hl.out _).mono ?_; rintro e w2 ⟨rfl, rfl⟩))
  generalize (w.alloc (.cells #[.int .u64 (u.id : Int), .int .u64 (u.tgt : Int), .int .i64 (u.off : Int), .int .i64 (u.size : Int), .bool true, .int .i64 (ups L t : Nat)] 75)) = w1 at *
  have d0 : ∀ n os, (grow (w1.drewN n) os).cell? ⟨tb, 0, none⟩ = some (.int .i64 (dep : Int)) := fun n os => cell_grown (a := ⟨tb, 0, none⟩) H1.out.tc.lt H1.out.t0 n os
  have Hdq : Hid (∀ n os, Calls Try.prog 14 #[.pointer (some ⟨tb, 0, none⟩), .int .u64 (t : Int)] (grow (w1.drewN n) os) fun e w' => e = .returned (.int .i64 (d : Nat)) ∧ ∃ q os', w' = grow ((grow (w1.drewN n) os).drewN q) os') := fun n os => Hdp.out _ (H1.out.grown n os)
  have HG : Hid (∀ n os, Below w.heap.size w (grow (w1.drewN n) os)) := fun n os => He.out.trans ((below_grow w1 n os).mono He.out.size)
  clear Hdp k4 c2 hlk He
  refine wp_region_quiet_grown (by kernel_rfl) (by kernel_rfl) ?_
  try simp only [List.append]
  repeat (go_big_quiet_step (first | (go_at_call 14; refine Calls.grown_of (Hdq.out _ _))))
  refine wpQuiet_nil ?_
  intro _ hw'
  obtain ⟨⟨nq, osq⟩, hw''⟩ := hw'
  subst hw''
  go_wp2_with fail
  go_ret2
  exact ⟨rfl, HG.out _ _⟩
end
end Go.Proofs.Ytejimgjonhaocaa
