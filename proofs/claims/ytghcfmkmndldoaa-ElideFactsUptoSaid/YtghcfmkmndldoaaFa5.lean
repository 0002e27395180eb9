/-
  The second saying's Compare; Right of both; copied.
-/
import Derived.Test.YtghcfmkmndldoaaFa4
namespace Go.Proofs.Ytghcfmkmndldoaa
open Go.RowKit Go.Sort Go.Lib

section
set_option maxRecDepth 100000
set_option maxHeartbeats 4000000
theorem rcmp_any (a b : Fc) (va vb : Value) (w : World) : Calls Try.prog 70 #[fcV a va, fcV b vb] w fun e w' => e = .returned (.int .i64 (cmpF a b)) ∧ Gr w w' := by
  rw [cmpF_or]
  obtain ⟨k1, s1, l1⟩ := a
  obtain ⟨k2, s2, l2⟩ := b
  unfold fcV
  dsimp only
  obtain ⟨W, hW⟩ : ∃ W, W = (w.alloc (.cells #[.string k1, .int .u64 (s1 : Int), va] 50)).alloc (.cells #[.string k2, .int .u64 (s2 : Int), vb] 50) := ⟨_, rfl⟩
  have e1 : (w.alloc (.cells #[.string k1, .int .u64 (s1 : Int), va] 50)).heap.size = w.heap.size + 1 := by simp
  have ka : Cells W w.heap.size 50 [.string k1, .int .u64 (s1 : Int), va] := by rw [hW]; exact (Cells.new w _ _).alloc _
  have kb : Cells W (w.heap.size + 1) 50 [.string k2, .int .u64 (s2 : Int), vb] := by rw [hW, ← e1]; exact Cells.new _ _ _
  have p0 : W.cell? ⟨w.heap.size, 0, none⟩ = some (.string k1) := ka.cell rfl
  have p1 : W.cell? ⟨w.heap.size, 1, none⟩ = some (.int .u64 (s1 : Int)) := ka.cell rfl
  have p2 : W.cell? ⟨w.heap.size + 1, 0, none⟩ = some (.string k2) := kb.cell rfl
  have p3 : W.cell? ⟨w.heap.size + 1, 1, none⟩ = some (.int .u64 (s2 : Int)) := kb.cell rfl
  have Hend : Hid (Gr w W) := by rw [hW]; exact (Gr.alloc w _).trans (Gr.alloc _ _)
  clear ka kb e1
  rcases less_total k1.toList k2.toList with h | h | h
  · rw [show orI (cmpK k1 k2) (cmpN s2 s1) = -1 by unfold cmpK orI; rw [if_pos h]; rfl]
    go_enter Try.func70, Try.ntmps70
    go_wp2_with fail
    rw [← hW]
    clear hW
    go_wp2_with fail
    all_goals
      go_ret
      exact ⟨rfl, Hend.out⟩
  · have := array_inj h
    subst this
    have h2 := less_irrefl k1.toList
    have h3 : (k1.toList == k1.toList) = true := by simp
    rw [show orI (cmpK k1 k1) (cmpN s2 s1) = cmpN s2 s1 by rw [cmpK_zero.2 rfl]; rfl]
    unfold cmpN
    rcases Nat.lt_trichotomy s2 s1 with q | q | q
    · rw [if_pos q]
      go_enter Try.func70, Try.ntmps70
      go_wp2_with fail
      rw [← hW]
      clear hW
      go_wp2_with fail
      all_goals
        go_ret
        exact ⟨rfl, Hend.out⟩
    · subst q
      rw [if_neg (Nat.lt_irrefl _), if_neg (Nat.lt_irrefl _)]
      go_enter Try.func70, Try.ntmps70
      go_wp2_with fail
      rw [← hW]
      clear hW
      go_wp2_with fail
      all_goals
        go_ret
        exact ⟨rfl, Hend.out⟩
    · have q' : ¬ s2 < s1 := by omega
      rw [if_neg q', if_pos q]
      go_enter Try.func70, Try.ntmps70
      go_wp2_with fail
      rw [← hW]
      clear hW
      go_wp2_with fail
      all_goals
        go_ret
        exact ⟨rfl, Hend.out⟩
  · have h2 := less_asymm h
    have h4 : ¬ k1.toList = k2.toList := by
      intro e
      rw [e, less_irrefl] at h
      cases h
    have h3 : (k1.toList == k2.toList) = false := by
      rw [beq_eq_false_iff_ne]
      exact h4
    have e2 : cmpK k1 k2 = 1 := by unfold cmpK; simp only [h2, h]; rfl
    rw [show orI (cmpK k1 k2) (cmpN s2 s1) = 1 by rw [e2]; rfl]
    clear e2
    go_enter Try.func70, Try.ntmps70
    go_wp2_with fail
    rw [← hW]
    clear hW
    go_wp2_with fail
    all_goals
      go_ret
      exact ⟨rfl, Hend.out⟩
theorem right_any (A : Option Addr) (c : Nat) (fs : List Fc) (w : World) (hl : fs.length ≤ 1099511627776) (hr : RF w w.heap.size A fs) :
    Calls Try.prog 53 #[.slice A fs.length c] w fun e w' => e = .returned (.bool (rightF fs)) ∧ Gr w w' := by
  have Hr := Lib.hid hr
  have hl' : ((fs.length : Nat) : Int) ≤ 1099511627776 := by omega
  have Hlen : Hid (∀ k : Nat, k < fs.length → ∃ u, fs[k]? = some u) := fun k hk => ⟨_, List.getElem?_eq_getElem hk⟩
  have Hc := Lib.hid cmp_any
  obtain ⟨n, hn⟩ : ∃ n, n = fs.length := ⟨_, rfl⟩
  rw [← hn] at hl' Hlen ⊢
  have Hn := Lib.hid hn
  clear hr hl hn
  go_enter Try.func53, Try.ntmps53
  go_wp2_with fail
  go_loopw [3] (fun iv wr => ∃ i : Nat, iv = .int .i64 ((i + 1 : Nat) : Int) ∧ (i = 0 ∨ i < n) ∧ Hid (rightF (fs.take (i + 1)) = true) ∧ Hid (Gr w wr)) (fun iv _ => n + 1 - (intOf iv).toNat)
  case atStart => exact ⟨0, rfl, .inl rfl, (by show rightF _ = true; cases fs with | nil => rfl | cons a l => rfl), Gr.refl w⟩
  case round =>
    obtain ⟨i, rfl, hi, hall, hg⟩ := hrel
    by_cases hlt : i + 1 < n
    · obtain ⟨a, ha⟩ := Hlen.out i (by omega)
      obtain ⟨b, hb⟩ := Hlen.out (i + 1) hlt
      have hrw := Hr.out.gr hg.out (Nat.le_refl _)
      obtain ⟨bk, o, va, rfl, hblt, a0, a1, a2, _⟩ := hrw.at_ ha
      obtain ⟨bk', o', vb, e, _, b0, b1, b2, _⟩ := hrw.at_ hb
      cases e
      have hlt' : (i : Int) + 1 < (n : Int) := by omega
      have hlt2 : (i : Int) < (n : Int) := by omega
      have hlt3 : i < n := by omega
      have hw1 : IntKind.i64.wrap ((i : Int) + 1 - 1) = (i : Int) := by rw [IntWalk.i64_left]; unfold wrap64; omega
      have hw2 : IntKind.i64.wrap (i : Int) = (i : Int) := by rw [IntWalk.i64_left]; unfold wrap64; omega
      have Hres : Hid (rightF (fs.take (i + 2)) = decide (cmpF a b < 0)) := rightF_take hall.out ha hb
      have Hw : Hid (∀ w1, Gr wr w1 → Gr w w1) := fun w1 h1 => hg.out.trans h1
      have Hg0 : Hid (Gr wr wr.drew) := Gr.drewN wr 1
      have Hcc := Lib.hid (fun w1 => Hc.out a b va vb w1)
      unfold fcV at Hcc
      generalize cmpF a b = cv at Hres Hcc
      obtain ⟨ka, sa, la⟩ := a
      obtain ⟨kb, sb, lb⟩ := b
      dsimp only at a0 a1 a2 b0 b1 b2 Hcc
      clear ha hb hrw hall hg Hlen Hr
      have hi0 : ((i + 1 : Nat) : Int) - 1 = (i : Int) := by omega
      have d0 : wr.drew.cell? ⟨bk, o + i * 3, none⟩ = some (.string ka) := a0
      have d1 : wr.drew.cell? ⟨bk, o + i * 3 + 1, none⟩ = some (.int .u64 (sa : Int)) := a1
      have d2 : wr.drew.cell? ⟨bk, o + i * 3 + 2, none⟩ = some va := a2
      have d3 : wr.drew.cell? ⟨bk, o + (i + 1) * 3, none⟩ = some (.string kb) := b0
      have d4 : wr.drew.cell? ⟨bk, o + (i + 1) * 3 + 1, none⟩ = some (.int .u64 (sb : Int)) := b1
      have d5 : wr.drew.cell? ⟨bk, o + (i + 1) * 3 + 2, none⟩ = some vb := b2
      by_cases hq : cv < 0
      · have Ha : Hid (rightF (fs.take (i + 2)) = true) := by show _ = _; rw [Hres.out]; exact decide_eq_true hq
        clear Hres
        go_upto_region 4 with fail
        go_region_with (go_at_call 69; refine (Hcc.out _).mono ?_; rintro e w3 ⟨rfl, h3⟩; have H3 := Lib.hid h3; clear h3)
        all_goals
          go_wp2_with fail
          exact ⟨⟨i + 1, by go_num, .inr (by omega), Ha.out, (by first | exact Hw.out _ H3.out | exact Hw.out _ ((Gr.drewN wr 1).trans H3.out))⟩, by simp [intOf]; omega⟩
      · have Ha : Hid (rightF fs = false) := rightF_prefix (i + 2) (by rw [Hres.out]; exact decide_eq_false hq)
        clear Hres
        go_upto_region 4 with fail
        go_region_with (go_at_call 69; refine (Hcc.out _).mono ?_; rintro e w3 ⟨rfl, h3⟩; have H3 := Lib.hid h3; clear h3)
        all_goals
          go_wp2_with fail
          go_ret
          exact ⟨by rw [Ha.out]; rfl, (by first | exact Hw.out _ H3.out | exact Hw.out _ ((Gr.drewN wr 1).trans H3.out))⟩
    · have Ha : Hid (rightF fs = true) := by
        have := hall.out
        rw [List.take_of_length_le (by have := Hn.out; omega)] at this
        exact this
      have Hg := hg
      have hlt' : ¬ ((i + 1 : Nat) : Int) < (n : Int) := by omega
      clear hall hg hi hlt
      go_wp2_with fail
      go_ret
      exact ⟨by rw [Ha.out]; rfl, Hg.out⟩
theorem rright_any (A : Option Addr) (c : Nat) (fs : List Fc) (w : World) (hl : fs.length ≤ 1099511627776) (hr : RF w w.heap.size A fs) :
    Calls Try.prog 54 #[.slice A fs.length c] w fun e w' => e = .returned (.bool (rightF fs)) ∧ Gr w w' := by
  have Hr := Lib.hid hr
  have hl' : ((fs.length : Nat) : Int) ≤ 1099511627776 := by omega
  have Hlen : Hid (∀ k : Nat, k < fs.length → ∃ u, fs[k]? = some u) := fun k hk => ⟨_, List.getElem?_eq_getElem hk⟩
  have Hc := Lib.hid rcmp_any
  obtain ⟨n, hn⟩ : ∃ n, n = fs.length := ⟨_, rfl⟩
  rw [← hn] at hl' Hlen ⊢
  have Hn := Lib.hid hn
  clear hr hl hn
  go_enter Try.func54, Try.ntmps54
  go_wp2_with fail
  go_loopw [3] (fun iv wr => ∃ i : Nat, iv = .int .i64 ((i + 1 : Nat) : Int) ∧ (i = 0 ∨ i < n) ∧ Hid (rightF (fs.take (i + 1)) = true) ∧ Hid (Gr w wr)) (fun iv _ => n + 1 - (intOf iv).toNat)
  case atStart => exact ⟨0, rfl, .inl rfl, (by show rightF _ = true; cases fs with | nil => rfl | cons a l => rfl), Gr.refl w⟩
  case round =>
    obtain ⟨i, rfl, hi, hall, hg⟩ := hrel
    by_cases hlt : i + 1 < n
    · obtain ⟨a, ha⟩ := Hlen.out i (by omega)
      obtain ⟨b, hb⟩ := Hlen.out (i + 1) hlt
      have hrw := Hr.out.gr hg.out (Nat.le_refl _)
      obtain ⟨bk, o, va, rfl, hblt, a0, a1, a2, _⟩ := hrw.at_ ha
      obtain ⟨bk', o', vb, e, _, b0, b1, b2, _⟩ := hrw.at_ hb
      cases e
      have hlt' : (i : Int) + 1 < (n : Int) := by omega
      have hlt2 : (i : Int) < (n : Int) := by omega
      have hlt3 : i < n := by omega
      have hw1 : IntKind.i64.wrap ((i : Int) + 1 - 1) = (i : Int) := by rw [IntWalk.i64_left]; unfold wrap64; omega
      have hw2 : IntKind.i64.wrap (i : Int) = (i : Int) := by rw [IntWalk.i64_left]; unfold wrap64; omega
      have Hres : Hid (rightF (fs.take (i + 2)) = decide (cmpF a b < 0)) := rightF_take hall.out ha hb
      have Hw : Hid (∀ w1, Gr wr w1 → Gr w w1) := fun w1 h1 => hg.out.trans h1
      have Hg0 : Hid (Gr wr wr.drew) := Gr.drewN wr 1
      have Hcc := Lib.hid (fun w1 => Hc.out a b va vb w1)
      unfold fcV at Hcc
      generalize cmpF a b = cv at Hres Hcc
      obtain ⟨ka, sa, la⟩ := a
      obtain ⟨kb, sb, lb⟩ := b
      dsimp only at a0 a1 a2 b0 b1 b2 Hcc
      clear ha hb hrw hall hg Hlen Hr
      have hi0 : ((i + 1 : Nat) : Int) - 1 = (i : Int) := by omega
      have d0 : wr.drew.cell? ⟨bk, o + i * 3, none⟩ = some (.string ka) := a0
      have d1 : wr.drew.cell? ⟨bk, o + i * 3 + 1, none⟩ = some (.int .u64 (sa : Int)) := a1
      have d2 : wr.drew.cell? ⟨bk, o + i * 3 + 2, none⟩ = some va := a2
      have d3 : wr.drew.cell? ⟨bk, o + (i + 1) * 3, none⟩ = some (.string kb) := b0
      have d4 : wr.drew.cell? ⟨bk, o + (i + 1) * 3 + 1, none⟩ = some (.int .u64 (sb : Int)) := b1
      have d5 : wr.drew.cell? ⟨bk, o + (i + 1) * 3 + 2, none⟩ = some vb := b2
      by_cases hq : cv < 0
      · have Ha : Hid (rightF (fs.take (i + 2)) = true) := by show _ = _; rw [Hres.out]; exact decide_eq_true hq
        clear Hres
        go_upto_region 4 with fail
        go_region_with (go_at_call 70; refine (Hcc.out _).mono ?_; rintro e w3 ⟨rfl, h3⟩; have H3 := Lib.hid h3; clear h3)
        all_goals
          go_wp2_with fail
          exact ⟨⟨i + 1, by go_num, .inr (by omega), Ha.out, (by first | exact Hw.out _ H3.out | exact Hw.out _ ((Gr.drewN wr 1).trans H3.out))⟩, by simp [intOf]; omega⟩
      · have Ha : Hid (rightF fs = false) := rightF_prefix (i + 2) (by rw [Hres.out]; exact decide_eq_false hq)
        clear Hres
        go_upto_region 4 with fail
        go_region_with (go_at_call 70; refine (Hcc.out _).mono ?_; rintro e w3 ⟨rfl, h3⟩; have H3 := Lib.hid h3; clear h3)
        all_goals
          go_wp2_with fail
          go_ret
          exact ⟨by rw [Ha.out]; rfl, (by first | exact Hw.out _ H3.out | exact Hw.out _ ((Gr.drewN wr 1).trans H3.out))⟩
    · have Ha : Hid (rightF fs = true) := by
        have := hall.out
        rw [List.take_of_length_le (by have := Hn.out; omega)] at this
        exact this
      have Hg := hg
      have hlt' : ¬ ((i + 1 : Nat) : Int) < (n : Int) := by omega
      clear hall hg hi hlt
      go_wp2_with fail
      go_ret
      exact ⟨by rw [Ha.out]; rfl, Hg.out⟩
end
end Go.Proofs.Ytghcfmkmndldoaa
