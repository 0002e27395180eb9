/-
  The laws' SameRows.
-/
import Derived.Test.YtghcfmkmndldoaaFa20
namespace Go.Proofs.Ytghcfmkmndldoaa
open Go.RowKit Go.Sort Go.Lib

theorem take_succ_eq {α : Type} {xs ys : List α} {i : Nat} {a b : α} (h : xs.take i = ys.take i) (ha : xs[i]? = some a) (hb : ys[i]? = some b) (e : a = b) : xs.take (i + 1) = ys.take (i + 1) := by
  rw [List.take_add_one, List.take_add_one, h, ha, hb, e]
section
set_option maxRecDepth 100000
set_option maxHeartbeats 4000000
theorem sameRows_any (A1 A2 : Option Addr) (c1 c2 : Nat) (xs ys : List Fc) (w : World) (hl : xs.length ≤ 1099511627776) (hl2 : ys.length ≤ 1099511627776) (h1 : RF w w.heap.size A1 xs) (h2 : RF w w.heap.size A2 ys) :
    Calls Try.prog 32 #[.slice A1 xs.length c1, .slice A2 ys.length c2] w fun e w' => e = .returned (.bool (decide (xs = ys))) ∧ Gr w w' := by
  by_cases hne : xs.length = ys.length
  · have H1 := Lib.hid h1
    have H2 := Lib.hid h2
    have hl' : ((xs.length : Nat) : Int) ≤ 1099511627776 := by omega
    have Hlen : Hid (∀ k : Nat, k < xs.length → ∃ u v, xs[k]? = some u ∧ ys[k]? = some v) := fun k hk => ⟨_, _, List.getElem?_eq_getElem hk, List.getElem?_eq_getElem (by omega)⟩
    have Hs := Lib.hid same_anyF
    unfold fcV at Hs
    rw [← hne]
    have Hne := Lib.hid hne
    obtain ⟨n, hn⟩ : ∃ n, n = xs.length := ⟨_, rfl⟩
    rw [← hn] at hl' Hlen ⊢
    have Hn := Lib.hid hn
    clear h1 h2 hl hl2 hn hne
    go_enter Try.func32, Try.ntmps32
    go_wp2_with fail
    go_loopw [5] (fun iv wr => ∃ i : Nat, iv = .int .i64 (i : Int) ∧ i ≤ n ∧ Hid (xs.take i = ys.take i) ∧ Hid (Gr w wr)) (fun iv _ => n - (intOf iv).toNat)
    case atStart => exact ⟨0, rfl, Nat.zero_le _, rfl, Gr.refl w⟩
    case round =>
      obtain ⟨i, rfl, hi, hall, hg⟩ := hrel
      by_cases hlt : i < n
      · obtain ⟨a, b, ha, hb⟩ := Hlen.out i hlt
        have hr1 := (H1.out.gr hg.out (Nat.le_refl _)).wide hg.out.below.size
        have hr2 := (H2.out.gr hg.out (Nat.le_refl _)).wide hg.out.below.size
        obtain ⟨bk, o, va, rfl, hblt, a0, a1, a2, hva, _⟩ := hr1.at_ ha
        obtain ⟨bk2, o2, vb, rfl, hblt2, b0, b1, b2, hvb, _⟩ := hr2.at_ hb
        have hlt' : (i : Int) < (n : Int) := by omega
        have Hw : Hid (∀ w1, Gr wr w1 → Gr w w1) := fun w1 h1 => hg.out.trans h1
        have Hss : Hid (∀ w1, (w1 = wr ∨ w1 = wr.drew) → Calls Try.prog 29 #[.agg #[.string a.1, .int .u64 (a.2.1 : Int), va], .agg #[.string b.1, .int .u64 (b.2.1 : Int), vb]] w1 fun e w' => e = .returned (.bool (decide (a = b))) ∧ Gr wr w') := fun w1 hor => by
          rcases hor with rfl | rfl
          · exact Hs.out a b va vb w1 hva hvb
          · refine Calls.mono (Hs.out a b va vb wr.drew hva hvb) ?_
            rintro e w' ⟨h, k⟩
            exact ⟨h, (Gr.drewN wr 1).trans k⟩
        have Hyes : Hid (a = b → xs.take (i + 1) = ys.take (i + 1)) := fun e => take_succ_eq hall.out ha hb e
        have Hno : Hid (¬ a = b → ¬ xs = ys) := fun e q => by rw [q, hb] at ha; exact e (Option.some.inj ha).symm
        obtain ⟨ka, sa, la⟩ := a
        obtain ⟨kb, sb, lb⟩ := b
        dsimp only at a0 a1 a2 b0 b1 b2 Hss
        have d0 : wr.drew.cell? ⟨bk, o + i * 3, none⟩ = some (.string ka) := a0
        have d1 : wr.drew.cell? ⟨bk, o + i * 3 + 1, none⟩ = some (.int .u64 (sa : Int)) := a1
        have d2 : wr.drew.cell? ⟨bk, o + i * 3 + 2, none⟩ = some va := a2
        have d3 : wr.drew.cell? ⟨bk2, o2 + i * 3, none⟩ = some (.string kb) := b0
        have d4 : wr.drew.cell? ⟨bk2, o2 + i * 3 + 1, none⟩ = some (.int .u64 (sb : Int)) := b1
        have d5 : wr.drew.cell? ⟨bk2, o2 + i * 3 + 2, none⟩ = some vb := b2
        clear ha hb hr1 hr2 hall hg hlt Hlen hva hvb H1 H2
        by_cases hq : (ka, sa, la) = (kb, sb, lb)
        · have Ha := Lib.hid (Hyes.out hq)
          rw [decide_eq_true hq] at Hss
          clear Hyes Hno hq
          go_upto_region 6 with fail
          go_region_with (go_at_call 29; refine (Hss.out _ (by first | exact .inl (by with_reducible rfl) | exact .inr (by with_reducible rfl))).mono ?_; rintro e w3 ⟨rfl, h3⟩; have H3 := Lib.hid h3; clear h3)
          all_goals
            go_wp2_with fail
            exact ⟨⟨i + 1, by go_num, by omega, Ha.out, Hw.out _ H3.out⟩, by simp [intOf]; omega⟩
        · have Ha := Lib.hid (Hno.out hq)
          rw [decide_eq_false hq] at Hss
          clear Hyes Hno hq
          go_upto_region 6 with fail
          go_region_with (go_at_call 29; refine (Hss.out _ (by first | exact .inl (by with_reducible rfl) | exact .inr (by with_reducible rfl))).mono ?_; rintro e w3 ⟨rfl, h3⟩; have H3 := Lib.hid h3; clear h3)
          all_goals
            go_wp2_with fail
            go_ret
            exact ⟨by rw [decide_eq_false Ha.out]; rfl, Hw.out _ H3.out⟩
      · obtain rfl : i = n := by omega
        have Ha : Hid (xs = ys) := by
          have := hall.out
          rw [List.take_of_length_le (by have := Hn.out; omega), List.take_of_length_le (by have := Hn.out; have := Hne.out; omega)] at this
          exact this
        have Hg := hg
        have hlt' : ¬ (i : Int) < (i : Int) := by omega
        clear hall hg hlt
        go_wp2_with fail
        go_ret
        exact ⟨by rw [decide_eq_true Ha.out]; rfl, Hg.out⟩
  · have hb : (((xs.length : Nat) : Int) != ((ys.length : Nat) : Int)) = true := by rw [bne_iff_ne]; omega
    have hb2 : ¬ ((xs.length : Nat) : Int) = ((ys.length : Nat) : Int) := by omega
    have Ha : Hid (¬ xs = ys) := fun e => hne (by rw [e])
    generalize xs.length = n1 at *
    generalize ys.length = n2 at *
    clear h1 h2
    go_enter Try.func32, Try.ntmps32
    go_wp2_with fail
    go_ret
    exact ⟨by rw [decide_eq_false Ha.out]; rfl, Gr.refl w⟩
end
end Go.Proofs.Ytghcfmkmndldoaa
