/-
  The second saying's Unquote.
-/
import Derived.Test.YtncaaiaffioegaaDoorNUnqStep
import Derived.Test.YtncaaiaffioegaaDoorNRefQuote
import Derived.Test.YtncaaiaffioegaaDoorNUnquote
namespace Go.Proofs.YtncaaiaffioegaaDoor
open Go.RowKit

set_option maxRecDepth 200000 in
set_option maxHeartbeats 4000000 in
theorem refUnquote_any (s : ByteArray) (w : World) (hs : s.size ≤ 4294967296) :
    Calls Tryd.prog 7 #[.string s] w fun e w' => e = .returned (unqVal (unquoteL s.data.toList)) ∧ Below w.heap.size w w' := by
  obtain ⟨R, hR⟩ : ∃ R, R = refUnqL s.data.toList := ⟨_, rfl⟩
  have HR := Lib.hid hR
  rw [← refUnqL_eq, ← hR]
  clear hR
  have hs' : (s.size : Int) ≤ 4294967296 := by omega
  have hsl : s.data.toList.length = s.size := rfl
  by_cases h2 : s.size < 2
  · have Hv : Hid (R = ([], 24)) := by show _ = _; rw [HR.out]; unfold refUnqL; rw [if_pos (.inl (by omega))]
    have e1 : (s.size : Int) < 2 := by omega
    clear h2 hsl hs
    go_enter Tryd.func7, Tryd.ntmps7
    go_wp2_with fail
    go_ret2
    exact ⟨by rw [Hv.out]; rfl, Below.refl _ _⟩
  have e1 : (2 : Int) ≤ (s.size : Int) := by omega
  have hi0 : ∀ W, (Instr.index 9 (.string s) (.int .i64 0)).run Tryd.prog W = .ok (.int .u8 ((s.data.toList.getD 0 0).toNat : Int)) W := fun W => index_at s 0 (by omega) W
  have hi1 : ∀ W, (Instr.index 9 (.string s) (.int .i64 ((s.size : Int) - 1))).run Tryd.prog W = .ok (.int .u8 ((s.data.toList.getD (s.size - 1) 0).toNat : Int)) W := by
    intro W
    have := index_at s (s.size - 1) (by omega) W
    rw [show ((s.size - 1 : Nat) : Int) = (s.size : Int) - 1 by omega] at this
    exact this
  have hRd : s.data.toList.getD 0 0 ≠ 34 ∨ s.data.toList.getD (s.size - 1) 0 ≠ 34 → R = ([], 24) := by
    intro h
    rw [HR.out]
    unfold refUnqL
    rw [if_pos (.inr (by rw [hsl]; exact h))]
  have hRm : s.data.toList.getD 0 0 = 34 → s.data.toList.getD (s.size - 1) 0 = 34 → R = unqOut s.data.toList (unescR (inner s.data.toList)) := by
    intro h3 h4
    rw [HR.out]
    exact refUnqL_main _ (by rw [hsl, h3, h4]; simp; omega)
  have ne34 : ∀ x : UInt8, x ≠ 34 → ((x.toNat : Int) != 34) = true := by
    intro x hx
    simp
    intro h
    apply hx
    apply UInt8.toNat_inj.1
    show x.toNat = 34
    omega
  by_cases hc0 : s.data.toList.getD 0 0 = 34
  case neg =>
    have Hv := Lib.hid (hRd (.inl hc0))
    have ht := ne34 _ hc0
    generalize (s.data.toList.getD 0 0).toNat = x0 at hi0 ht
    clear hRd hRm ne34 hi1 hc0 h2 hsl hs
    go_enter Tryd.func7, Tryd.ntmps7
    go_wp2_with fail
    go_ret2
    exact ⟨by rw [Hv.out]; rfl, Below.refl _ _⟩
  rw [hc0] at hi0
  have hi0' : ∀ W, (Instr.index 9 (.string s) (.int .i64 0)).run Tryd.prog W = .ok (.int .u8 34) W := hi0
  clear hi0
  by_cases hc1 : s.data.toList.getD (s.size - 1) 0 = 34
  case neg =>
    have Hv := Lib.hid (hRd (.inr hc1))
    have ht := ne34 _ hc1
    generalize (s.data.toList.getD (s.size - 1) 0).toNat = x0 at hi1 ht
    clear hRd hRm ne34 hc0 hc1 h2 hsl hs
    go_enter Tryd.func7, Tryd.ntmps7
    go_wp2_with fail
    go_ret2
    exact ⟨by rw [Hv.out]; rfl, Below.refl _ _⟩
  rw [hc1] at hi1
  have hi1' : ∀ W, (Instr.index 9 (.string s) (.int .i64 ((s.size : Int) - 1))).run Tryd.prog W = .ok (.int .u8 34) W := hi1
  clear hi1
  have hRR := hRm hc0 hc1
  have hin : (s.extract 1 (s.size - 1)).data.toList = inner s.data.toList := by
    rw [Lib.extract_data]
    unfold inner
    rw [show s.size - 1 - 1 = s.data.toList.length - 2 from by rw [hsl]; omega]
  have hsz : (s.extract 1 (s.size - 1)).size ≤ s.size := by
    show (s.extract 1 (s.size - 1)).data.toList.length ≤ _
    rw [Lib.extract_data, List.length_take, List.length_drop]
    omega
  rw [← hin] at hRR
  have HRR := Lib.hid hRR
  clear hRR hRm hRd ne34 hc0 hc1 hin h2 hsl HR
  go_enter Tryd.func7, Tryd.ntmps7
  go_wp2_with fail
  clear hi0' hi1'
  generalize s.extract 1 (s.size - 1) = t at *
  have hts : (t.size : Int) ≤ 4294967296 := by omega
  have Hss := Lib.hid hs
  have Hsz := Lib.hid hsz
  clear hs hsz e1
  obtain ⟨RT, hRT⟩ : ∃ RT, RT = unescR t.data.toList := ⟨_, rfl⟩
  rw [← hRT] at HRR
  have HRT := Lib.hid hRT
  clear hRT
  have Hval : Hid (∀ m : Nat, m < 256 → ∀ W, Calls Tryd.prog 15 #[.int .u8 (m : Int)] W fun e w' => e = .returned (.int .i64 (lval m)) ∧ W = w') := fun m hm W => value_any m hm W
  go_loopw [5, 6] (fun v i wr => ∃ (k : Nat) (acc : List UInt8), i = .int .i64 (k : Int) ∧ k ≤ t.size ∧ Hid (acc.length ≤ k) ∧ Hid (Own wr w.heap.size v acc) ∧ Hid (Below w.heap.size w wr) ∧ Hid (RT = (unescR (t.data.toList.drop k)).map (acc ++ ·))) (fun _ i _ => t.size - (intOf i).toNat)
  case atStart => exact ⟨0, [], rfl, Nat.zero_le _, by show _ ≤ _; simp, Own.nil _ _, Below.refl _ _, by show _ = _; rw [HRT.out, List.drop_zero]; cases unescR t.data.toList <;> simp⟩
  case round =>
    obtain ⟨k, acc, rfl, hk, hacc, hown, hbel, hres⟩ := hrel
    have htl : t.data.toList.length = t.size := rfl
    by_cases hlt : k < t.size
    case neg =>
      have hend : k = t.size := by omega
      subst hend
      have Hv : Hid (R = if quoteL acc = s.data.toList then (acc, 0) else ([], 24)) := by
        show _ = _
        rw [HRR.out, hres.out, unq_end _ _ (by rw [htl]; exact Nat.le_refl _)]
        simp [unqOut]
      have Hlen : Hid (acc.length ≤ 4294967296) := by show _ ≤ _; have := hacc.out; omega
      have Hsi : Hid (w.heap.size ≤ wr.heap.size) := hbel.out.size
      obtain ⟨A, c, rfl, _, hrb, _⟩ := hown.out.rb
      have hcv := text_run wr _ A acc c hrb
      have Hq1 := Lib.hid (refQuote_any ⟨acc.toArray⟩ wr (by show acc.length ≤ _; exact Hlen.out))
      obtain ⟨q, hq⟩ : ∃ q : ByteArray, q = ⟨(quoteL acc).toArray⟩ := ⟨_, rfl⟩
      have Hq2 : Hid (Calls Tryd.prog 9 #[.string ⟨acc.toArray⟩] wr fun e w' => e = .returned (.string q) ∧ Below wr.heap.size wr w') := by rw [hq]; exact Hq1.out
      have Hqe := Lib.hid hq
      clear Hq1 hq hrb hk htl hlt hacc hres hown HRT
      by_cases he : q = s
      · subst he
        have Hv2 : Hid (R = (acc, 0)) := by show _ = _; rw [Hv.out, if_pos (by rw [Hqe.out])]
        go_wp2_with (go_at_call 9; refine Hq2.out.mono ?_; rintro e w2 ⟨rfl, hb2⟩)
        go_ret2
        exact ⟨by rw [Hv2.out]; rfl, hbel.out.trans (hb2.mono Hsi.out)⟩
      · have Hv2 : Hid (R = ([], 24)) := by
          show _ = _
          rw [Hv.out, if_neg (fun h => he (by rw [Hqe.out, h]))]
        have hne : (q.toList == s.toList) = false := by
          rw [beq_eq_false_iff_ne]
          intro h
          rw [Lib.toList_data, Lib.toList_data] at h
          exact he (ByteArray.ext (Array.toList_inj.1 h))
        go_wp2_with (go_at_call 9; refine Hq2.out.mono ?_; rintro e w2 ⟨rfl, hb2⟩)
        go_ret2
        exact ⟨by rw [Hv2.out]; rfl, hbel.out.trans (hb2.mono Hsi.out)⟩
    have hlt' : (k : Int) < (t.size : Int) := by omega
    have Hsi : Hid (w.heap.size ≤ wr.heap.size) := hbel.out.size
    have hik := fun W => index_at t k hlt W
    have hxk := (t.data.toList.getD k 0).toNat_lt
    have Hal : Hid (acc.length + 1 ≤ 140737488355327) := by show _ ≤ _; have := hacc.out; omega
    have Fin : Hid (∀ (x : UInt8) (n : Nat) (v3 : Value) (w3 : World), 1 ≤ n → k + n ≤ t.size → unescR (t.data.toList.drop k) = (unescR (t.data.toList.drop (k + n))).map (x :: ·) → Own w3 w.heap.size v3 (acc ++ [x]) → Below w.heap.size w w3 →
        ∃ (k' : Nat) (acc : List UInt8), Value.int .i64 ((k + n : Nat) : Int) = .int .i64 (k' : Int) ∧ k' ≤ t.size ∧ Hid (acc.length ≤ k') ∧ Hid (Own w3 w.heap.size v3 acc) ∧ Hid (Below w.heap.size w w3) ∧ Hid (RT = (unescR (t.data.toList.drop k')).map (acc ++ ·))) := by
      intro x n v3 w3 g1 g2 g3 g4 g5
      refine ⟨k + n, acc ++ [x], rfl, g2, ?_, g4, g5, ?_⟩
      · show _ ≤ _
        rw [List.length_append, List.length_singleton]
        have := hacc.out
        omega
      · show _ = _
        rw [hres.out]
        exact map_none_add _ _ _ _ g3
    by_cases hc : (t.data.toList.getD k 0).toNat = 92
    case neg =>
      have Hst := Lib.hid (unq_plain _ k (by rw [htl]; exact hlt) hc)
      have hne : (((t.data.toList.getD k 0).toNat : Int) != 92) = true := int_ne _ 92 hc
      generalize t.data.toList.getD k 0 = x at hik Hst hne
      have Hq : Hid ([Value.int .u8 (x.toNat : Int)] = bvs [x]) := rfl
      generalize (x.toNat : Int) = xn at hik Hq hne
      clear hc hxk htl hlt hacc hres
      go_wp2_with (at_builtin; go_must (refine app_bytes rfl (.tmp 39) (.tmp 43) rfl w.heap.size _ acc rfl (Own.alloc hown.out _) _ (some ⟨wr.heap.size, 0, none⟩) 1 1 [x] rfl rfl (RB.new _ _ _ _ Hq.out) Hal.out (Nat.le_trans Hsi.out (by simp)) ?_); intro v9 W9 hown9 hbel9 hg9)
      go_roundw
      case rel => obtain ⟨k', acc', e, r⟩ := Fin.out x 1 _ _ (Nat.le_refl _) (by omega) Hst.out hown9 ((hbel.out.alloc Hsi.out _).trans hbel9); exact ⟨k', acc', by rw [← e]; go_num, r⟩
      case measure => simp [intOf]; omega
    have hik92 : ∀ W, (Instr.index 9 (.string t) (.int .i64 (k : Int))).run Tryd.prog W = .ok (.int .u8 92) W := by
      intro W
      rw [hik W, hc]
      rfl
    have HR0 : Hid (unescR (t.data.toList.drop k) = none → R = ([], 24)) := by
      show _ → _
      intro h
      rw [HRR.out, hres.out, h]
      rfl
    clear hik hxk
    by_cases h1 : k + 1 < t.size
    case neg =>
      have Hv := Lib.hid (HR0.out (unq_none _ k (by rw [htl]; exact hlt) hc (.inl (by rw [htl]; omega))))
      have h1' : (t.size : Int) ≤ (k : Int) + 1 := by omega
      have h3' : (t.size : Int) ≤ (k : Int) + 3 := by omega
      clear hc h1 htl hlt hacc hres hk
      go_wp2_with fail
      go_ret2
      exact ⟨by rw [Hv.out]; rfl, hbel.out⟩
    have h1' : (k : Int) + 1 < (t.size : Int) := by omega
    have hy1 := fun W => index_at t (k + 1) h1 W
    rw [show ((k + 1 : Nat) : Int) = (k : Int) + 1 by omega] at hy1
    by_cases hy : (t.data.toList.getD (k + 1) 0).toNat = 34 ∨ (t.data.toList.getD (k + 1) 0).toNat = 92
    · have Hst := Lib.hid (unq_esc _ k (by rw [htl]; exact h1) hc hy)
      have hyy : (((t.data.toList.getD (k + 1) 0).toNat : Int) == 34) = true ∨ ((((t.data.toList.getD (k + 1) 0).toNat : Int) == 34) = false ∧ (((t.data.toList.getD (k + 1) 0).toNat : Int) == 92) = true) := by
        rcases hy with hy | hy
        · exact .inl (by rw [hy]; rfl)
        · exact .inr ⟨by rw [hy]; rfl, by rw [hy]; rfl⟩
      generalize t.data.toList.getD (k + 1) 0 = y at hy1 Hst hyy
      have Hq : Hid ([Value.int .u8 (y.toNat : Int)] = bvs [y]) := rfl
      generalize (y.toNat : Int) = yn at hy1 Hq hyy
      clear hc hy htl hlt hacc hres hk
      rcases hyy with hyy | ⟨hyy, hyy2⟩
      all_goals
        go_wp2_with (at_builtin; go_must (refine app_bytes rfl (.tmp 65) (.tmp 70) rfl w.heap.size _ acc rfl (Own.alloc hown.out _) _ (some ⟨wr.heap.size, 0, none⟩) 1 1 [y] rfl rfl (RB.new _ _ _ _ Hq.out) Hal.out (Nat.le_trans Hsi.out (by simp)) ?_); intro v9 W9 hown9 hbel9 hg9)
        go_roundw
        case rel => obtain ⟨k', acc', e, r⟩ := Fin.out y 2 _ _ (by omega) (by omega) Hst.out hown9 ((hbel.out.alloc Hsi.out _).trans hbel9); exact ⟨k', acc', by rw [← e]; go_num, r⟩
        case measure => simp [intOf]; omega
    have hyA : (((t.data.toList.getD (k + 1) 0).toNat : Int) == 34) = false := int_neq _ 34 (by omega)
    have hyB : (((t.data.toList.getD (k + 1) 0).toNat : Int) == 92) = false := int_neq _ 92 (by omega)
    by_cases h3 : k + 3 < t.size
    case neg =>
      have Hv := Lib.hid (HR0.out (unq_none _ k (by rw [htl]; exact hlt) hc (.inr ⟨by rw [htl]; exact h1, hy, .inl (by rw [htl]; omega)⟩)))
      have h3' : (t.size : Int) ≤ (k : Int) + 3 := by omega
      generalize ((t.data.toList.getD (k + 1) 0).toNat : Int) = yn at hy1 hyA hyB
      clear hc hy htl hlt hacc hres hk
      go_wp2_with fail
      go_ret2
      exact ⟨by rw [Hv.out]; rfl, hbel.out⟩
    have h3' : (k : Int) + 3 < (t.size : Int) := by omega
    by_cases hx : (t.data.toList.getD (k + 1) 0).toNat = 120
    case neg =>
      have Hv := Lib.hid (HR0.out (unq_none _ k (by rw [htl]; exact hlt) hc (.inr ⟨by rw [htl]; exact h1, hy, .inr (fun h => hx h.1)⟩)))
      have hyC : (((t.data.toList.getD (k + 1) 0).toNat : Int) == 120) = false := int_neq _ 120 hx
      generalize ((t.data.toList.getD (k + 1) 0).toNat : Int) = yn at hy1 hyA hyB hyC
      clear hc hy htl hlt hacc hres hk hx
      go_wp2_with fail
      go_ret2
      exact ⟨by rw [Hv.out]; rfl, hbel.out⟩
    have hy120 : ∀ W, (Instr.index 9 (.string t) (.int .i64 ((k : Int) + 1))).run Tryd.prog W = .ok (.int .u8 120) W := by
      intro W
      rw [hy1 W, hx]
      rfl
    clear hy1 hyA hyB
    have ha2 := fun W => index_at t (k + 2) (by omega) W
    rw [show ((k + 2 : Nat) : Int) = (k : Int) + 2 by omega] at ha2
    have hb3 := fun W => index_at t (k + 3) h3 W
    rw [show ((k + 3 : Nat) : Int) = (k : Int) + 3 by omega] at hb3
    have Hal1 : Hid ((t.data.toList.getD (k + 2) 0).toNat < 256) := UInt8.toNat_lt _
    have Hal2 : Hid ((t.data.toList.getD (k + 3) 0).toNat < 256) := UInt8.toNat_lt _
    have hla := lval_le (t.data.toList.getD (k + 2) 0).toNat
    have hlb := lval_le (t.data.toList.getD (k + 3) 0).toNat
    by_cases hva : 0 ≤ lval (t.data.toList.getD (k + 2) 0).toNat
    case neg =>
      have Hv := Lib.hid (HR0.out (unq_none _ k (by rw [htl]; exact hlt) hc (.inr ⟨by rw [htl]; exact h1, hy, .inr (fun h => hva h.2.1)⟩)))
      generalize (t.data.toList.getD (k + 2) 0).toNat = na at ha2 hva hla Hal1
      have hva' : lval na < 0 := by omega
      clear hc hy htl hlt hacc hres hk hx hb3 hla hlb hva Hal2
      go_wp2_with (go_at_call 15; refine (Hval.out _ Hal1.out _).mono ?_; rintro e w' ⟨rfl, rfl⟩)
      go_ret2
      exact ⟨by rw [Hv.out]; rfl, hbel.out⟩
    by_cases hvb : 0 ≤ lval (t.data.toList.getD (k + 3) 0).toNat
    case neg =>
      have Hv := Lib.hid (HR0.out (unq_none _ k (by rw [htl]; exact hlt) hc (.inr ⟨by rw [htl]; exact h1, hy, .inr (fun h => hvb h.2.2)⟩)))
      generalize (t.data.toList.getD (k + 2) 0).toNat = na at ha2 hva hla Hal1
      generalize (t.data.toList.getD (k + 3) 0).toNat = nb at hb3 hvb hlb Hal2
      have hvb' : lval nb < 0 := by omega
      clear hc hy htl hlt hacc hres hk hx hla hlb hvb
      go_wp2_with (go_at_call 15; refine (Hval.out _ (by first | exact Hal1.out | exact Hal2.out) _).mono ?_; rintro e w' ⟨rfl, rfl⟩)
      go_ret2
      exact ⟨by rw [Hv.out]; rfl, hbel.out⟩
    have Hst := Lib.hid (unq_hex _ k (by rw [htl]; exact h3) hc hx hva hvb)
    generalize (t.data.toList.getD (k + 2) 0).toNat = na at ha2 hva hla Hal1 Hst
    generalize (t.data.toList.getD (k + 3) 0).toNat = nb at hb3 hvb hlb Hal2 Hst
    obtain ⟨x, hxe⟩ : ∃ x, x = UInt8.ofNat (16 * (lval na).toNat + (lval nb).toNat) := ⟨_, rfl⟩
    rw [← hxe] at Hst
    have Hq : Hid ([Value.int .u8 (16 * lval na + lval nb)] = bvs [x]) := by
      show _ = _
      rw [hxe]
      simp [bvs, bv]
      omega
    clear hc hy htl hlt hacc hres hk hx hxe
    have hw2 : IntKind.i64.wrap ((k : Int) + 2) = (k : Int) + 2 := IntWalk.i64_in _ (by omega)
    have hw3 : IntKind.i64.wrap ((k : Int) + 3) = (k : Int) + 3 := IntWalk.i64_in _ (by omega)
    have hwm : IntKind.i64.wrap (16 * lval na) = 16 * lval na := IntWalk.i64_in _ (by omega)
    have hws : IntKind.i64.wrap (16 * lval na + lval nb) = 16 * lval na + lval nb := IntWalk.i64_in _ (by omega)
    have hwc : IntKind.u8.wrap (16 * lval na + lval nb) = 16 * lval na + lval nb := by rw [IntKind.wrap_u8]; omega
    go_upto_region 15 with (go_at_call 15; refine (Hval.out _ (by first | exact Hal1.out | exact Hal2.out) _).mono ?_; rintro e w' ⟨rfl, rfl⟩)
    go_region_law (first
      | (go_simp; go_at_call 15; refine (Hval.out _ (by first | exact Hal1.out | exact Hal2.out) _).mono ?_; rintro e w' ⟨rfl, rfl⟩)
      | (go_must (refine step_app_bytes (by rfl) (.tmp 103) (.tmp 117) (by rfl) w.heap.size _ acc (by rfl) (Own.alloc (Own.drew hown.out) _) _ (some ⟨wr.heap.size, 0, none⟩) 1 1 [x] (by rfl) rfl (RB.new _ _ _ _ Hq.out) Hal.out (Nat.le_trans Hsi.out (by simp)) ?_); intro v9 W9 hown9 hbel9 hg9))
    all_goals
      clear hw2 hw3 hwm hws hwc
      go_wp2_with fail
      go_roundw
      case rel => obtain ⟨k', acc', e, r⟩ := Fin.out x 4 _ _ (by omega) (by omega) Hst.out hown9 ((hbel.out.drew.alloc (Nat.le_trans Hsi.out (by simp)) _).trans hbel9); exact ⟨k', acc', by rw [← e]; go_num, r⟩
      case measure => simp [intOf]; omega
end Go.Proofs.YtncaaiaffioegaaDoor
